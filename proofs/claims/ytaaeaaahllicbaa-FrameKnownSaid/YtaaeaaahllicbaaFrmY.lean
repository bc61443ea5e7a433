/- An append of very many bytes behind few. -/
import Derived.Test.YtaaeaaahllicbaaFrmV
import Derived.Laws.OwnMore
namespace Go.Proofs.Ytaaeaaahllicbaa
open Go.RowKit Go.Maps Crc

theorem nextcap_big {need old : Nat} (h : old < need) (hb : need ≤ 140737488500000) : Builtin.nextslicecap need old * 1 ≤ 281474976710656 := by
  unfold Builtin.nextslicecap
  split
  · omega
  · split
    · omega
    · rw [growBy_four]
      repeat' split
      all_goals omega
theorem new_big {w : World} {base need old : Nat} {z : Value} {xs : List Value} (hz : z.cells.size = 1) (hl : xs.length = need) (hm : need ≤ maxLen) (hb : base ≤ w.heap.size) :
    (w.drew.alloc (.cells (xs.toArray ++ Builtin.zeroCells z.cells (grownCap w need old 5 - need)) 5)).ownsRow base 5 1 (.slice (some ⟨w.heap.size, 0, none⟩) need (grownCap w need old 5)) need xs := by
  have h1 := grownCap_ge w need old 5
  have h2 := grownCap_le_maxLen w need old 5 hm
  refine ⟨by omega, .inr ⟨w.heap.size, _, _, rfl, hb, heap_new w.drew _, h1, h2, ?_, ?_⟩⟩
  · rw [Array.size_append, size_zeroCells, hz, List.size_toArray, hl]; omega
  · rw [Array.toList_append, List.toList_toArray, Nat.mul_one, ← hl, List.take_left]
theorem App.refl {w : World} {base n t : Nat} {v : Value} {xs : List Value} (h : w.ownsRow base t 1 v n xs) : App v v w w := by
  obtain ⟨_, hv | ⟨g, cp, cur, hv, _⟩⟩ := h
  · exact .inr ⟨grown_refl _ _, fun a n c e => by rw [hv.1] at e; cases e⟩
  · exact .inl ⟨g, _, _, _, _, hv, hv, grown_refl _ _⟩
/-- an append of bytes, of whatever readable slice, and where it lies -/
theorem append_bytes_app {w : World} {ops : Array Oper} {rest : List Oper} {o : Oper} {a : Act} {Q : Exit → Act → World → Prop} (hgd : o.guard = none) (s x : Operand)
    (ho : o.op = .call { callee := .builtin .append, args := #[s, x], argTypes := #[23, 23] }) (base : Nat) (v : Value) (n : Nat) (xs : List UInt8) (hs : a.eval s = v) (hown : w.ownsRow base 5 1 v n (xs.map bV))
    (xv : Value) (hx : a.eval x = xv) (bs : List UInt8) (hsrc : Src w xv (bs.map bV)) (hb : n + bs.length ≤ 140737488500000) (hbase : base ≤ w.heap.size)
    (h : ∀ v' w', w'.ownsRow base 5 1 v' (n + bs.length) ((xs ++ bs).map bV) → App v v' w w' → wpList Try.prog ops Q rest (a.put o.dst v') w') : wpList Try.prog ops Q (o :: rest) a w := by
  obtain ⟨i0, hi, hz0, hz1, hz2⟩ := infoOf info_u8
  have hxl : xs.length = n := by have := hown.1; simpa using this
  have hm : n + bs.length ≤ maxLen := by unfold maxLen; omega
  have hempty : ∀ (ad : Addr) (cap : Nat), bs = [] → xv = .slice (some ad) 0 cap → wpList Try.prog ops Q (o :: rest) a w := fun ad cap hbs hv => by
    subst hbs
    rw [hv] at hx
    obtain ⟨_, hv2 | ⟨g, cp, cur, hv2, hg, hh, hnc, hcc, hcs, htk⟩⟩ := id hown
    · obtain ⟨hv3, hn0⟩ := hv2
      subst hn0
      refine wpList_append_own w hgd s x 23 ho base 5 i0 (.int .u8 0) 1 1 Try.underlying23 hi hz0 hz1 hz2 rfl (by decide) v 0 _ hs hown ad 0 cap [] hx rfl (fun j u hu => by simp at hu) (fun u hu => by simp at hu) (by unfold maxLen; omega) (by decide) hbase ?_
      intro v' w' g1 g2 g3
      refine h v' w' (by simpa using g1) (.inr ⟨?_, fun a n c e => ?_⟩)
      · rw [hv3] at g2; exact g2
      · rw [g3.2 ⟨hv3, rfl⟩] at e; cases e
    · have hown2 := hown
      rw [hv2] at hown2 hs
      obtain ⟨w', hr, h2, h3⟩ := run_append_fits (P := Try.prog) w base 23 o.type 5 i0 1 Try.underlying23 hi hz1 g n cp _ hown2 ad 0 cap [] rfl (fun j u hu => by simp at hu) (fun u hu => by simp at hu) (by omega)
      refine wpList_plain hgd fun K hK' => ?_
      unfold Oper.wp
      simp [execOp, ho, resolve, invoke, builtin, hs, hx, hr, Result.andThen]
      refine hK' _ _ (h _ w' ?_ ?_)
      · simpa using h2
      · rw [hv2]; exact .inl ⟨g, _, _, _, _, rfl, rfl, h3⟩
  rcases hsrc with ⟨ao, cap, hv, hxs, hz, _⟩ | ⟨b, off, cap, hv, hlc, hcm, _, h4⟩
  · have hbs : bs = [] := by simpa using hxs
    cases ao with
    | none =>
      subst hbs
      obtain rfl := hz rfl
      rw [hv] at hx
      refine wpList_append_own_none hgd s x 23 ho base 5 i0 1 Try.underlying23 hi v n _ hs hown hx ?_
      exact h v w (by simpa using hown) (App.refl hown)
    | some ad => exact hempty ad cap hbs hv
  · by_cases hb0 : bs = []
    · exact hempty ⟨b, off, none⟩ cap hb0 (by rw [hv, hb0]; rfl)
    have hbl : 0 < bs.length := List.length_pos_iff.2 hb0
    clear hempty
    rw [hv, List.length_map] at hx
    have hnews : ∀ j u, (bs.map bV)[j]? = some u → w.cell? ((⟨b, off, none⟩ : Addr).add j) = some u := fun j u hu => by rw [addOff]; exact h4 j u hu
    have hlb : (bs.map bV).length = bs.length * 1 := by simp
    have hone := bV_one bs
    have key : ∃ v' w', (Builtin.append_ #[23, 23] o.type #[v, .slice (some ⟨b, off, none⟩) bs.length cap]).run Try.prog w = .ok v' w' ∧ w'.ownsRow base 5 1 v' (n + bs.length) ((xs ++ bs).map bV) ∧ App v v' w w' := by
      obtain ⟨_, hv2 | ⟨g, cp, cur, hv2, hg, hh, hnc, hcc, hcs, htk⟩⟩ := id hown
      · obtain ⟨rfl, rfl⟩ := hv2
        have hx0 : xs = [] := List.eq_nil_of_length_eq_zero hxl
        subst hx0
        have hr := run_append_nil (P := Try.prog) w 23 o.type 5 i0 (.int .u8 0) Try.underlying23 hi hz0 ⟨b, off, none⟩ bs.length cap (bs.map bV) (by rw [hz1]; exact hlb) hnews (by omega) (by unfold maxLen at hm; omega) (by rw [hz2]; omega)
        refine ⟨_, _, hr, ?_, .inr ⟨⟨rfl, rfl, rfl, by simp, fun k hk _ => Below.heap_alloc w.drew _ k hk⟩, fun a n c e => by cases e; exact Nat.le_refl _⟩⟩
        have := new_big (w := w) (base := base) (need := bs.length) (old := 0) (z := .int .u8 0) (xs := bs.map bV) rfl (by simp) (by omega) hbase
        simpa using this
      · subst hv2
        by_cases hroom : n + bs.length ≤ cp
        · obtain ⟨w', hr, h2, h3⟩ := run_append_fits (P := Try.prog) w base 23 o.type 5 i0 1 Try.underlying23 hi hz1 g n cp _ hown ⟨b, off, none⟩ bs.length cap (bs.map bV) hlb hnews hone hroom
          exact ⟨_, w', hr, by rw [List.map_append]; exact h2, .inl ⟨g, _, _, _, _, rfl, rfl, h3⟩⟩
        · have holds : ∀ j u, (xs.map bV)[j]? = some u → w.cell? ((⟨g, 0, none⟩ : Addr).add j) = some u := fun j u hu => by
            obtain ⟨hj, he⟩ := List.getElem?_eq_some_iff.1 hu
            have := (row_cell hown rfl hj).1
            rw [addOff, ← he]; exact this
          have hr := run_append_grow (P := Try.prog) w 23 o.type 5 i0 (.int .u8 0) Try.underlying23 hi hz0 ⟨g, 0, none⟩ n cp (xs.map bV) (by rw [hz1]; simp [hxl]) holds ⟨b, off, none⟩ bs.length cap (bs.map bV) (by rw [hz1]; exact hlb) hnews (by omega) (by unfold maxLen at hm; omega) (by rw [hz2]; exact nextcap_big (by omega) hb)
          refine ⟨_, _, hr, ?_, .inr ⟨⟨rfl, rfl, rfl, by simp, fun k hk _ => Below.heap_alloc w.drew _ k hk⟩, fun a n c e => by cases e; exact Nat.le_refl _⟩⟩
          have := new_big (w := w) (base := base) (need := n + bs.length) (old := cp) (z := .int .u8 0) (xs := (xs ++ bs).map bV) rfl (by simp [hxl]) hm hbase
          simpa using this
    obtain ⟨v', w', hrun, r1, r2⟩ := key
    refine wpList_plain hgd fun K hK' => ?_
    unfold Oper.wp
    simp [execOp, ho, resolve, invoke, builtin, hs, hx, hrun, Result.andThen]
    exact hK' _ _ (h v' w' r1 r2)
/-- a slice put behind slices; as many as memory holds -/
theorem append_slice_far {w : World} {ops : Array Oper} {rest : List Oper} {o : Oper} {a : Act} {Q : Exit → Act → World → Prop} (hgd : o.guard = none) (s x : Operand)
    (ho : o.op = .call { callee := .builtin .append, args := #[s, x], argTypes := #[22, 22] }) (base : Nat) (v : Value) (n : Nat) (xs : List Value) (hs : a.eval s = v) (hown : w.ownsRow base 23 1 v n xs)
    (p : Nat) (hx : a.eval x = .slice (some ⟨p, 0, none⟩) 1 1) (ao : Option Addr) (an ac : Nat) (hc : w.cell? ⟨p, 0, none⟩ = some (.slice ao an ac)) (hb : (n + 1) * 24 ≤ 140737488355328) (hbase : base ≤ w.heap.size)
    (h : ∀ v' w', w'.ownsRow base 23 1 v' (n + 1) (xs ++ [.slice ao an ac]) → App v v' w w' → wpList Try.prog ops Q rest (a.put o.dst v') w') : wpList Try.prog ops Q (o :: rest) a w := by
  obtain ⟨i0, hi, hz0, hz1, hz2⟩ := infoOf info_bs
  refine wpList_append_two hgd s x 22 ho base 23 i0 (.slice none 0 0) 24 Try.underlying22 hi hz0 hz1 hz2 rfl v n _ hs hown ⟨p, 0, none⟩ 1 1 [.slice ao an ac] hx rfl ?_ ?_ (by unfold maxLen; omega) hb hbase (by decide) h
  · intro j u hu
    have : j = 0 := by have := (List.getElem?_eq_some_iff.1 hu).1; simp at this; omega
    subst this
    simp at hu
    subst hu
    rw [addOff]; exact hc
  · intro u hu; simp at hu; subst hu; rfl
end Go.Proofs.Ytaaeaaahllicbaa
