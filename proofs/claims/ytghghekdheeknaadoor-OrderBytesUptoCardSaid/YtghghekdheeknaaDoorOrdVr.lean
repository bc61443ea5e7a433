/- Stage 7, the program: Keys. -/
import Derived.Test.YtghghekdheeknaaDoorOrdVk
import Derived.Test.YtghghekdheeknaaDoorOrdG
import Derived.Maps.OwnIn
namespace Go.Proofs.YtghghekdheeknaaDoor
open Go.RowKit Go.Maps Odr Go.Shelf
attribute [local go_sem] Oper.semAt_some

theorem info_key : (Tryd.prog.info? 45).map (fun i => (i.zero, i.size, i.bytes)) = some (some (.agg #[.int .i64 0, .int .i64 0, .string ⟨#[]⟩]), 3, 32) := by kernel_rfl
theorem key_cell1 (l : List PKey) : ∀ u ∈ keyCells l, u.oneCell' = true := by
  intro u hu
  unfold keyCells at hu
  obtain ⟨k, _, hk⟩ := List.mem_flatMap.1 hu
  simp only [keyC, List.mem_cons, List.not_mem_nil, or_false] at hk
  rcases hk with rfl | rfl | rfl <;> rfl
/-- a readable row of keys, nil as nil -/
def KRow (w : World) (v : Value) (l : List PKey) : Prop := KSrc w v l ∧ ∀ n cap, v = .slice none n cap → cap = 0
theorem KRow.bw {w W : World} {v : Value} {l : List PKey} (h : KRow w v l) (hb : BW w W) : KRow W v l := ⟨h.1.bw hb, h.2⟩
set_option maxRecDepth 100000 in
/-- append of a row of keys to an owned one -/
theorem append_keys {w : World} {ops : Array Oper} {rest : List Oper} {o : Oper} {a : Act} {Q : Exit → Act → World → Prop} (hgd : o.guard = none) (s x : Operand)
    (ho : o.op = .call { callee := .builtin .append, args := #[s, x], argTypes := #[33, 33] }) {B n : Nat} {v0 : Value} {l0 : List PKey} (hs : a.eval s = v0) (hown : w.ownsRow B 45 3 v0 n (keyCells l0)) (hB : B ≤ w.heap.size) {l : List PKey} {v : Value} (hx : a.eval x = v) (hsrc : KRow w v l) (h4 : n + l.length ≤ 4000000000000)
    (h : ∀ v' w', w'.ownsRow B 45 3 v' (n + l.length) (keyCells (l0 ++ l)) → w.grownBy w' v0.ownBlock → (v'.ownBlock = v0.ownBlock ∨ v'.ownBlock = some w.heap.size) → wpList Tryd.prog ops Q rest (a.put o.dst v') w') : wpList Tryd.prog ops Q (o :: rest) a w := by
  obtain ⟨i0, hi9, hz0, hz1, hz2⟩ := infoOf info_key
  obtain ⟨⟨ao, cap, rfl, hc⟩, hcap⟩ := hsrc
  have hcat : keyCells (l0 ++ l) = keyCells l0 ++ keyCells l := by unfold keyCells; rw [List.flatMap_append]
  cases ao with
  | none =>
    have hc0 := hcap _ cap rfl
    subst hc0
    have hl : l = [] := by
      cases l with
      | nil => rfl
      | cons t r => obtain ⟨b, off, e, _⟩ := hc 0 (.int .i64 t.kind) (by simp [keyCells, keyC]); cases e
    subst hl
    refine wpList_append_own_none hgd s x 33 ho B 45 i0 3 Tryd.underlying33 hi9 _ n _ hs hown hx ?_
    exact h _ w (by rw [List.append_nil]; exact hown) (World.grownBy.refl _ _) (.inl rfl)
  | some ad =>
    refine wpList_append_own_at w hgd s x 33 ho B 45 i0 (.agg #[.int .i64 0, .int .i64 0, .string ⟨#[]⟩]) 3 32 Tryd.underlying33 hi9 hz0 hz1 hz2 rfl (by decide) _ n _ hs hown ad l.length cap (keyCells l) hx (keyCells_len l) (fun j u hu => ?_) (key_cell1 l) (by unfold maxLen; omega) (by omega) hB ?_
    · obtain ⟨b, off, e, hcell⟩ := hc j u hu
      injection e with e
      rw [e, show (⟨b, off, none⟩ : Addr).add j = ⟨b, off + j, none⟩ by unfold Addr.add; by_cases e : j = 0 <;> simp [e]]
      exact hcell
    · intro v' w' ho' hg' _ hat'
      rw [← hcat] at ho'
      exact h v' w' ho' hg' hat'
theorem row_type {w : World} {B n : Nat} {v : Value} {xs : List Value} (h : w.ownsRow B 45 3 v n xs) {g : Nat} (hg : v.ownBlock = some g) : B ≤ g ∧ ∃ c fz, w.heap[g]? = some (.cells c 45 fz) := by
  obtain ⟨a, k, c, rfl, rfl⟩ := own_some hg
  obtain ⟨_, ⟨e, _⟩ | ⟨g', cap', cur, e, hb, hh, _⟩⟩ := h
  · cases e
  · injection e with e1 e2 e3
    injection e1 with e1
    subst e1
    exact ⟨hb, _, _, hh⟩
theorem row_move {w W : World} {B n b : Nat} {v : Value} {xs : List Value} {r : List UInt8} (h : w.ownsRow B 45 3 v n xs) (hb : w.heap[b]? = some (rdr r)) (hm : Moves (fun k => k = b) w W) : W.ownsRow B 45 3 v n xs := by
  refine row_keep h fun a k c e => ?_
  obtain ⟨_, c', fz, hh⟩ := row_type h (g := a.block) (by rw [e]; rfl)
  refine hm.block _ (lt_of_heap hh) (fun e2 => ?_)
  rw [e2, hb] at hh
  injection hh with hh
  injection hh with _ h2 _
  exact absurd h2 (by decide)
theorem row_alloc {w : World} {B n : Nat} {v : Value} {xs : List Value} (h : w.ownsRow B 45 3 v n xs) (o : Obj) : (w.alloc o).ownsRow B 45 3 v n xs := by
  refine row_keep h fun a k c e => ?_
  obtain ⟨_, c', fz, hh⟩ := row_type h (g := a.block) (by rw [e]; rfl)
  exact Below.heap_alloc _ _ _ (lt_of_heap hh)
def keysR (l : List UInt8) : List PKey × Int := match keysK l with
  | some ks => (ks, 0)
  | none => ([], 1)
theorem read_less : ∀ {l t : List UInt8} {k : PKey}, readK l = some (k, t) → t.length < l.length
  | [], t, k, h => by cases h
  | c :: l, t, k, h => by
    simp only [readK] at h
    split at h
    · cases h; simp
    · split at h
      · split at h
        · cases h
        · cases h; simp; omega
      · split at h
        · cases hu : unesc l with
          | none => rw [hu] at h; cases h
          | some p =>
            rw [hu] at h
            cases h
            have := unesc_le _ l (Nat.le_refl _) p hu
            simp; omega
        · cases h
theorem keysK_some {l t : List UInt8} {k : PKey} (h : readK l = some (k, t)) : keysK l = (keysK t).map (k :: ·) := by
  have hlt := read_less h
  obtain ⟨n, hn⟩ : ∃ n, l.length = n + 1 := ⟨l.length - 1, by omega⟩
  unfold keysK
  rw [hn, keysF, if_neg (by intro e; rw [e] at hn; simp at hn), h]
  simp only
  rw [keysF_enough n t.length t (by omega) (Nat.le_refl _)]
theorem keysK_none {l : List UInt8} (hl : l ≠ []) (h : readK l = none) : keysK l = none := by
  obtain ⟨n, hn⟩ : ∃ n, l.length = n + 1 := ⟨l.length - 1, by have := List.length_pos_iff.2 hl; omega⟩
  unfold keysK
  rw [hn, keysF, if_neg hl, h]
theorem keysK_nil : keysK [] = some [] := rfl
def KeysPost (w : World) (r : List PKey × Int) (e : Ending) (w' : World) : Prop := ∃ v, e = .returned (.tuple #[v, .int .i64 r.2]) ∧ w'.ownsRow w.heap.size 45 3 v r.1.length (keyCells r.1) ∧ BW w w'
/-- where Keys stands -/
structure KsI (w : World) (l0 l : List UInt8) (ks : List PKey) (b : Nat) (v : Value) (W : World) : Prop where
  bw : BW w W
  blk : W.heap[b]? = some (rdr l)
  new : w.heap.size ≤ b
  row : W.ownsRow w.heap.size 45 3 v ks.length (keyCells ks)
  back : keysK l0 = (keysK l).map (ks ++ ·)
  len : ks.length + l.length ≤ l0.length
theorem KsI.on {w : World} {l0 l r : List UInt8} {ks : List PKey} {b : Nat} {v : Value} {W W' : World} (h : KsI w l0 l ks b v W) (hm : Mv b W r W') : BW w W' ∧ W'.heap[b]? = some (rdr r) ∧ W'.ownsRow w.heap.size 45 3 v ks.length (keyCells ks) := by
  refine ⟨RowKit.Below.trans h.bw (hm.mv.below (fun k e => e ▸ h.new) h.bw.size), hm.blk, row_move h.row h.blk hm.mv⟩
end Go.Proofs.YtghghekdheeknaaDoor
