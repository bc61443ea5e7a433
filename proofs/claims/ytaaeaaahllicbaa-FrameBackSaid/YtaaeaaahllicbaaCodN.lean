/- Bytes put behind bytes; put. -/
import Derived.Test.YtaaeaaahllicbaaCodB
import Derived.Lib.AppendStr
import Derived.Laws.MakeOwn
import Derived.Laws.BitsAllLaws
namespace Go.Proofs.Ytaaeaaahllicbaa
open Go.RowKit Go.Maps

theorem grown_refl (w : World) (row : Option Nat) : w.grownBy w row := ⟨rfl, rfl, rfl, Nat.le_refl _, fun _ _ _ => rfl⟩
theorem bV_len (l : List UInt8) : (l.map bV).length = l.length * 1 := by simp

/-- append of bytes that can be read -/
theorem append_bytes {w : World} {ops : Array Oper} {rest : List Oper} {o : Oper} {a : Act} {Q : Exit → Act → World → Prop} (hgd : o.guard = none) (s x : Operand)
    (ho : o.op = .call { callee := .builtin .append, args := #[s, x], argTypes := #[23, 23] }) (base : Nat) (v : Value) (n : Nat) (xs : List UInt8) (hs : a.eval s = v) (hown : w.ownsRow base 5 1 v n (xs.map bV))
    (xv : Value) (hx : a.eval x = xv) (bs : List UInt8) (hsrc : Src w xv (bs.map bV)) (hb : n + bs.length ≤ 140737488355328) (hbase : base ≤ w.heap.size)
    (h : ∀ v' w', w'.ownsRow base 5 1 v' (n + bs.length) ((xs ++ bs).map bV) → w.grownBy w' v.ownBlock → wpList Try.prog ops Q rest (a.put o.dst v') w') : wpList Try.prog ops Q (o :: rest) a w := by
  obtain ⟨i0, hi, hz0, hz1, hz2⟩ := infoOf info_u8
  have hb1 : n + bs.length ≤ maxLen := by unfold maxLen; omega
  rcases hsrc with ⟨ao, cap, hv, hxs, hz, _⟩ | ⟨b, off, cap, hv, _, _, _, h4⟩
  · have hbs : bs = [] := by simpa using hxs
    subst hbs
    cases ao with
    | none =>
      obtain rfl := hz rfl
      rw [hv] at hx
      refine wpList_append_own_none hgd s x 23 ho base 5 i0 1 Try.underlying23 hi v n _ hs hown hx ?_
      exact h v w (by simpa using hown) (grown_refl _ _)
    | some ad =>
      rw [hv] at hx
      refine wpList_append_own w hgd s x 23 ho base 5 i0 (.int .u8 0) 1 1 Try.underlying23 hi hz0 hz1 hz2 rfl (by decide) v n _ hs hown ad 0 cap [] hx rfl (fun j u hu => by simp at hu) (fun u hu => by simp at hu) hb1 (by simpa using hb) hbase ?_
      intro v' w' g1 g2 _
      exact h v' w' (by simpa using g1) g2
  · rw [hv, List.length_map] at hx
    refine wpList_append_own w hgd s x 23 ho base 5 i0 (.int .u8 0) 1 1 Try.underlying23 hi hz0 hz1 hz2 rfl (by decide) v n _ hs hown ⟨b, off, none⟩ bs.length cap (bs.map bV) hx (bV_len bs) (fun j u hu => by rw [addOff]; exact h4 j u hu) (bV_one _) hb1 (by simpa using hb) hbase ?_
    intro v' w' g1 g2 _
    exact h v' w' (by simpa using g1) g2

theorem strCells_bV (s : ByteArray) : Lib.strCells s = s.data.toList.map bV := by
  first | rfl | simp [Lib.strCells, bV]

/-- .. of a text -/
theorem append_text {w : World} {ops : Array Oper} {rest : List Oper} {o : Oper} {a : Act} {Q : Exit → Act → World → Prop} (hgd : o.guard = none) (s x : Operand)
    (ho : o.op = .call { callee := .builtin .append, args := #[s, x], argTypes := #[23, 9] }) (base : Nat) (v : Value) (n : Nat) (xs : List UInt8) (hs : a.eval s = v) (hown : w.ownsRow base 5 1 v n (xs.map bV))
    (t : ByteArray) (hx : a.eval x = .string t) (hb : n + t.size ≤ 140737488355328) (hbase : base ≤ w.heap.size)
    (h : ∀ v' w', w'.ownsRow base 5 1 v' (n + t.size) ((xs ++ t.data.toList).map bV) → w.grownBy w' v.ownBlock → wpList Try.prog ops Q rest (a.put o.dst v') w') : wpList Try.prog ops Q (o :: rest) a w := by
  obtain ⟨i0, hi, hz0, hz1, hz2⟩ := infoOf info_u8
  refine Lib.wpList_append_own_string w hgd s x 23 9 ho base 5 i0 Try.underlying23 Try.underlying9 hi hz0 hz1 hz2 v n _ hs hown t hx (by unfold maxLen; omega) hb hbase ?_
  intro v' w' g1 g2 _
  rw [strCells_bV, ← List.map_append] at g1
  exact h v' w' g1 g2

end Go.Proofs.Ytaaeaaahllicbaa
