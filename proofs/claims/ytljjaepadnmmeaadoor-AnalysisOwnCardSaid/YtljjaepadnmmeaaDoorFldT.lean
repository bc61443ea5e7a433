/- FoldWhole: the walk. -/
import Derived.Test.YtljjaepadnmmeaaDoorFldS
import Derived.Test.YtljjaepadnmmeaaDoorFldR
namespace Go.Proofs.YtljjaepadnmmeaaDoor
open Go.RowKit Go.Maps Fld Go.Shelf
attribute [local go_sem] Oper.semAt_some

theorem boxed_keep {W W' : World} {row : Option Nat} {B : Nat} {t : TypeId} {v : Value} (h : Boxed W B t v) (hg : W.grownBy W' row) (hr : ∀ r, row = some r → ∃ o : Obj, W.heap[r]? = some o ∧ o.isCells = false) : Boxed W' B t v :=
  h.kept hg (fun e => by
    obtain ⟨o, ho, hc⟩ := hr B e.symm
    rw [show W.heap[B]? = _ from h] at ho; cases ho; cases hc)
theorem boxed_bw {W W' : World} {B : Nat} {t : TypeId} {v : Value} (h : Boxed W B t v) (hb : BW W W') : Boxed W' B t v := (hb.block _ h.lt).trans h
theorem nextAt_in {l : List UInt8} {k : Nat} (h : k < l.length) : nextAt l (k : Int) = nextL (l.drop k) := by
  unfold nextAt; rw [if_neg (by omega)]; rfl
theorem prefix_at {ps pre : List (Nat × Nat)} {l : List UInt8} {k : Nat} (hk : k < l.length) (h : ps = pre ++ placesC k (cutsL (l.drop k))) : ps = (pre ++ [(k, (nextL (l.drop k)).1)]) ++ placesC (k + (nextL (l.drop k)).2) (cutsL (l.drop (k + (nextL (l.drop k)).2))) := by
  rw [h, places_step hk, List.append_assoc]; rfl
theorem prefix_not {ps pre : List (Nat × Nat)} {l : List UInt8} {k : Nat} (hk : k < l.length) (h : ps = pre ++ placesC k (cutsL (l.drop k))) {x : Nat × Nat} (hx : x ≠ (k, (nextL (l.drop k)).1)) : ¬ pre ++ [x] <+: ps := by
  rw [h, places_step hk, List.prefix_append_right_inj]
  intro h2
  exact hx (List.cons_prefix_cons.1 h2).1
theorem piece_rune {l : List UInt8} (h : l ≠ []) : isRune ((nextL l).1 : Int) = true := by
  rcases split_head h with ⟨c, h1, _⟩ | ⟨h1, _⟩
  · rw [h1]; decide
  · exact h1
end Go.Proofs.YtljjaepadnmmeaaDoor
