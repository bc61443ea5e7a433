/- The document's Valid, Runes, Fold. -/
import Derived.Test.YtljjaepadnmmeaaDoorFldC
import Derived.Lib.AppendStr
namespace Go.Proofs.YtljjaepadnmmeaaDoor
open Go.RowKit Go.Maps Fld

theorem odd_head {l : List UInt8} (h : l ≠ []) : oddP ((nextL l).1, l.take (nextL l).2) = (decide ((nextL l).1 = 65533) && decide ((nextL l).2 = 1)) := by
  have hp := next_pos h
  unfold oddP
  have e : (l.take (nextL l).2).length = (nextL l).2 := by rw [List.length_take]; omega
  show ((nextL l).1 == 65533 && (l.take (nextL l).2).length == 1) = _
  rw [e]; rfl
theorem valid_step {l : List UInt8} (h : l ≠ []) : validL l = (!(decide ((nextL l).1 = 65533) && decide ((nextL l).2 = 1)) && validL (l.drop (nextL l).2)) := by
  unfold validL
  rw [cuts_step h, List.all_cons, odd_head h]
theorem drop_ne {l : List UInt8} {k : Nat} (h : k < l.length) : l.drop k ≠ [] := by
  intro e; have := congrArg List.length e; rw [List.length_drop] at this; simp at this; omega
theorem next_at {l : List UInt8} {k : Nat} (h : k < l.length) : 1 ≤ (nextL (l.drop k)).2 ∧ k + (nextL (l.drop k)).2 ≤ l.length ∧ (nextL (l.drop k)).2 ≤ 4 := by
  have := next_pos (drop_ne h)
  rw [List.length_drop] at this; omega
theorem next_rune {l : List UInt8} (h : l ≠ []) : (nextL l).1 ≤ 1114111 := by
  rcases split_head h with ⟨c, h1, _⟩ | ⟨h1, _⟩
  · rw [h1]; decide
  · exact (isRune_nat.1 h1).1

end Go.Proofs.YtljjaepadnmmeaaDoor
