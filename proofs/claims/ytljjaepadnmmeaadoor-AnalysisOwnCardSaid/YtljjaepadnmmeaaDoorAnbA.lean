/- Stage 6, the program: blanks, stop words. -/
import Derived.Test.YtljjaepadnmmeaaDoorAnaM
namespace Go.Proofs.YtljjaepadnmmeaaDoor
open Go.RowKit Go.Maps Fld Ana
attribute [local go_sem] Oper.semAt_some

theorem blank_form (r : Int) : blankI r = ((r == 32) || (r == 133) || (r == 160) || (r == 8232) || (r == 8233) || (r == 12288) || (decide (9 ≤ r) && decide (r ≤ 13)) || (decide (8192 ≤ r) && decide (r ≤ 8202))) := by
  unfold blankI
  rw [Bool.eq_iff_iff]
  simp only [Bool.or_eq_true, Bool.and_eq_true, decide_eq_true_eq, beq_iff_eq]
  omega
set_option maxRecDepth 100000 in
set_option maxHeartbeats 8000000 in
theorem blank_any (r : Int) (w : World) : Calls Tryd.prog 22 #[.int .i32 r] w (BoolPost w (blankI r)) := by
  obtain ⟨q1, e1⟩ : ∃ q, (r == 32) = q := ⟨_, rfl⟩
  obtain ⟨q2, e2⟩ : ∃ q, (r == 133) = q := ⟨_, rfl⟩
  obtain ⟨q3, e3⟩ : ∃ q, (r == 160) = q := ⟨_, rfl⟩
  obtain ⟨q4, e4⟩ : ∃ q, (r == 8232) = q := ⟨_, rfl⟩
  obtain ⟨q5, e5⟩ : ∃ q, (r == 8233) = q := ⟨_, rfl⟩
  obtain ⟨q6, e6⟩ : ∃ q, (r == 12288) = q := ⟨_, rfl⟩
  obtain ⟨d1, f1⟩ : ∃ q, decide (9 ≤ r) = q := ⟨_, rfl⟩
  obtain ⟨d2, f2⟩ : ∃ q, decide (r ≤ 13) = q := ⟨_, rfl⟩
  obtain ⟨d3, f3⟩ : ∃ q, decide (8192 ≤ r) = q := ⟨_, rfl⟩
  obtain ⟨d4, f4⟩ : ∃ q, decide (r ≤ 8202) = q := ⟨_, rfl⟩
  obtain ⟨B, hB⟩ : ∃ B, B = blankI r := ⟨_, rfl⟩
  rw [← hB]
  rw [blank_form, e1, e2, e3, e4, e5, e6, f1, f2, f3, f4] at hB
  have HB := Lib.hid hB
  clear hB
  go_enter Tryd.func22, Tryd.ntmps22
  repeat' (first
    | (rename_i h; subst h)
    | go_values | go_skip | go_guarded | go_step | go_upon | go_back)
  all_goals (go_tidy; go_ret; refine ⟨ret_bool ?_, BW.refl _⟩; rw [HB.out]; clear HB; simp only [*, Bool.or_true, Bool.true_or, Bool.or_false, Bool.and_true, Bool.and_false, Bool.false_and, Bool.true_and, Bool.false_or])
theorem text_list (l : List UInt8) : (ByteArray.mk l.toArray).toList = l := by
  rw [ByteArray.toList_eq]
set_option maxRecDepth 100000 in
set_option maxHeartbeats 8000000 in
theorem stop_any (l : List UInt8) (w : World) : Calls Tryd.prog 20 #[textV l] w (BoolPost w (stopL l)) := by
  obtain ⟨tx, htx⟩ : ∃ tx, tx = ByteArray.mk l.toArray := ⟨_, rfl⟩
  unfold textV
  rw [← htx]
  have HE : Hid (tx.toList = l) := by unfold Hid; rw [htx]; exact text_list l
  have HTX := Lib.hid htx
  clear htx
  go_enter Tryd.func20, Tryd.ntmps20
  repeat' (first
    | (rename_i h; subst h)
    | go_values | go_skip | go_guarded | go_step | go_upon | go_back)
  all_goals first
    | (rename_i a b; rw [a] at b; exact absurd b (by decide))
    | (go_tidy; go_ret; refine ⟨ret_bool ?_, BW.refl _⟩; rw [← HE.out]; clear HE HTX; simp only [stopL, stopWords, List.contains_cons, List.contains_nil, *, Bool.or_true, Bool.true_or, Bool.or_false, Bool.false_or])
end Go.Proofs.YtljjaepadnmmeaaDoor
