/- The program's Letter. -/
import Derived.Test.YtljjaepadnmmeaaDoorFlpB
namespace Go.Proofs.YtljjaepadnmmeaaDoor
open Go.RowKit Go.Maps Fld
attribute [local go_sem] Oper.semAt_some
set_option maxRecDepth 100000 in
set_option maxHeartbeats 8000000 in
theorem letter_any (r : Int) (_ : -2147483648 ≤ r) (_ : r ≤ 2147483647) (w : World) : Calls Tryd.prog 53 #[.int .i32 r] w (BoolPost w (letterI r)) := by
  obtain ⟨f, HF, HI⟩ := in_two r
  have HD : Hid (letterI r = (f 65 90 || f 97 122 || (r == 170) || (r == 181) || (r == 186) || f 192 214 || f 216 246 || f 248 687 || f 880 883 || f 886 887 || f 891 893 || (r == 895) || (r == 902) || f 904 906 || (r == 908) || f 910 929 || (f 931 1023 && !(r == 1014)) || (f 1024 1327 && !f 1154 1161) || f 1488 1514 || f 1568 1610 || f 2308 2361 || f 12353 12438 || f 12449 12538 || f 19968 40959 || f 44032 55203)) := by unfold Hid; rw [HF.out]; exact letter_form r
  obtain ⟨q1, e1⟩ : ∃ q, (r == 170) = q := ⟨_, rfl⟩
  obtain ⟨q2, e2⟩ : ∃ q, (r == 181) = q := ⟨_, rfl⟩
  obtain ⟨q3, e3⟩ : ∃ q, (r == 186) = q := ⟨_, rfl⟩
  obtain ⟨q4, e4⟩ : ∃ q, (r == 895) = q := ⟨_, rfl⟩
  obtain ⟨q5, e5⟩ : ∃ q, (r == 902) = q := ⟨_, rfl⟩
  obtain ⟨q6, e6⟩ : ∃ q, (r == 908) = q := ⟨_, rfl⟩
  obtain ⟨q7, e7⟩ : ∃ q, (r == 1014) = q := ⟨_, rfl⟩
  have e8 : (r != 1014) = !q7 := by rw [← e7]; rfl
  rw [e1, e2, e3, e4, e5, e6, e7] at HD
  clear HF
  go_enter Tryd.func53, Tryd.ntmps53
  repeat' (first
    | (go_at_call 73; refine (HI.out _ _ _).mono ?_; rintro e w' (⟨h, rfl, rfl⟩ | ⟨h, rfl, rfl⟩) <;> dsimp only)
    | (rename_i h; subst h)
    | go_values | go_skip | go_guarded | go_step | go_upon | go_back)
  all_goals (go_tidy; go_ret; refine ⟨ret_bool ?_, BW.refl _⟩; rw [HD.out]; clear HI HD e8; simp only [*, Bool.or_true, Bool.true_or, Bool.or_false, Bool.not_true, Bool.not_false, Bool.and_true, Bool.and_false, Bool.false_and])
end Go.Proofs.YtljjaepadnmmeaaDoor
