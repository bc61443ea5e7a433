/- The program's Lower. -/
import Derived.Test.YtljjaepadnmmeaaDoorFlpB
namespace Go.Proofs.YtljjaepadnmmeaaDoor
open Go.RowKit Go.Maps Fld
attribute [local go_sem] Oper.semAt_some
theorem ret_i32 {a b : Int} (h : a = b) : Ending.returned (.int .i32 a) = .returned (.int .i32 b) := by rw [h]
set_option maxRecDepth 100000 in
set_option maxHeartbeats 8000000 in
theorem lower_any (r : Int) (_ : -2147483648 ≤ r) (_ : r ≤ 2147483647) (w : World) : Calls Tryd.prog 78 #[.int .i32 r] w (LowPost w (lowerI r)) := by
  obtain ⟨f, HF, HI⟩ := in_two r
  have HA := Lib.hid (fun W => alone_any r W)
  obtain ⟨al, hal⟩ : ∃ al, al = alone r := ⟨_, rfl⟩
  rw [← hal] at HA
  obtain ⟨L, hL⟩ : ∃ L, L = lowerI r := ⟨_, rfl⟩
  rw [← hL]
  have HD : Hid (L = if (f 65 90 || (f 192 222 && (r != 215)) || (f 913 939 && (r != 930)) || f 1040 1071) = true then wrap32 (r + 32)
  else if ((f 256 311 && (r != 304) && (r != 305)) || f 330 375 || f 1120 1153 || f 1162 1215 || f 1232 1327) = true then bits .or .i32 r 1
  else if (f 313 328 || f 377 382 || f 1217 1230) = true then wrap32 (r + bits .and .i32 r 1)
  else if f 904 906 = true then wrap32 (r + 37) else if f 910 911 = true then wrap32 (r + 63) else if f 1024 1039 = true then wrap32 (r + 80)
  else al) := by
    unfold Hid; rw [hL, ← lowP_eq, hal, HF.out]; unfold lowP; simp only [IntKind.wrap_i32, wrap32]
  obtain ⟨q1, e1⟩ : ∃ q, (r != 215) = q := ⟨_, rfl⟩
  obtain ⟨q2, e2⟩ : ∃ q, (r != 930) = q := ⟨_, rfl⟩
  obtain ⟨q3, e3⟩ : ∃ q, (r != 304) = q := ⟨_, rfl⟩
  obtain ⟨q4, e4⟩ : ∃ q, (r != 305) = q := ⟨_, rfl⟩
  rw [e1, e2, e3, e4] at HD
  clear HF hal hL
  go_enter Tryd.func78, Tryd.ntmps78
  repeat' (first
    | (go_at_call 73; refine (HI.out _ _ _).mono ?_; rintro e w' (⟨h, rfl, rfl⟩ | ⟨h, rfl, rfl⟩) <;> dsimp only)
    | (go_at_call 90; refine (HA.out _).mono ?_; rintro e w' ⟨rfl, rfl⟩; dsimp only)
    | (rename_i h; subst h)
    | go_values | go_skip | go_guarded | go_step | go_upon | go_back)
  all_goals (go_tidy; go_ret; refine ⟨ret_i32 ?_, BW.refl _⟩; rw [HD.out]; clear HI HD HA; simp only [*, Bool.or_true, Bool.true_or, Bool.or_false, Bool.and_true, Bool.and_false, Bool.false_and, if_true, if_false, Bool.false_eq_true])
end Go.Proofs.YtljjaepadnmmeaaDoor
