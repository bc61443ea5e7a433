/- The program's Letter, Digit, Mark, Lower. -/
import Derived.Test.YtljjaepadnmmeaaDoorFldB
import Derived.Test.YtljjaepadnmmeaaDoorFlpA
namespace Go.Proofs.YtljjaepadnmmeaaDoor
open Go.RowKit Go.Maps Fld
attribute [local go_sem] Oper.semAt_some

theorem in_any (r a b : Int) (w : World) : Calls Tryd.prog 73 #[.int .i32 r, .int .i32 a, .int .i32 b] w fun e w' => e = .returned (.bool (decide (a ≤ r) && decide (r ≤ b))) ∧ w' = w := by
  obtain ⟨x, hx⟩ : ∃ x, x = (decide (a ≤ r) && decide (r ≤ b)) := ⟨_, rfl⟩
  rw [← hx]
  by_cases h1 : a ≤ r
  · by_cases h2 : r ≤ b
    · have d1 : decide (a ≤ r) = true := decide_eq_true h1
      have d2 : decide (r ≤ b) = true := decide_eq_true h2
      have HX : Hid (true = x) := by unfold Hid; rw [hx, d1, d2]; rfl
      clear hx
      go_enter Tryd.func73, Tryd.ntmps73
      go_wp2
      go_ret
      exact ⟨ret_bool HX.out, rfl⟩
    · have d1 : decide (a ≤ r) = true := decide_eq_true h1
      have d2 : decide (r ≤ b) = false := decide_eq_false h2
      have HX : Hid (false = x) := by unfold Hid; rw [hx, d1, d2]; rfl
      clear hx
      go_enter Tryd.func73, Tryd.ntmps73
      go_wp2
      go_ret
      exact ⟨ret_bool HX.out, rfl⟩
  · have d1 : decide (a ≤ r) = false := decide_eq_false h1
    have HX : Hid (false = x) := by unfold Hid; rw [hx, d1]; rfl
    clear hx
    go_enter Tryd.func73, Tryd.ntmps73
    go_wp2
    go_ret
    exact ⟨ret_bool HX.out, rfl⟩
def inB (r a b : Int) : Bool := decide (a ≤ r) && decide (r ≤ b)
theorem inB_iff {r a b : Int} : inB r a b = true ↔ a ≤ r ∧ r ≤ b := by unfold inB; rw [Bool.and_eq_true, decide_eq_true_eq, decide_eq_true_eq]
theorem inB_one {r a : Int} : inB r a a = (r == a) := by
  rw [Bool.eq_iff_iff, inB_iff, beq_iff_eq]; omega
/-- the tests of a range, told by a function that the walk does not open -/
theorem in_hid (r : Int) : ∃ f : Int → Int → Bool, Hid (f = inB r) ∧ Hid (∀ (a b : Int) (W : World), Calls Tryd.prog 73 #[.int .i32 r, .int .i32 a, .int .i32 b] W fun e w' => e = .returned (.bool (f a b)) ∧ w' = W) :=
  ⟨inB r, Lib.hid rfl, Lib.hid (fun a b W => in_any r a b W)⟩
/-- the same, its two answers apart: a walk meets a written Bool -/
theorem in_two (r : Int) : ∃ f : Int → Int → Bool, Hid (f = inB r) ∧ Hid (∀ (a b : Int) (W : World), Calls Tryd.prog 73 #[.int .i32 r, .int .i32 a, .int .i32 b] W fun e w' => (f a b = true ∧ e = .returned (.bool true) ∧ w' = W) ∨ (f a b = false ∧ e = .returned (.bool false) ∧ w' = W)) := by
  refine ⟨inB r, Lib.hid rfl, Lib.hid fun a b W => (in_any r a b W).mono ?_⟩
  rintro e w' ⟨rfl, rfl⟩
  show _ ∨ _
  cases h : inB r a b with
  | true => exact .inl ⟨rfl, by unfold inB at h; rw [h], rfl⟩
  | false => exact .inr ⟨rfl, by unfold inB at h; rw [h], rfl⟩
theorem letter_form (r : Int) : letterI r = (inB r 65 90 || inB r 97 122 || (r == 170) || (r == 181) || (r == 186) || inB r 192 214 || inB r 216 246 || inB r 248 687 || inB r 880 883 || inB r 886 887 || inB r 891 893 || (r == 895) || (r == 902) || inB r 904 906 || (r == 908) || inB r 910 929 || (inB r 931 1023 && (r != 1014)) || (inB r 1024 1327 && !inB r 1154 1161) || inB r 1488 1514 || inB r 1568 1610 || inB r 2308 2361 || inB r 12353 12438 || inB r 12449 12538 || inB r 19968 40959 || inB r 44032 55203) := by
  have h : (inB r 931 1013 || inB r 1015 1153 || inB r 1162 1327) = ((inB r 931 1023 && (r != 1014)) || (inB r 1024 1327 && !inB r 1154 1161)) := by
    rw [Bool.eq_iff_iff]
    simp only [Bool.or_eq_true, Bool.and_eq_true, Bool.not_eq_true', inB_iff, bne_iff_ne, ne_eq, ← Bool.not_eq_true]
    omega
  unfold letterI letterT
  simp only [amongB, Bool.or_false]
  rw [← inB_one, ← inB_one, ← inB_one, ← inB_one, ← inB_one, ← inB_one]
  have h2 : ∀ x y : Bool, (x || (inB r 931 1013 || (inB r 1015 1153 || (inB r 1162 1327 || y)))) = (x || ((inB r 931 1023 && (r != 1014)) || ((inB r 1024 1327 && !inB r 1154 1161) || y))) := fun x y => by
    rw [← Bool.or_assoc (inB r 931 1013), ← Bool.or_assoc (inB r 931 1013 || _), h, Bool.or_assoc]
  simp only [Bool.or_assoc]
  have h3 := h2 false
  simp only [Bool.false_or] at h3
  rw [← h3]
  rfl
theorem digit_form (r : Int) : digitI r = (inB r 48 57 || inB r 1632 1641 || inB r 2406 2415 || inB r 65296 65305) := by
  unfold digitI digitT; simp only [amongB, Bool.or_false, Bool.or_assoc]; rfl
theorem mark_form (r : Int) : markI r = (inB r 768 879 || inB r 1155 1161 || inB r 1425 1469 || inB r 1611 1631 || (r == 2364) || inB r 8400 8432 || inB r 65056 65071) := by
  unfold markI markT; simp only [amongB, Bool.or_false, Bool.or_assoc]; rw [← inB_one]; rfl
def alone (r : Int) : Int := if (r == 376) = true then 255 else if (r == 1216) = true then 1231 else if (r == 902) = true then 940 else if (r == 908) = true then 972 else r
def lowP (r : Int) : Int :=
  if (inB r 65 90 || (inB r 192 222 && (r != 215)) || (inB r 913 939 && (r != 930)) || inB r 1040 1071) = true then IntKind.i32.wrap (r + 32)
  else if ((inB r 256 311 && (r != 304) && (r != 305)) || inB r 330 375 || inB r 1120 1153 || inB r 1162 1215 || inB r 1232 1327) = true then bits .or .i32 r 1
  else if (inB r 313 328 || inB r 377 382 || inB r 1217 1230) = true then IntKind.i32.wrap (r + bits .and .i32 r 1)
  else if inB r 904 906 = true then IntKind.i32.wrap (r + 37) else if inB r 910 911 = true then IntKind.i32.wrap (r + 63) else if inB r 1024 1039 = true then IntKind.i32.wrap (r + 80)
  else alone r
set_option maxRecDepth 100000 in
theorem lowP_in : ∀ n : Nat, n < 1328 → lowP (n : Int) = lowerI (n : Int) := by decide +kernel
theorem lowP_eq (r : Int) : lowP r = lowerI r := by
  by_cases h : r < 0 ∨ 1327 < r
  · rw [lower_out h]
    have hf : ∀ a b : Int, 0 ≤ a → b ≤ 1327 → inB r a b = false := fun a b ha hb => by
      rw [← Bool.not_eq_true, inB_iff]; omega
    have hg : ∀ a : Int, 0 ≤ a → a ≤ 1327 → (r == a) = false := fun a ha hb => by rw [← inB_one]; exact hf a a ha hb
    unfold lowP alone
    simp only [hf 65 90 (by decide) (by decide), hf 192 222 (by decide) (by decide), hf 913 939 (by decide) (by decide), hf 1040 1071 (by decide) (by decide), hf 256 311 (by decide) (by decide), hf 330 375 (by decide) (by decide), hf 1120 1153 (by decide) (by decide), hf 1162 1215 (by decide) (by decide), hf 1232 1327 (by decide) (by decide), hf 313 328 (by decide) (by decide), hf 377 382 (by decide) (by decide), hf 1217 1230 (by decide) (by decide), hf 904 906 (by decide) (by decide), hf 910 911 (by decide) (by decide), hf 1024 1039 (by decide) (by decide), hg 376 (by decide) (by decide), hg 1216 (by decide) (by decide), hg 902 (by decide) (by decide), hg 908 (by decide) (by decide), Bool.false_and, Bool.or_false, Bool.false_eq_true, if_false]
  · obtain ⟨n, rfl⟩ : ∃ n : Nat, r = (n : Int) := ⟨r.toNat, by omega⟩
    exact lowP_in n (by omega)
set_option maxRecDepth 100000 in
set_option maxHeartbeats 4000000 in
theorem digit_any (r : Int) (_ : -2147483648 ≤ r) (_ : r ≤ 2147483647) (w : World) : Calls Tryd.prog 54 #[.int .i32 r] w (BoolPost w (digitI r)) := by
  obtain ⟨f, HF, HI⟩ := in_hid r
  have HD : Hid (digitI r = (f 48 57 || f 1632 1641 || f 2406 2415 || f 65296 65305)) := by unfold Hid; rw [HF.out]; exact digit_form r
  clear HF
  go_enter Tryd.func54, Tryd.ntmps54
  go_wp2_with (go_at_call 73; refine (HI.out _ _ _).mono ?_; rintro e w' ⟨rfl, rfl⟩)
  all_goals (go_ret; refine ⟨ret_bool ?_, BW.refl _⟩; rw [HD.out]; clear HI HD; simp_all)
set_option maxRecDepth 100000 in
set_option maxHeartbeats 4000000 in
theorem mark_any (r : Int) (_ : -2147483648 ≤ r) (_ : r ≤ 2147483647) (w : World) : Calls Tryd.prog 56 #[.int .i32 r] w (BoolPost w (markI r)) := by
  obtain ⟨f, HF, HI⟩ := in_hid r
  have HD : Hid (markI r = (f 768 879 || f 1155 1161 || f 1425 1469 || f 1611 1631 || (r == 2364) || f 8400 8432 || f 65056 65071)) := by unfold Hid; rw [HF.out]; exact mark_form r
  clear HF
  go_enter Tryd.func56, Tryd.ntmps56
  go_wp2_with (go_at_call 73; refine (HI.out _ _ _).mono ?_; rintro e w' ⟨rfl, rfl⟩)
  all_goals (go_ret; refine ⟨ret_bool ?_, BW.refl _⟩; rw [HD.out]; clear HI HD; simp_all)
set_option maxRecDepth 100000 in
theorem alone_any (r : Int) (w : World) : Calls Tryd.prog 90 #[.int .i32 r] w fun e w' => e = .returned (.int .i32 (alone r)) ∧ w' = w := by
  have HD : Hid (alone r = if (r == 376) = true then 255 else if (r == 1216) = true then 1231 else if (r == 902) = true then 940 else if (r == 908) = true then 972 else r) := Lib.hid rfl
  go_enter Tryd.func90, Tryd.ntmps90
  go_wp2
  all_goals (go_ret; refine ⟨?_, rfl⟩; rw [HD.out]; clear HD; simp_all)
end Go.Proofs.YtljjaepadnmmeaaDoor
