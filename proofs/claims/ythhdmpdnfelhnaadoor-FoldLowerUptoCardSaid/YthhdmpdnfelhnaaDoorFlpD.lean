/- The program's Put. -/
import Derived.Test.YthhdmpdnfelhnaaDoorFlpB
import Derived.Test.YthhdmpdnfelhnaaDoorFlpL
namespace Go.Proofs.YthhdmpdnfelhnaaDoor
open Go.RowKit Go.Maps Fld
attribute [local go_sem] Oper.semAt_some

set_option maxRecDepth 100000 in
set_option maxHeartbeats 4000000 in
theorem put_any (r : Int) (h1 : -2147483648 ≤ r) (h2 : r ≤ 2147483647) (w : World) : Calls Tryd.prog 15 #[.int .i32 r] w (PutPost w r) := by
  have HV := Lib.hid (validRune_any r w)
  by_cases h : isRune r = true
  · obtain ⟨n, rfl⟩ : ∃ n : Nat, r = (n : Int) := ⟨r.toNat, by unfold isRune at h; rw [decide_eq_true_eq] at h; omega⟩
    have HE := Lib.hid (utf8_encode h)
    have H := Lib.hid h
    rw [h] at HV
    clear h
    go_enter Tryd.func15, Tryd.ntmps15
    go_wp2_with (go_at_call 26; refine HV.out.mono ?_; rintro e w' ⟨rfl, rfl⟩)
    go_ret2
    refine ⟨BW.refl _, .inl ⟨H.out, ?_⟩⟩
    rw [Int.toNat_natCast, ← HE.out]
    rfl
  · have h : isRune r = false := by simpa using h
    have H := Lib.hid h
    rw [h] at HV
    clear h
    go_enter Tryd.func15, Tryd.ntmps15
    go_wp2_with (go_at_call 26; refine HV.out.mono ?_; rintro e w' ⟨rfl, rfl⟩)
    go_ret2
    exact ⟨BW.refl _, .inr ⟨H.out, rfl⟩⟩
end Go.Proofs.YthhdmpdnfelhnaaDoor
