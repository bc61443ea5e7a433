/- FoldKinds, FoldTexts, known, FoldLower: the walks. -/
import Derived.Test.YthhdmpdnfelhnaaFldP
namespace Go.Proofs.Ythhdmpdnfelhnaa
open Go.RowKit Go.Maps Fld

def TruePost (w : World) (e : Ending) (w' : World) : Prop := e = .returned (.bool true) ∧ BW w w'
set_option maxHeartbeats 1000000 in
set_option maxRecDepth 100000 in
theorem foldTexts_any (l : List UInt8) (hl : (l.length : Int) ≤ 140737488355324) (w : World) : Calls Try.prog 4 #[textV l] w (TruePost w) := by
  have H1 := Lib.hid (fun W => fold_any l hl W)
  have H2 := Lib.hid (fun W => refFold_any l (by omega) W)
  unfold TextPost at H1 H2
  unfold textV at H1 H2 ⊢
  generalize foldL l = f at H1 H2
  generalize (ByteArray.mk l.toArray) = s at H1 H2 ⊢
  clear hl
  go_enter Try.func4, Try.ntmps4
  go_wp2_with fail
  refine (H1.out _).mono ?_
  rintro e w1 ⟨rfl, hb1⟩
  have HB1 := Lib.hid hb1
  clear hb1
  go_wp2_with fail
  refine (H2.out _).mono ?_
  rintro e w2 ⟨rfl, hb2⟩
  have HB2 := Lib.hid (HB1.out.trans hb2)
  clear hb2
  go_wp2
  go_ret
  exact ⟨ret_bool (by simp), HB2.out⟩

set_option maxHeartbeats 2000000 in
set_option maxRecDepth 100000 in
theorem foldKinds_any (r : Int) (h1 : -2147483648 ≤ r) (h2 : r ≤ 2147483647) (w : World) : Calls Try.prog 3 #[.int .i32 r] w (TruePost w) := by
  have HP := Lib.hid (fun W => put_any r h1 h2 W)
  have HRP := Lib.hid (fun W => refPut_any r W)
  have HL := Lib.hid (fun W => lower_any r h1 h2 W)
  have HRL := Lib.hid (fun W => refLower_any r W)
  have HT := Lib.hid (fun W => letter_any r h1 h2 W)
  have HRT := Lib.hid (fun W => refLetter_any r W)
  have HD := Lib.hid (fun W => digit_any r h1 h2 W)
  have HRD := Lib.hid (fun W => refDigit_any r W)
  have HM := Lib.hid (fun W => mark_any r h1 h2 W)
  have HRM := Lib.hid (fun W => refMark_any r W)
  generalize lowerI r = z at HL HRL
  generalize letterI r = b1 at HT HRT
  generalize digitI r = b2 at HD HRD
  generalize markI r = b3 at HM HRM
  have hz : (z == z) = true := by simp
  have hb1 : (b1 == b1) = true := by simp
  have hb2 : (b2 == b2) = true := by simp
  have hb3 : (b3 == b3) = true := by simp
  have key (st : ByteArray) (er : Int) (X1 : ∀ W, Calls Try.prog 5 #[.int .i32 r] W fun e w' => e = .returned (.tuple #[.string st, .int .i64 er]) ∧ BW W w') (X2 : ∀ W, Calls Try.prog 6 #[.int .i32 r] W fun e w' => e = .returned (.tuple #[.string st, .int .i64 er]) ∧ BW W w') :
      Calls Try.prog 3 #[.int .i32 r] w (TruePost w) := by
    have Y1 := Lib.hid X1
    have Y2 := Lib.hid X2
    clear X1 X2 HP HRP h1 h2
    go_enter Try.func3, Try.ntmps3
    go_wp2_with fail
    refine (Y1.out _).mono ?_
    rintro e w1 ⟨rfl, hq⟩
    have HB1 := Lib.hid hq
    clear hq
    go_wp2_with fail
    refine (Y2.out _).mono ?_
    rintro e w2 ⟨rfl, hq⟩
    have HB2 := Lib.hid (HB1.out.trans hq)
    clear hq
    go_wp2_with fail
    refine (HL.out _).mono ?_
    rintro e w3 ⟨rfl, hq⟩
    have HB3 := Lib.hid (HB2.out.trans hq)
    clear hq
    go_wp2_with fail
    refine (HRL.out _).mono ?_
    rintro e w4 ⟨rfl, hq⟩
    have HB4 := Lib.hid (HB3.out.trans hq)
    clear hq
    go_wp2_with fail
    refine (HT.out _).mono ?_
    rintro e w5 ⟨rfl, hq⟩
    have HB5 := Lib.hid (HB4.out.trans hq)
    clear hq
    go_wp2_with fail
    refine (HRT.out _).mono ?_
    rintro e w6 ⟨rfl, hq⟩
    have HB6 := Lib.hid (HB5.out.trans hq)
    clear hq
    go_wp2_with fail
    refine (HD.out _).mono ?_
    rintro e w7 ⟨rfl, hq⟩
    have HB7 := Lib.hid (HB6.out.trans hq)
    clear hq
    go_wp2_with fail
    refine (HRD.out _).mono ?_
    rintro e w8 ⟨rfl, hq⟩
    have HB8 := Lib.hid (HB7.out.trans hq)
    clear hq
    go_wp2_with fail
    refine (HM.out _).mono ?_
    rintro e w9 ⟨rfl, hq⟩
    have HB9 := Lib.hid (HB8.out.trans hq)
    clear hq
    go_wp2_with fail
    refine (HRM.out _).mono ?_
    rintro e w10 ⟨rfl, hq⟩
    have HB10 := Lib.hid (HB9.out.trans hq)
    clear hq
    go_wp2
    go_ret
    exact ⟨ret_bool (by simp), HB10.out⟩
  by_cases hr : isRune r = true
  · refine key ⟨(formP r.toNat).toArray⟩ 0 (fun W => (HP.out W).mono ?_) (fun W => (HRP.out W).mono ?_)
    · rintro e w' ⟨hb, ⟨_, rfl⟩ | ⟨hf, _⟩⟩
      · exact ⟨rfl, hb⟩
      · rw [hr] at hf; cases hf
    · rintro e w' ⟨hb, ⟨_, rfl⟩ | ⟨hf, _⟩⟩
      · exact ⟨rfl, hb⟩
      · rw [hr] at hf; cases hf
  · refine key ⟨#[]⟩ 50 (fun W => (HP.out W).mono ?_) (fun W => (HRP.out W).mono ?_)
    · rintro e w' ⟨hb, ⟨hf, _⟩ | ⟨_, rfl⟩⟩
      · exact absurd hf hr
      · exact ⟨rfl, hb⟩
    · rintro e w' ⟨hb, ⟨hf, _⟩ | ⟨_, rfl⟩⟩
      · exact absurd hf hr
      · exact ⟨rfl, hb⟩
end Go.Proofs.Ythhdmpdnfelhnaa
