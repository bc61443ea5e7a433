/- Stage 7, the laws: OrderKnown (made by wip/mkOrdU.py). -/
import Derived.Test.YtghghekdheeknaaDoorOrdVs
namespace Go.Proofs.YtghghekdheeknaaDoor
open Go.RowKit Go.Maps Odr Go.Shelf
attribute [local go_sem] Oper.semAt_some

theorem row_slice {w : World} {B n : Nat} {v : Value} {xs : List Value} (h : w.ownsRow B 45 3 v n xs) : ∃ ao c, v = .slice ao n c := by
  obtain ⟨_, ⟨e, hn⟩ | ⟨g', cap', cur, e, _⟩⟩ := h
  · rw [hn]; exact ⟨_, _, e⟩
  · exact ⟨_, _, e⟩
set_option maxRecDepth 100000 in
set_option maxHeartbeats 1000000 in
theorem bad_t {s : List UInt8} (h : keysR s = ([], 1)) (hl : (s.length : Int) ≤ 3000000000000) (w : World) : Calls Tryd.prog 30 #[textV s] w (TrueB w) := by
  have HK : Hid (∀ W, Calls Tryd.prog 17 #[textV s] W fun e W' => (∃ ao c, e = .returned (.tuple #[.slice ao 0 c, .int .i64 1])) ∧ BW W W') := fun W => by
    have h1 := keys_any s hl W
    rw [h] at h1
    refine h1.mono ?_
    rintro e W' ⟨v, rfl, ho, hb⟩
    obtain ⟨ao, c, rfl⟩ := row_slice ho
    exact ⟨⟨ao, c, rfl⟩, hb⟩
  obtain ⟨ts, hts⟩ : ∃ t, textV s = .string t := ⟨_, rfl⟩
  rw [hts] at HK ⊢
  clear h hl hts
  go_enter Tryd.func30, Tryd.ntmps30
  go_wp2_with fail
  refine (HK.out _).mono ?_
  rintro e w2 ⟨⟨ao, c, rfl⟩, h2⟩
  have H2 := Lib.hid h2
  clear h2
  go_wp2
  go_ret
  exact ⟨ret_bool (by simp), H2.out⟩
theorem kw_dec (W : World) (hE : Env W) : Calls Tryd.prog 9 #[.string ⟨#[49]⟩, .int .i64 10] W fun e W' => e = .returned (.tuple #[.int .i64 0, .int .i64 1]) ∧ BW W W' := decimal_any [49] 10 (by decide) W hE
theorem kw_text (W : World) (hE : Env W) : Calls Tryd.prog 11 #[.int .i64 1, .int .i64 (-1)] W fun e W' => e = .returned (.tuple #[.string ⟨#[]⟩, .int .i64 1]) ∧ BW W W' := text_any 1 (-1) (by decide) (by decide) W hE
theorem kd1 : decR [45, 48, 46, 48, 55] 2 = ((-7), 0) := by decide +kernel
theorem kd2 : decR [55] 0 = (7, 0) := by decide +kernel
theorem kd3 : decR [45, 48] 3 = (0, 0) := by decide +kernel
theorem kd4 : decR [57, 50, 50, 51, 51, 55, 50, 48, 51, 54, 56, 53, 52, 55, 55, 53, 56, 48, 55] 0 = (9223372036854775807, 0) := by decide +kernel
theorem kd5 : decR [45, 57, 50, 50, 51, 51, 55, 50, 48, 51, 54, 56, 53, 52, 55, 55, 53, 56, 48, 56] 0 = ((-9223372036854775808), 0) := by decide +kernel
theorem kd6 : decR [49, 46, 50, 51, 52] 2 = (0, 70) := by decide +kernel
theorem kd7 : decR [46, 53] 2 = (0, 70) := by decide +kernel
theorem kd8 : decR [53, 46] 2 = (0, 70) := by decide +kernel
theorem kd9 : decR [55, 46, 48] 0 = (0, 70) := by decide +kernel
theorem kd10 : decR [] 2 = (0, 70) := by decide +kernel
theorem kd11 : decR [57, 50, 50, 51, 51, 55, 50, 48, 51, 54, 56, 53, 52, 55, 55, 53, 56, 48, 56] 0 = (0, 70) := by decide +kernel
theorem kd12 : decR [57, 50, 50, 51, 51, 55, 50, 48, 51, 54, 56, 53, 52, 55, 55, 53, 56, 46, 48, 56] 2 = (0, 70) := by decide +kernel
theorem kd13 : decR [45] 0 = (0, 70) := by decide +kernel
theorem kd14 : decR [49, 32] 0 = (0, 70) := by decide +kernel
theorem kd15 : decR [48, 48, 48, 48, 48, 48, 48, 48, 48, 48, 48, 48, 48, 48, 48, 48, 48, 48, 48, 48] 0 = (0, 70) := by decide +kernel
theorem kd16 : decR [43, 49] 0 = (0, 70) := by decide +kernel
theorem kd17 : textR 1250 2 = ([49, 50, 46, 53, 48], 0) := by decide +kernel
theorem kd18 : textR 7 0 = ([55], 0) := by decide +kernel
theorem kd19 : textR (-9223372036854775808) 9 = ([45, 57, 50, 50, 51, 51, 55, 50, 48, 51, 54, 46, 56, 53, 52, 55, 55, 53, 56, 48, 56], 0) := by decide +kernel
theorem kd20 : textR 0 2 = ([48, 46, 48, 48], 0) := by decide +kernel
theorem kw_b103 (W : World) : Calls Tryd.prog 15 #[.slice (some ⟨W.heap.size, 0, none⟩) 1 1] (W.alloc (.cells #[.int .i64 3, .int .i64 0, .string ⟨#[]⟩] 45)) fun e W' => e = .returned (.tuple #[.string ⟨#[]⟩, .int .i64 1]) ∧ BW W W' := by
  have h := bytes_any (key_new W ⟨3, 0, []⟩) (by decide) (by decide) (by intro x hx; rw [List.mem_singleton] at hx; rw [hx]; exact ⟨by decide, by decide⟩)
  exact h.mono fun e W' ⟨h1, h2⟩ => ⟨h1, (bw_alloc W _).trans h2⟩
theorem kw_b109 (W : World) : Calls Tryd.prog 15 #[.slice (some ⟨W.heap.size, 0, none⟩) 1 1] (W.alloc (.cells #[.int .i64 1, .int .i64 0, .string ⟨#[97]⟩] 45)) fun e W' => e = .returned (.tuple #[.string ⟨#[]⟩, .int .i64 1]) ∧ BW W W' := by
  have h := bytes_any (key_new W ⟨1, 0, [97]⟩) (by decide) (by decide) (by intro x hx; rw [List.mem_singleton] at hx; rw [hx]; exact ⟨by decide, by decide⟩)
  exact h.mono fun e W' ⟨h1, h2⟩ => ⟨h1, (bw_alloc W _).trans h2⟩
theorem kw_k25 (W : World) : Calls Tryd.prog 17 #[.string ⟨#[0, 0]⟩] W fun e W' => (∃ ao c, e = .returned (.tuple #[.slice ao 2 c, .int .i64 0])) ∧ BW W W' := by
  have hr : keysR [0, 0] = (List.replicate 2 ⟨0, 0, []⟩, 0) := by decide +kernel
  have h := keys_any [0, 0] (by decide) W
  rw [hr] at h
  refine h.mono ?_
  rintro e W' ⟨v, rfl, ho, hb⟩
  obtain ⟨ao, c, rfl⟩ := row_slice ho
  exact ⟨⟨ao, c, rfl⟩, hb⟩
theorem kw_k26 (W : World) : Calls Tryd.prog 17 #[.string ⟨#[]⟩] W fun e W' => (∃ ao c, e = .returned (.tuple #[.slice ao 0 c, .int .i64 0])) ∧ BW W W' := by
  have hr : keysR [] = (List.replicate 0 ⟨0, 0, []⟩, 0) := by decide +kernel
  have h := keys_any [] (by decide) W
  rw [hr] at h
  refine h.mono ?_
  rintro e W' ⟨v, rfl, ho, hb⟩
  obtain ⟨ao, c, rfl⟩ := row_slice ho
  exact ⟨⟨ao, c, rfl⟩, hb⟩
theorem kd27 : keysR [2, 97] = ([], 1) := by decide +kernel
theorem kd28 : keysR [3] = ([], 1) := by decide +kernel
theorem kd29 : keysR [1, 128] = ([], 1) := by decide +kernel
theorem kd30 : keysR [2, 97, 0] = ([], 1) := by decide +kernel
theorem kd31 : keysR [2, 97, 0, 2] = ([], 1) := by decide +kernel
theorem kw_o169e : oneK ⟨0, 0, []⟩ = [0] := by decide +kernel
theorem kw_o169 (W : World) : Calls Tryd.prog 31 #[.agg #[.int .i64 0, .int .i64 0, .string ⟨#[]⟩], .slice (some ⟨W.heap.size, 0, none⟩) 1 1] (W.alloc (.cells #[.int .u8 0] 5)) fun e W' => e = .returned (.bool true) ∧ BW W W' := by
  have hs := src_new W #[.int .u8 0] 5 1 rfl (by decide)
  exact (bytes_t (k := ⟨0, 0, []⟩) (by decide +kernel) ⟨by decide, by decide⟩ (by decide) (by rw [kw_o169e]; exact hs)).mono fun e W' ⟨h1, h2⟩ => ⟨h1, (bw_alloc W _).trans h2⟩
theorem kw_o174e : oneK ⟨1, 1, []⟩ = [1, 128, 0, 0, 0, 0, 0, 0, 1] := by decide +kernel
theorem kw_o174 (W : World) : Calls Tryd.prog 31 #[.agg #[.int .i64 1, .int .i64 1, .string ⟨#[]⟩], .slice (some ⟨W.heap.size, 0, none⟩) 9 9] (W.alloc (.cells #[.int .u8 1, .int .u8 128, .int .u8 0, .int .u8 0, .int .u8 0, .int .u8 0, .int .u8 0, .int .u8 0, .int .u8 1] 5)) fun e W' => e = .returned (.bool true) ∧ BW W W' := by
  have hs := src_new W #[.int .u8 1, .int .u8 128, .int .u8 0, .int .u8 0, .int .u8 0, .int .u8 0, .int .u8 0, .int .u8 0, .int .u8 1] 5 9 rfl (by decide)
  exact (bytes_t (k := ⟨1, 1, []⟩) (by decide +kernel) ⟨by decide, by decide⟩ (by decide) (by rw [kw_o174e]; exact hs)).mono fun e W' ⟨h1, h2⟩ => ⟨h1, (bw_alloc W _).trans h2⟩
theorem kw_o179e : oneK ⟨1, (-1), []⟩ = [1, 127, 255, 255, 255, 255, 255, 255, 255] := by decide +kernel
theorem kw_o179 (W : World) : Calls Tryd.prog 31 #[.agg #[.int .i64 1, .int .i64 (-1), .string ⟨#[]⟩], .slice (some ⟨W.heap.size, 0, none⟩) 9 9] (W.alloc (.cells #[.int .u8 1, .int .u8 127, .int .u8 255, .int .u8 255, .int .u8 255, .int .u8 255, .int .u8 255, .int .u8 255, .int .u8 255] 5)) fun e W' => e = .returned (.bool true) ∧ BW W W' := by
  have hs := src_new W #[.int .u8 1, .int .u8 127, .int .u8 255, .int .u8 255, .int .u8 255, .int .u8 255, .int .u8 255, .int .u8 255, .int .u8 255] 5 9 rfl (by decide)
  exact (bytes_t (k := ⟨1, (-1), []⟩) (by decide +kernel) ⟨by decide, by decide⟩ (by decide) (by rw [kw_o179e]; exact hs)).mono fun e W' ⟨h1, h2⟩ => ⟨h1, (bw_alloc W _).trans h2⟩
theorem kw_r184 (W : World) : Calls Tryd.prog 23 #[.agg #[.int .i64 2, .int .i64 1, .string ⟨#[]⟩]] W fun e W' => e = .returned (.bool false) ∧ BW W W' := by
  have h := right_any ⟨2, 1, []⟩ W
  rw [show rightB ⟨2, 1, []⟩ = false by decide +kernel] at h
  exact h
theorem kw_r189 (W : World) : Calls Tryd.prog 23 #[.agg #[.int .i64 2, .int .i64 0, .string ⟨#[]⟩]] W fun e W' => e = .returned (.bool true) ∧ BW W W' := by
  have h := right_any ⟨2, 0, []⟩ W
  rw [show rightB ⟨2, 0, []⟩ = true by decide +kernel] at h
  exact h
set_option maxRecDepth 100000 in
set_option maxHeartbeats 4000000 in
theorem known_any (w : World) (hE : Env w) : Calls Tryd.prog 5 #[] w (TrueB w) := by
  have E0 := Lib.hid hE
  have B0 := Lib.hid (BW.refl w)
  clear hE
  go_enter Tryd.func5, Tryd.ntmps5
  go_wp2_with fail
  refine (awake_any _ E0.out).mono ?_
  rintro e W1 ⟨rfl, h1⟩
  have E1 := Lib.hid (E0.out.bw h1)
  have B1 := Lib.hid (B0.out.trans h1)
  clear h1 E0 B0
  go_wp2_with fail
  refine (decimal_t kd1 (by decide) _ E1.out).mono ?_
  rintro e W2 ⟨rfl, h2⟩
  have E2 := Lib.hid (E1.out.bw h2)
  have B2 := Lib.hid (B1.out.trans h2)
  clear h2 E1 B1
  go_wp2_with fail
  refine (decimal_t kd2 (by decide) _ E2.out).mono ?_
  rintro e W3 ⟨rfl, h3⟩
  have E3 := Lib.hid (E2.out.bw h3)
  have B3 := Lib.hid (B2.out.trans h3)
  clear h3 E2 B2
  go_wp2_with fail
  refine (decimal_t kd3 (by decide) _ E3.out).mono ?_
  rintro e W4 ⟨rfl, h4⟩
  have E4 := Lib.hid (E3.out.bw h4)
  have B4 := Lib.hid (B3.out.trans h4)
  clear h4 E3 B3
  go_wp2_with fail
  refine (decimal_t kd4 (by decide) _ E4.out).mono ?_
  rintro e W5 ⟨rfl, h5⟩
  have E5 := Lib.hid (E4.out.bw h5)
  have B5 := Lib.hid (B4.out.trans h5)
  clear h5 E4 B4
  go_wp2_with fail
  refine (decimal_t kd5 (by decide) _ E5.out).mono ?_
  rintro e W6 ⟨rfl, h6⟩
  have E6 := Lib.hid (E5.out.bw h6)
  have B6 := Lib.hid (B5.out.trans h6)
  clear h6 E5 B5
  go_wp2_with fail
  refine (none_t kd6 (by decide) _ E6.out).mono ?_
  rintro e W7 ⟨rfl, h7⟩
  have E7 := Lib.hid (E6.out.bw h7)
  have B7 := Lib.hid (B6.out.trans h7)
  clear h7 E6 B6
  go_wp2_with fail
  refine (none_t kd7 (by decide) _ E7.out).mono ?_
  rintro e W8 ⟨rfl, h8⟩
  have E8 := Lib.hid (E7.out.bw h8)
  have B8 := Lib.hid (B7.out.trans h8)
  clear h8 E7 B7
  go_wp2_with fail
  refine (none_t kd8 (by decide) _ E8.out).mono ?_
  rintro e W9 ⟨rfl, h9⟩
  have E9 := Lib.hid (E8.out.bw h9)
  have B9 := Lib.hid (B8.out.trans h9)
  clear h9 E8 B8
  go_wp2_with fail
  refine (none_t kd9 (by decide) _ E9.out).mono ?_
  rintro e W10 ⟨rfl, h10⟩
  have E10 := Lib.hid (E9.out.bw h10)
  have B10 := Lib.hid (B9.out.trans h10)
  clear h10 E9 B9
  go_wp2_with fail
  refine (none_t kd10 (by decide) _ E10.out).mono ?_
  rintro e W11 ⟨rfl, h11⟩
  have E11 := Lib.hid (E10.out.bw h11)
  have B11 := Lib.hid (B10.out.trans h11)
  clear h11 E10 B10
  go_wp2_with fail
  refine (none_t kd11 (by decide) _ E11.out).mono ?_
  rintro e W12 ⟨rfl, h12⟩
  have E12 := Lib.hid (E11.out.bw h12)
  have B12 := Lib.hid (B11.out.trans h12)
  clear h12 E11 B11
  go_wp2_with fail
  refine (none_t kd12 (by decide) _ E12.out).mono ?_
  rintro e W13 ⟨rfl, h13⟩
  have E13 := Lib.hid (E12.out.bw h13)
  have B13 := Lib.hid (B12.out.trans h13)
  clear h13 E12 B12
  go_wp2_with fail
  refine (none_t kd13 (by decide) _ E13.out).mono ?_
  rintro e W14 ⟨rfl, h14⟩
  have E14 := Lib.hid (E13.out.bw h14)
  have B14 := Lib.hid (B13.out.trans h14)
  clear h14 E13 B13
  go_wp2_with fail
  refine (none_t kd14 (by decide) _ E14.out).mono ?_
  rintro e W15 ⟨rfl, h15⟩
  have E15 := Lib.hid (E14.out.bw h15)
  have B15 := Lib.hid (B14.out.trans h15)
  clear h15 E14 B14
  go_wp2_with fail
  refine (none_t kd15 (by decide) _ E15.out).mono ?_
  rintro e W16 ⟨rfl, h16⟩
  have E16 := Lib.hid (E15.out.bw h16)
  have B16 := Lib.hid (B15.out.trans h16)
  clear h16 E15 B15
  go_wp2_with fail
  refine (none_t kd16 (by decide) _ E16.out).mono ?_
  rintro e W17 ⟨rfl, h17⟩
  have E17 := Lib.hid (E16.out.bw h17)
  have B17 := Lib.hid (B16.out.trans h17)
  clear h17 E16 B16
  go_wp2_with fail
  refine (text_t kd17 (by decide) (by decide) _ E17.out).mono ?_
  rintro e W18 ⟨rfl, h18⟩
  have E18 := Lib.hid (E17.out.bw h18)
  have B18 := Lib.hid (B17.out.trans h18)
  clear h18 E17 B17
  go_wp2_with fail
  refine (text_t kd18 (by decide) (by decide) _ E18.out).mono ?_
  rintro e W19 ⟨rfl, h19⟩
  have E19 := Lib.hid (E18.out.bw h19)
  have B19 := Lib.hid (B18.out.trans h19)
  clear h19 E18 B18
  go_wp2_with fail
  refine (text_t kd19 (by decide) (by decide) _ E19.out).mono ?_
  rintro e W20 ⟨rfl, h20⟩
  have E20 := Lib.hid (E19.out.bw h20)
  have B20 := Lib.hid (B19.out.trans h20)
  clear h20 E19 B19
  go_wp2_with fail
  refine (text_t kd20 (by decide) (by decide) _ E20.out).mono ?_
  rintro e W21 ⟨rfl, h21⟩
  have E21 := Lib.hid (E20.out.bw h21)
  have B21 := Lib.hid (B20.out.trans h21)
  clear h21 E20 B20
  go_wp2_with fail
  refine (kw_dec _ E21.out).mono ?_
  rintro e W22 ⟨rfl, h22⟩
  have E22 := Lib.hid (E21.out.bw h22)
  have B22 := Lib.hid (B21.out.trans h22)
  clear h22 E21 B21
  go_wp2_with fail
  refine (kw_text _ E22.out).mono ?_
  rintro e W23 ⟨rfl, h23⟩
  have E23 := Lib.hid (E22.out.bw h23)
  have B23 := Lib.hid (B22.out.trans h23)
  clear h23 E22 B22
  go_wp2_with fail
  refine (kw_b103 _).mono ?_
  rintro e W24 ⟨rfl, h24⟩
  have E24 := Lib.hid (E23.out.bw h24)
  have B24 := Lib.hid (B23.out.trans h24)
  clear h24 E23 B23
  go_wp2_with fail
  refine (kw_b109 _).mono ?_
  rintro e W25 ⟨rfl, h25⟩
  have E25 := Lib.hid (E24.out.bw h25)
  have B25 := Lib.hid (B24.out.trans h25)
  clear h25 E24 B24
  go_wp2_with fail
  refine (kw_k25 _).mono ?_
  rintro e W26 ⟨⟨ao25, cc25, rfl⟩, h26⟩
  have E26 := Lib.hid (E25.out.bw h26)
  have B26 := Lib.hid (B25.out.trans h26)
  clear h26 E25 B25
  go_wp2_with fail
  refine (kw_k26 _).mono ?_
  rintro e W27 ⟨⟨ao26, cc26, rfl⟩, h27⟩
  have E27 := Lib.hid (E26.out.bw h27)
  have B27 := Lib.hid (B26.out.trans h27)
  clear h27 E26 B26
  go_wp2_with fail
  refine (bad_t kd27 (by decide) _).mono ?_
  rintro e W28 ⟨rfl, h28⟩
  have E28 := Lib.hid (E27.out.bw h28)
  have B28 := Lib.hid (B27.out.trans h28)
  clear h28 E27 B27
  go_wp2_with fail
  refine (bad_t kd28 (by decide) _).mono ?_
  rintro e W29 ⟨rfl, h29⟩
  have E29 := Lib.hid (E28.out.bw h29)
  have B29 := Lib.hid (B28.out.trans h29)
  clear h29 E28 B28
  go_wp2_with fail
  refine (bad_t kd29 (by decide) _).mono ?_
  rintro e W30 ⟨rfl, h30⟩
  have E30 := Lib.hid (E29.out.bw h30)
  have B30 := Lib.hid (B29.out.trans h30)
  clear h30 E29 B29
  go_wp2_with fail
  refine (bad_t kd30 (by decide) _).mono ?_
  rintro e W31 ⟨rfl, h31⟩
  have E31 := Lib.hid (E30.out.bw h31)
  have B31 := Lib.hid (B30.out.trans h31)
  clear h31 E30 B30
  go_wp2_with fail
  refine (bad_t kd31 (by decide) _).mono ?_
  rintro e W32 ⟨rfl, h32⟩
  have E32 := Lib.hid (E31.out.bw h32)
  have B32 := Lib.hid (B31.out.trans h32)
  clear h32 E31 B31
  go_wp2_with fail
  refine (kw_o169 _).mono ?_
  rintro e W33 ⟨rfl, h33⟩
  have E33 := Lib.hid (E32.out.bw h33)
  have B33 := Lib.hid (B32.out.trans h33)
  clear h33 E32 B32
  go_wp2_with fail
  refine (kw_o174 _).mono ?_
  rintro e W34 ⟨rfl, h34⟩
  have E34 := Lib.hid (E33.out.bw h34)
  have B34 := Lib.hid (B33.out.trans h34)
  clear h34 E33 B33
  go_wp2_with fail
  refine (kw_o179 _).mono ?_
  rintro e W35 ⟨rfl, h35⟩
  have E35 := Lib.hid (E34.out.bw h35)
  have B35 := Lib.hid (B34.out.trans h35)
  clear h35 E34 B34
  go_wp2_with fail
  refine (kw_r184 _).mono ?_
  rintro e W36 ⟨rfl, h36⟩
  have E36 := Lib.hid (E35.out.bw h36)
  have B36 := Lib.hid (B35.out.trans h36)
  clear h36 E35 B35
  go_wp2_with fail
  refine (kw_r189 _).mono ?_
  rintro e W37 ⟨rfl, h37⟩
  have E37 := Lib.hid (E36.out.bw h37)
  have B37 := Lib.hid (B36.out.trans h37)
  clear h37 E36 B36
  go_wp2
  go_ret
  exact ⟨ret_bool (by simp), B37.out⟩
end Go.Proofs.YtghghekdheeknaaDoor
