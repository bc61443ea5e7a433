/- PackKnown: the walk. -/
import Derived.Test.YtdoliejihinpkaaPackV
namespace Go.Proofs.Ytdoliejihinpkaa
open Go.RowKit Go.Maps
theorem pb6 : getP [] 1 = none := by decide +kernel
set_option maxHeartbeats 16000000 in
set_option maxRecDepth 100000 in
theorem known_any (w : World) : Calls Try.prog 5 #[] w (TruePost w) := by
  have HB := Lib.hid (BW.refl w)
  go_enter Try.func5, Try.ntmps5
  go_wp2_with fail
  refine (unbits_any (bs := [197, 0]) (src_newB w #[.int .u8 197, .int .u8 0] 2 [197, 0] rfl (by decide) rfl) 3 3 (by decide) (by decide)).mono ?_
  rintro e w1 hh
  obtain ⟨v1, rfl, hb, ho⟩ := unb_yes hh pu1
  clear hh
  have hbb : BW w w1 := (bw_alloc w _).trans hb
  have HB' := Lib.hid (HB.out.trans hbb); clear HB; have HB := Lib.hid HB'.out; clear HB'
  have HV1 := Lib.hid (Src.of_row ho)
  clear ho
  clear hb hbb
  go_wp2_with fail
  refine (unbits_any (bs := [197, 0]) (src_newB w1 #[.int .u8 197, .int .u8 0] 2 [197, 0] rfl (by decide) rfl) 3 6 (by decide) (by decide)).mono ?_
  rintro e w2 hh
  obtain ⟨rfl, hb⟩ := unb_no hh pu2
  clear hh
  have hbb : BW w1 w2 := (bw_alloc w1 _).trans hb
  have HV1' := Lib.hid (HV1.out.below hbb); clear HV1; have HV1 := Lib.hid HV1'.out; clear HV1'
  have HB' := Lib.hid (HB.out.trans hbb); clear HB; have HB := Lib.hid HB'.out; clear HB'
  clear hb hbb
  go_wp2_with fail
  refine (unbits_any (bs := [197, 128]) (src_newB w2 #[.int .u8 197, .int .u8 128] 2 [197, 128] rfl (by decide) rfl) 3 3 (by decide) (by decide)).mono ?_
  rintro e w3 hh
  obtain ⟨rfl, hb⟩ := unb_no hh pu3
  clear hh
  have hbb : BW w2 w3 := (bw_alloc w2 _).trans hb
  have HV1' := Lib.hid (HV1.out.below hbb); clear HV1; have HV1 := Lib.hid HV1'.out; clear HV1'
  have HB' := Lib.hid (HB.out.trans hbb); clear HB; have HB := Lib.hid HB'.out; clear HB'
  clear hb hbb
  go_wp2_with fail
  refine (unbits_arg (w := w3) (v := .slice none 0 0) (k := 65) (n := 0) (by decide) (by decide) (by decide) (by decide) (.inl (by decide))).mono ?_
  rintro e w4 ⟨rfl, hbe⟩
  have hb : BW w3 w4 := hbe ▸ BW.refl w3
  clear hbe
  have hbb : BW w3 w4 := hb
  have HV1' := Lib.hid (HV1.out.below hbb); clear HV1; have HV1 := Lib.hid HV1'.out; clear HV1'
  have HB' := Lib.hid (HB.out.trans hbb); clear HB; have HB := Lib.hid HB'.out; clear HB'
  clear hb hbb
  go_wp2_with fail
  refine (unbits_arg (w := w4) (v := .slice none 0 0) (k := 0) (n := 1048577) (by decide) (by decide) (by decide) (by decide) (.inr (by decide))).mono ?_
  rintro e w5 ⟨rfl, hbe⟩
  have hb : BW w4 w5 := hbe ▸ BW.refl w4
  clear hbe
  have hbb : BW w4 w5 := hb
  have HV1' := Lib.hid (HV1.out.below hbb); clear HV1; have HV1 := Lib.hid HV1'.out; clear HV1'
  have HB' := Lib.hid (HB.out.trans hbb); clear HB; have HB := Lib.hid HB'.out; clear HB'
  clear hb hbb
  obtain ⟨zl, hz1, hz2⟩ := big_zero
  go_wp2_with fail
  refine (unbits_any (w := w5) (v := .slice none 0 0) (bs := []) (Src.nil w5) 0 1048576 (by decide) (by decide)).mono ?_
  rintro e w6 hh
  obtain ⟨v6, rfl, hb, ho⟩ := unb_yes hh hz1
  clear hh
  have hbb : BW w5 w6 := hb
  have HV1' := Lib.hid (HV1.out.below hbb); clear HV1; have HV1 := Lib.hid HV1'.out; clear HV1'
  have HB' := Lib.hid (HB.out.trans hbb); clear HB; have HB := Lib.hid HB'.out; clear HB'
  rw [hz2] at ho
  obtain ⟨o6, n6, c6, rfl⟩ := row_form ho
  have hn6 := row_len ho rfl
  subst hn6
  clear ho hz1 hz2
  clear hb hbb
  go_wp2_with fail
  refine (get_any (bs := [14, 0]) (src_newB w6 #[.int .u8 14, .int .u8 0] 2 [14, 0] rfl (by decide) rfl) 3 (by decide)).mono ?_
  rintro e w7 hh
  obtain ⟨v7, rfl, hb, ho⟩ := get_yes hh pg7
  clear hh
  have hbb : BW w6 w7 := (bw_alloc w6 _).trans hb
  have HV1' := Lib.hid (HV1.out.below hbb); clear HV1; have HV1 := Lib.hid HV1'.out; clear HV1'
  have HB' := Lib.hid (HB.out.trans hbb); clear HB; have HB := Lib.hid HB'.out; clear HB'
  have HV7 := Lib.hid (Src.of_row ho)
  clear ho
  clear hb hbb
  go_wp2_with fail
  refine (get_any (bs := [14, 0]) (src_newB w7 #[.int .u8 14, .int .u8 0] 2 [14, 0] rfl (by decide) rfl) 0 (by decide)).mono ?_
  rintro e w8 hh
  obtain ⟨v8, rfl, hb, ho⟩ := get_yes hh pg8
  clear hh
  have hbb : BW w7 w8 := (bw_alloc w7 _).trans hb
  have HV1' := Lib.hid (HV1.out.below hbb); clear HV1; have HV1 := Lib.hid HV1'.out; clear HV1'
  have HV7' := Lib.hid (HV7.out.below hbb); clear HV7; have HV7 := Lib.hid HV7'.out; clear HV7'
  have HB' := Lib.hid (HB.out.trans hbb); clear HB; have HB := Lib.hid HB'.out; clear HB'
  obtain ⟨o8, n8, c8, rfl⟩ := row_form ho
  have hn8 : n8 = 0 := row_len ho rfl
  subst hn8
  clear ho
  clear hb hbb
  go_wp2_with fail
  refine (get_arg (w := w8) (v := .slice none 0 0) (n := -1) (by decide) (by decide) (by decide)).mono ?_
  rintro e w9 ⟨rfl, hb⟩
  have hbb : BW w8 w9 := hb
  have HV1' := Lib.hid (HV1.out.below hbb); clear HV1; have HV1 := Lib.hid HV1'.out; clear HV1'
  have HV7' := Lib.hid (HV7.out.below hbb); clear HV7; have HV7 := Lib.hid HV7'.out; clear HV7'
  have HB' := Lib.hid (HB.out.trans hbb); clear HB; have HB := Lib.hid HB'.out; clear HB'
  clear hb hbb
  go_wp2_with fail
  refine (awake_any w9).mono ?_
  rintro e w10 ⟨rfl, hb⟩
  have hbb : BW w9 w10 := hb
  have HV1' := Lib.hid (HV1.out.below hbb); clear HV1; have HV1 := Lib.hid HV1'.out; clear HV1'
  have HV7' := Lib.hid (HV7.out.below hbb); clear HV7; have HV7 := Lib.hid HV7'.out; clear HV7'
  have HB' := Lib.hid (HB.out.trans hbb); clear HB; have HB := Lib.hid HB'.out; clear HB'
  clear hb hbb
  go_wp2_with fail
  refine (width_any (l := [0]) (src_newU w10 #[.int .u64 0] 1 [0] rfl (by decide) rfl) (by intro x hx; simp at hx; omega)).mono ?_
  rintro e w11 ⟨rfl, nn, hw⟩
  rw [show widP [0] = 0 by decide +kernel]
  have hb := hw ▸ drewN_below _ nn
  clear hw
  have hbb : BW w10 w11 := (bw_alloc w10 _).trans hb
  have HV1' := Lib.hid (HV1.out.below hbb); clear HV1; have HV1 := Lib.hid HV1'.out; clear HV1'
  have HV7' := Lib.hid (HV7.out.below hbb); clear HV7; have HV7 := Lib.hid HV7'.out; clear HV7'
  have HB' := Lib.hid (HB.out.trans hbb); clear HB; have HB := Lib.hid HB'.out; clear HB'
  clear hb hbb
  go_wp2_with fail
  refine (width_any (w := w11) (v := .slice none 0 0) (l := []) (Src.nil w11) (by intro x hx; cases hx)).mono ?_
  rintro e w12 ⟨rfl, nn, hw⟩
  rw [show widP [] = 0 by decide +kernel]
  have hb := hw ▸ drewN_below _ nn
  clear hw
  have hbb : BW w11 w12 := hb
  have HV1' := Lib.hid (HV1.out.below hbb); clear HV1; have HV1 := Lib.hid HV1'.out; clear HV1'
  have HV7' := Lib.hid (HV7.out.below hbb); clear HV7; have HV7 := Lib.hid HV7'.out; clear HV7'
  have HB' := Lib.hid (HB.out.trans hbb); clear HB; have HB := Lib.hid HB'.out; clear HB'
  clear hb hbb
  go_wp2_with fail
  refine (width_any (l := [18446744073709551615]) (src_newU w12 #[.int .u64 18446744073709551615] 1 [18446744073709551615] rfl (by decide) rfl) (by intro x hx; simp at hx; omega)).mono ?_
  rintro e w13 ⟨rfl, nn, hw⟩
  rw [show widP [18446744073709551615] = 64 by decide +kernel]
  have hb := hw ▸ drewN_below _ nn
  clear hw
  have hbb : BW w12 w13 := (bw_alloc w12 _).trans hb
  have HV1' := Lib.hid (HV1.out.below hbb); clear HV1; have HV1 := Lib.hid HV1'.out; clear HV1'
  have HV7' := Lib.hid (HV7.out.below hbb); clear HV7; have HV7 := Lib.hid HV7'.out; clear HV7'
  have HB' := Lib.hid (HB.out.trans hbb); clear HB; have HB := Lib.hid HB'.out; clear HB'
  clear hb hbb
  go_wp2_with fail
  refine (uints_true (l := [5, 0, 3]) (HV1.out.below (bw_alloc w13 _)) (src_newU w13 #[.int .u64 5, .int .u64 0, .int .u64 3] 3 [5, 0, 3] rfl (by decide) rfl)).mono ?_
  rintro e w14 ⟨rfl, nn, hw⟩
  have hb := hw ▸ drewN_below _ nn
  clear hw
  have hbb : BW w13 w14 := (bw_alloc w13 _).trans hb
  have HV1' := Lib.hid (HV1.out.below hbb); clear HV1; have HV1 := Lib.hid HV1'.out; clear HV1'
  have HV7' := Lib.hid (HV7.out.below hbb); clear HV7; have HV7 := Lib.hid HV7'.out; clear HV7'
  have HB' := Lib.hid (HB.out.trans hbb); clear HB; have HB := Lib.hid HB'.out; clear HB'
  clear hb hbb
  go_wp2_with fail
  refine (put_any (l := [7, 7, 7]) (src_newI w14 #[.int .i64 7, .int .i64 7, .int .i64 7] 3 [7, 7, 7] rfl (by decide) rfl) (by intro x hx; unfold I64; simp at hx; omega) (by decide)).mono ?_
  rintro e w15 ⟨vp, rfl, ho, hb⟩
  rw [pp1] at ho
  have hbb : BW w14 w15 := (bw_alloc w14 _).trans hb
  have HV7' := Lib.hid (HV7.out.below hbb); clear HV7; have HV7 := Lib.hid HV7'.out; clear HV7'
  have HB' := Lib.hid (HB.out.trans hbb); clear HB; have HB := Lib.hid HB'.out; clear HB'
  have HVP := Lib.hid (Src.of_row ho)
  clear ho
  clear hb hbb
  go_wp2_with fail
  refine (bytes_b (l := [14, 0]) (HVP.out.below (bw_alloc w15 _)) (src_newB w15 #[.int .u8 14, .int .u8 0] 2 [14, 0] rfl (by decide) rfl)).mono ?_
  rintro e w16 ⟨rfl, hb⟩
  have hbb : BW w15 w16 := (bw_alloc w15 _).trans hb
  have HV7' := Lib.hid (HV7.out.below hbb); clear HV7; have HV7 := Lib.hid HV7'.out; clear HV7'
  have HVP' := Lib.hid (HVP.out.below hbb); clear HVP; have HVP := Lib.hid HVP'.out; clear HVP'
  have HB' := Lib.hid (HB.out.trans hbb); clear HB; have HB := Lib.hid HB'.out; clear HB'
  clear hb hbb
  go_wp2_with fail
  refine (put_any (w := w16) (v := .slice none 0 0) (l := []) (Src.nil w16) (by intro x hx; cases hx) (by decide)).mono ?_
  rintro e w17 ⟨vq, rfl, ho, hb⟩
  rw [putP_nil] at ho
  have hbb : BW w16 w17 := hb
  have HV7' := Lib.hid (HV7.out.below hbb); clear HV7; have HV7 := Lib.hid HV7'.out; clear HV7'
  have HB' := Lib.hid (HB.out.trans hbb); clear HB; have HB := Lib.hid HB'.out; clear HB'
  obtain ⟨oq, nq, cq, rfl⟩ := row_form ho
  have hnq : nq = 0 := row_len ho rfl
  subst hnq
  clear ho
  clear hb hbb
  go_wp2_with fail
  refine (ints_true (l := [7, 7, 7]) (HV7.out.below (bw_alloc w17 _)) (src_newI w17 #[.int .i64 7, .int .i64 7, .int .i64 7] 3 [7, 7, 7] rfl (by decide) rfl)).mono ?_
  rintro e w18 ⟨rfl, nn, hw⟩
  have hb := hw ▸ drewN_below _ nn
  clear hw
  have hbb : BW w17 w18 := (bw_alloc w17 _).trans hb
  have HV7' := Lib.hid (HV7.out.below hbb); clear HV7; have HV7 := Lib.hid HV7'.out; clear HV7'
  have HB' := Lib.hid (HB.out.trans hbb); clear HB; have HB := Lib.hid HB'.out; clear HB'
  clear hb hbb
  go_wp2_with fail
  refine (bad_any (bs := [14, 65]) (src_newB w18 #[.int .u8 14, .int .u8 65] 2 [14, 65] rfl (by decide) rfl) 3 (by decide) pb1).mono ?_
  rintro e w19 ⟨rfl, hb⟩
  have hbb : BW w18 w19 := (bw_alloc w18 _).trans hb
  have HB' := Lib.hid (HB.out.trans hbb); clear HB; have HB := Lib.hid HB'.out; clear HB'
  clear hb hbb
  go_wp2_with fail
  refine (bad_any (bs := [14]) (src_newB w19 #[.int .u8 14] 1 [14] rfl (by decide) rfl) 3 (by decide) pb2).mono ?_
  rintro e w20 ⟨rfl, hb⟩
  have hbb : BW w19 w20 := (bw_alloc w19 _).trans hb
  have HB' := Lib.hid (HB.out.trans hbb); clear HB; have HB := Lib.hid HB'.out; clear HB'
  clear hb hbb
  go_wp2_with fail
  refine (bad_any (bs := [1, 3, 24]) (src_newB w20 #[.int .u8 1, .int .u8 3, .int .u8 24] 3 [1, 3, 24] rfl (by decide) rfl) 2 (by decide) pb3).mono ?_
  rintro e w21 ⟨rfl, hb⟩
  have hbb : BW w20 w21 := (bw_alloc w20 _).trans hb
  have HB' := Lib.hid (HB.out.trans hbb); clear HB; have HB := Lib.hid HB'.out; clear HB'
  clear hb hbb
  go_wp2_with fail
  refine (bad_any (bs := [0, 1, 3]) (src_newB w21 #[.int .u8 0, .int .u8 1, .int .u8 3] 3 [0, 1, 3] rfl (by decide) rfl) 2 (by decide) pb4).mono ?_
  rintro e w22 ⟨rfl, hb⟩
  have hbb : BW w21 w22 := (bw_alloc w21 _).trans hb
  have HB' := Lib.hid (HB.out.trans hbb); clear HB; have HB := Lib.hid HB'.out; clear HB'
  clear hb hbb
  go_wp2_with fail
  refine (bad_any (w := w22) (v := .slice none 0 0) (bs := []) (Src.nil w22) 1 (by decide) pb6).mono ?_
  rintro e w23 ⟨rfl, hb⟩
  have hbb : BW w22 w23 := hb
  have HB' := Lib.hid (HB.out.trans hbb); clear HB; have HB := Lib.hid HB'.out; clear HB'
  clear hb hbb
  go_wp2
  go_ret
  exact ⟨rfl, HB.out⟩
end Go.Proofs.Ytdoliejihinpkaa
