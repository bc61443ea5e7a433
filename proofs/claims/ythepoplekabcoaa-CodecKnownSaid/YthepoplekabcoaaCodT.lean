/-
  'lecternlaw02.CodecKnown' returns true, from every start: the chapter's examples hold at this commit. No condition.
-/
import Derived.Test.YthepoplekabcoaaCodS
import Derived.ProofKit
import Derived.OpenShut
import Derived.ShutString
import Derived.Below
import Derived.ChangeSame
namespace Go.Proofs.Ythepoplekabcoaa
open Go.RowKit Go.Maps

theorem form_of {l : List UInt8} {v k : Nat} (h : deco l = some (v, k)) : form v = l.take k := (deco_some h).2.1
theorem fo_0 : form 0 = [0] := (form_of (l := [0]) (v := 0) (k := 1) (by decide +kernel) : _)
theorem fo_127 : form 127 = [127] := (form_of (l := [127]) (v := 127) (k := 1) (by decide +kernel) : _)
theorem fo_128 : form 128 = [128, 1] := (form_of (l := [128, 1]) (v := 128) (k := 2) (by decide +kernel) : _)
theorem fo_18446744073709551615 : form 18446744073709551615 = [255, 255, 255, 255, 255, 255, 255, 255, 255, 1] := (form_of (l := [255, 255, 255, 255, 255, 255, 255, 255, 255, 1]) (v := 18446744073709551615) (k := 10) (by decide +kernel) : _)
theorem fo_1 : form 1 = [1] := (form_of (l := [1]) (v := 1) (k := 1) (by decide +kernel) : _)
theorem fo_2 : form 2 = [2] := (form_of (l := [2]) (v := 2) (k := 1) (by decide +kernel) : _)
theorem ft_0 : form (turned (0)) = [0] := (show form 0 = _ from fo_0)
theorem ft_m1 : form (turned (-1)) = [1] := (show form 1 = _ from fo_1)
theorem ft_1 : form (turned (1)) = [2] := (show form 2 = _ from fo_2)
theorem ft_m64 : form (turned (-64)) = [127] := (show form 127 = _ from fo_127)
theorem ft_64 : form (turned (64)) = [128, 1] := (show form 128 = _ from fo_128)
theorem ft_m9223372036854775808 : form (turned (-9223372036854775808)) = [255, 255, 255, 255, 255, 255, 255, 255, 255, 1] := (show form 18446744073709551615 = _ from fo_18446744073709551615)

theorem kn1 : dT [2, 97, 98] 1 = none := by
  have : textD [2, 97, 98] 1 = none := by decide +kernel
  unfold dT; rw [this]; rfl
theorem kn2 : dS [5] 4 = none := by
  have : sizeD [5] 4 = none := by decide +kernel
  unfold dS; rw [this]; rfl
theorem kn3 : dS [5] 5 = some (.int .i64 5, 1) := by
  have : sizeD [5] 5 = some (5, 1) := by decide +kernel
  unfold dS; rw [this]; rfl
theorem rep9 (m : UInt8) : List.replicate 9 255 ++ [m] = [255, 255, 255, 255, 255, 255, 255, 255, 255, m] := rfl
theorem len_rep9 (m : UInt8) : (List.replicate 9 (255 : UInt8) ++ [m]).length = 10 := rfl

theorem end_empty {w : World} {r c : Nat} {e : Int} (h : Rd w r c [] e) : Calls Try.prog 32 #[.pointer (some ⟨r, 0, none⟩)] w fun en w' => en = .returned (.int .i64 e) ∧ Moves (fun b => b = r) w w' ∧ Rd w' r c [] e := end_any h

set_option maxHeartbeats 20000000 in
set_option maxRecDepth 100000 in
theorem known_any (w : World) : Calls Try.prog 5 #[] w (TruePost w) := by
  go_enter Try.func5, Try.ntmps5
  go_wp2_with fail
  refine (awake_any _).mono ?_
  rintro e w1 ⟨rfl, hb⟩
  have HB1 : Hid (BW w w1) := hb
  clear hb
  go_wp2_with fail
  refine (isUnsigned 0 (by decide) (by rw [fo_0]; exact src_new1 _ _ 1 [0] rfl (by decide) rfl)).mono ?_
  rintro e w2 ⟨rfl, hb⟩
  have HB2 : Hid (BW w w2) := (HB1.out.alloc _).trans hb
  clear hb HB1
  go_wp2_with fail
  refine (isUnsigned 127 (by decide) (by rw [fo_127]; exact src_new1 _ _ 1 [127] rfl (by decide) rfl)).mono ?_
  rintro e w3 ⟨rfl, hb⟩
  have HB3 : Hid (BW w w3) := (HB2.out.alloc _).trans hb
  clear hb HB2
  go_wp2_with fail
  refine (isUnsigned 128 (by decide) (by rw [fo_128]; exact src_new1 _ _ 2 [128, 1] rfl (by decide) rfl)).mono ?_
  rintro e w4 ⟨rfl, hb⟩
  have HB4 : Hid (BW w w4) := (HB3.out.alloc _).trans hb
  clear hb HB3
  go_wp2_with fail
  refine (times_any (ms := [1]) 9 (by decide) 255 (src_new1 _ _ 1 [1] rfl (by decide) rfl) (by decide)).mono ?_
  rintro e w5 ⟨v5, rfl, ho, hb⟩
  have HO5 := Lib.hid (Src.of_row ho)
  have HB5 : Hid (BW w w5) := (HB4.out.alloc _).trans hb
  obtain ⟨ao5, n5, c5, rfl⟩ := row_form ho
  clear ho hb HB4
  go_wp2_with fail
  refine (isUnsigned 18446744073709551615 (by decide) (by rw [fo_18446744073709551615]; exact HO5.out)).mono ?_
  rintro e w6 ⟨rfl, hb⟩
  have HB6 : Hid (BW w w6) := (HB5.out).trans hb
  clear hb HB5
  go_wp2_with fail
  refine (isSigned (0) (by decide) (by decide) (by rw [ft_0]; exact src_new1 _ _ 1 [0] rfl (by decide) rfl)).mono ?_
  rintro e w7 ⟨rfl, hb⟩
  have HB7 : Hid (BW w w7) := (HB6.out.alloc _).trans hb
  clear hb HB6
  go_wp2_with fail
  refine (isSigned (-1) (by decide) (by decide) (by rw [ft_m1]; exact src_new1 _ _ 1 [1] rfl (by decide) rfl)).mono ?_
  rintro e w8 ⟨rfl, hb⟩
  have HB8 : Hid (BW w w8) := (HB7.out.alloc _).trans hb
  clear hb HB7
  go_wp2_with fail
  refine (isSigned (1) (by decide) (by decide) (by rw [ft_1]; exact src_new1 _ _ 1 [2] rfl (by decide) rfl)).mono ?_
  rintro e w9 ⟨rfl, hb⟩
  have HB9 : Hid (BW w w9) := (HB8.out.alloc _).trans hb
  clear hb HB8
  go_wp2_with fail
  refine (isSigned (-64) (by decide) (by decide) (by rw [ft_m64]; exact src_new1 _ _ 1 [127] rfl (by decide) rfl)).mono ?_
  rintro e w10 ⟨rfl, hb⟩
  have HB10 : Hid (BW w w10) := (HB9.out.alloc _).trans hb
  clear hb HB9
  go_wp2_with fail
  refine (isSigned (64) (by decide) (by decide) (by rw [ft_64]; exact src_new1 _ _ 2 [128, 1] rfl (by decide) rfl)).mono ?_
  rintro e w11 ⟨rfl, hb⟩
  have HB11 : Hid (BW w w11) := (HB10.out.alloc _).trans hb
  clear hb HB10
  go_wp2_with fail
  refine (times_any (ms := [1]) 9 (by decide) 255 (src_new1 _ _ 1 [1] rfl (by decide) rfl) (by decide)).mono ?_
  rintro e w12 ⟨v12, rfl, ho, hb⟩
  have HO12 := Lib.hid (Src.of_row ho)
  have HB12 : Hid (BW w w12) := (HB11.out.alloc _).trans hb
  obtain ⟨ao12, n12, c12, rfl⟩ := row_form ho
  clear ho hb HB11
  go_wp2_with fail
  refine (isSigned (-9223372036854775808) (by decide) (by decide) (by rw [ft_m9223372036854775808]; exact HO12.out)).mono ?_
  rintro e w13 ⟨rfl, hb⟩
  have HB13 : Hid (BW w w13) := (HB12.out).trans hb
  clear hb HB12
  go_wp2_with fail
  refine (putText_any (bs := [9]) (src_new1 _ _ 1 [9] rfl (by decide) rfl) ⟨#[97, 98]⟩ (by decide)).mono ?_
  rintro e w14 ⟨v14, rfl, ho, hb⟩
  have HO14 : Hid (Src w14 v14 (([9, 2, 97, 98] : List UInt8).map bV)) := by
    have h1 := Src.of_row ho
    rw [show (⟨#[97, 98]⟩ : ByteArray).size = 2 from rfl, fo_2] at h1
    exact h1
  have HB14 : Hid (BW w w14) := (HB13.out.alloc _).trans hb
  obtain ⟨ao14, n14, c14, rfl⟩ := row_form ho
  clear ho hb HB13
  go_wp2_with fail
  refine (bytes_b (l := [9, 2, 97, 98]) (HO14.out.below (bw_alloc _ _)) (src_new1 _ _ 4 [9, 2, 97, 98] rfl (by decide) rfl)).mono ?_
  rintro e w15 ⟨rfl, hb⟩
  have HB15 : Hid (BW w w15) := (HB14.out.alloc _).trans hb
  clear hb HB14
  go_wp2_with fail
  refine (new_any (bs := [2, 97, 98]) (src_new1 _ _ 3 [2, 97, 98] rfl (by decide) rfl) (by decide)).mono ?_
  rintro e w16 ⟨ra, ca, rfl, hr, hc, hrd, hb⟩
  have HRa : Hid (w.heap.size ≤ ra) := by have := HB15.out.size; simp at hr; unfold Hid; omega
  have HCa : Hid (w.heap.size ≤ ca) := by have := HB15.out.size; simp at hc; unfold Hid; omega
  have HNa : Hid (w15.heap.size ≤ ra) := by simp at hr; unfold Hid; omega
  have HDa := Lib.hid hrd
  have HB16 : Hid (BW w w16) := (HB15.out.alloc _).trans hb
  have HT := Lib.hid ((bw_alloc w15 _).trans hb)
  clear hr hc hrd hb HB15
  unfold ptr
  clear HT
  go_wp2_with fail
  refine (call_T HDa.out 1 (by decide) (by decide)).mono ?_
  rintro e w17 hh
  obtain ⟨rfl, hm, hrd⟩ := hh.none kn1
  have HDa' := Lib.hid hrd
  clear HDa
  have HDa := HDa'
  have HB17 : Hid (BW w w17) := bw_moves HB16.out hm HRa.out
  clear hh hm hrd HDa' HB16
  go_wp2_with fail
  refine (new_any (bs := [97, 98]) (src_new1 _ _ 2 [97, 98] rfl (by decide) rfl) (by decide)).mono ?_
  rintro e w18 ⟨rt, ct, rfl, hr, hc, hrd, hb⟩
  have HRt : Hid (w.heap.size ≤ rt) := by have := HB17.out.size; simp at hr; unfold Hid; omega
  have HCt : Hid (w.heap.size ≤ ct) := by have := HB17.out.size; simp at hc; unfold Hid; omega
  have HNt : Hid (w17.heap.size ≤ rt) := by simp at hr; unfold Hid; omega
  have HDt := Lib.hid hrd
  have HB18 : Hid (BW w w18) := (HB17.out.alloc _).trans hb
  have HT := Lib.hid ((bw_alloc w17 _).trans hb)
  clear hr hc hrd hb HB17
  unfold ptr
  have HXat : Hid (¬ ra = rt ∧ ¬ ca = rt) := ⟨by have := HDa.out.ltr; have := HNt.out; omega, by have := HDa.out.lt; have := HNt.out; omega⟩
  have HDa' := Lib.hid (HDa.out.below HT.out)
  clear HDa
  have HDa := HDa'
  clear HDa'
  clear HT
  go_wp2_with fail
  refine (call_B HDt.out 3 (by decide) (by decide)).mono ?_
  rintro e w19 hh
  obtain ⟨_, rfl, hm, ⟨_, ⟨hq, _⟩, _⟩ | ⟨_, rfl, hrd⟩⟩ := hh
  · exact absurd hq (by unfold BytesOk; decide)
  have HDt' := Lib.hid hrd
  clear HDt
  have HDt := HDt'
  have HB19 : Hid (BW w w19) := bw_moves HB18.out hm HRt.out
  have HDa' := Lib.hid (HDa.out.moved hm (HXat.out.1) (HXat.out.2))
  clear HDa
  have HDa := HDa'
  clear HDa'
  clear hm hrd HDt' HB18
  go_wp2_with fail
  refine (new_any (bs := [5]) (src_new1 _ _ 1 [5] rfl (by decide) rfl) (by decide)).mono ?_
  rintro e w20 ⟨ry, cy, rfl, hr, hc, hrd, hb⟩
  have HRy : Hid (w.heap.size ≤ ry) := by have := HB19.out.size; simp at hr; unfold Hid; omega
  have HCy : Hid (w.heap.size ≤ cy) := by have := HB19.out.size; simp at hc; unfold Hid; omega
  have HNy : Hid (w19.heap.size ≤ ry) := by simp at hr; unfold Hid; omega
  have HDy := Lib.hid hrd
  have HB20 : Hid (BW w w20) := (HB19.out.alloc _).trans hb
  have HT := Lib.hid ((bw_alloc w19 _).trans hb)
  clear hr hc hrd hb HB19
  unfold ptr
  have HXay : Hid (¬ ra = ry ∧ ¬ ca = ry) := ⟨by have := HDa.out.ltr; have := HNy.out; omega, by have := HDa.out.lt; have := HNy.out; omega⟩
  have HXty : Hid (¬ rt = ry ∧ ¬ ct = ry) := ⟨by have := HDt.out.ltr; have := HNy.out; omega, by have := HDt.out.lt; have := HNy.out; omega⟩
  have HDa' := Lib.hid (HDa.out.below HT.out)
  clear HDa
  have HDa := HDa'
  clear HDa'
  have HDt' := Lib.hid (HDt.out.below HT.out)
  clear HDt
  have HDt := HDt'
  clear HDt'
  clear HT
  go_wp2_with fail
  refine (call_S HDy.out 4 (by decide) (by decide)).mono ?_
  rintro e w21 hh
  obtain ⟨rfl, hm, hrd⟩ := hh.none kn2
  have HDy' := Lib.hid hrd
  clear HDy
  have HDy := HDy'
  have HB21 : Hid (BW w w21) := bw_moves HB20.out hm HRy.out
  have HDa' := Lib.hid (HDa.out.moved hm (HXay.out.1) (HXay.out.2))
  clear HDa
  have HDa := HDa'
  clear HDa'
  have HDt' := Lib.hid (HDt.out.moved hm (HXty.out.1) (HXty.out.2))
  clear HDt
  have HDt := HDt'
  clear HDt'
  clear hh hm hrd HDy' HB20
  go_wp2_with fail
  refine (new_any (bs := [5]) (src_new1 _ _ 1 [5] rfl (by decide) rfl) (by decide)).mono ?_
  rintro e w22 ⟨rz, cz, rfl, hr, hc, hrd, hb⟩
  have HRz : Hid (w.heap.size ≤ rz) := by have := HB21.out.size; simp at hr; unfold Hid; omega
  have HCz : Hid (w.heap.size ≤ cz) := by have := HB21.out.size; simp at hc; unfold Hid; omega
  have HNz : Hid (w21.heap.size ≤ rz) := by simp at hr; unfold Hid; omega
  have HDz := Lib.hid hrd
  have HB22 : Hid (BW w w22) := (HB21.out.alloc _).trans hb
  have HT := Lib.hid ((bw_alloc w21 _).trans hb)
  clear hr hc hrd hb HB21
  unfold ptr
  have HXaz : Hid (¬ ra = rz ∧ ¬ ca = rz) := ⟨by have := HDa.out.ltr; have := HNz.out; omega, by have := HDa.out.lt; have := HNz.out; omega⟩
  have HXtz : Hid (¬ rt = rz ∧ ¬ ct = rz) := ⟨by have := HDt.out.ltr; have := HNz.out; omega, by have := HDt.out.lt; have := HNz.out; omega⟩
  have HXyz : Hid (¬ ry = rz ∧ ¬ cy = rz) := ⟨by have := HDy.out.ltr; have := HNz.out; omega, by have := HDy.out.lt; have := HNz.out; omega⟩
  have HDa' := Lib.hid (HDa.out.below HT.out)
  clear HDa
  have HDa := HDa'
  clear HDa'
  have HDt' := Lib.hid (HDt.out.below HT.out)
  clear HDt
  have HDt := HDt'
  clear HDt'
  have HDy' := Lib.hid (HDy.out.below HT.out)
  clear HDy
  have HDy := HDy'
  clear HDy'
  clear HT
  go_wp2_with fail
  refine (call_S HDz.out 5 (by decide) (by decide)).mono ?_
  rintro e w23 hh
  obtain ⟨rfl, hm, hrd⟩ := hh.some kn3
  have HDz' := Lib.hid hrd
  clear HDz
  have HDz := HDz'
  have HB23 : Hid (BW w w23) := bw_moves HB22.out hm HRz.out
  have HDa' := Lib.hid (HDa.out.moved hm (HXaz.out.1) (HXaz.out.2))
  clear HDa
  have HDa := HDa'
  clear HDa'
  have HDt' := Lib.hid (HDt.out.moved hm (HXtz.out.1) (HXtz.out.2))
  clear HDt
  have HDt := HDt'
  clear HDt'
  have HDy' := Lib.hid (HDy.out.moved hm (HXyz.out.1) (HXyz.out.2))
  clear HDy
  have HDy := HDy'
  clear HDy'
  clear hh hm hrd HDz' HB22
  go_wp2_with fail
  refine (bad_any (bs := [128]) (src_new1 _ _ 1 [128] rfl (by decide) rfl) (by decide) (by decide +kernel)).mono ?_
  rintro e w24 ⟨rfl, hb⟩
  have HB24 : Hid (BW w w24) := (HB23.out.alloc _).trans hb
  have HT : Hid (BW w23 w24) := ((bw_alloc _ _).trans hb)
  clear hb HB23
  have HDa' := Lib.hid (HDa.out.below HT.out)
  clear HDa
  have HDa := HDa'
  clear HDa'
  have HDt' := Lib.hid (HDt.out.below HT.out)
  clear HDt
  have HDt := HDt'
  clear HDt'
  have HDy' := Lib.hid (HDy.out.below HT.out)
  clear HDy
  have HDy := HDy'
  clear HDy'
  have HDz' := Lib.hid (HDz.out.below HT.out)
  clear HDz
  have HDz := HDz'
  clear HDz'
  clear HT
  go_wp2_with fail
  refine (bad_any (bs := [128, 0]) (src_new1 _ _ 2 [128, 0] rfl (by decide) rfl) (by decide) (by decide +kernel)).mono ?_
  rintro e w25 ⟨rfl, hb⟩
  have HB25 : Hid (BW w w25) := (HB24.out.alloc _).trans hb
  have HT : Hid (BW w24 w25) := ((bw_alloc _ _).trans hb)
  clear hb HB24
  have HDa' := Lib.hid (HDa.out.below HT.out)
  clear HDa
  have HDa := HDa'
  clear HDa'
  have HDt' := Lib.hid (HDt.out.below HT.out)
  clear HDt
  have HDt := HDt'
  clear HDt'
  have HDy' := Lib.hid (HDy.out.below HT.out)
  clear HDy
  have HDy := HDy'
  clear HDy'
  have HDz' := Lib.hid (HDz.out.below HT.out)
  clear HDz
  have HDz := HDz'
  clear HDz'
  clear HT
  go_wp2_with fail
  refine (times_any (ms := []) 10 (by decide) 255 (Src.nil _) (by decide)).mono ?_
  rintro e w26 ⟨v26, rfl, ho, hb⟩
  have HO26 := Lib.hid (Src.of_row ho)
  have HB26 : Hid (BW w w26) := (HB25.out).trans hb
  have HT : Hid (BW w25 w26) := hb
  obtain ⟨ao26, n26, c26, rfl⟩ := row_form ho
  clear ho hb HB25
  have HDa' := Lib.hid (HDa.out.below HT.out)
  clear HDa
  have HDa := HDa'
  clear HDa'
  have HDt' := Lib.hid (HDt.out.below HT.out)
  clear HDt
  have HDt := HDt'
  clear HDt'
  have HDy' := Lib.hid (HDy.out.below HT.out)
  clear HDy
  have HDy := HDy'
  clear HDy'
  have HDz' := Lib.hid (HDz.out.below HT.out)
  clear HDz
  have HDz := HDz'
  clear HDz'
  clear HT
  go_wp2_with fail
  refine (bad_any (bs := [255, 255, 255, 255, 255, 255, 255, 255, 255, 255]) (HO26.out) (by decide) (by decide +kernel)).mono ?_
  rintro e w27 ⟨rfl, hb⟩
  have HB27 : Hid (BW w w27) := (HB26.out).trans hb
  have HT : Hid (BW w26 w27) := hb
  clear hb HB26
  have HDa' := Lib.hid (HDa.out.below HT.out)
  clear HDa
  have HDa := HDa'
  clear HDa'
  have HDt' := Lib.hid (HDt.out.below HT.out)
  clear HDt
  have HDt := HDt'
  clear HDt'
  have HDy' := Lib.hid (HDy.out.below HT.out)
  clear HDy
  have HDy := HDy'
  clear HDy'
  have HDz' := Lib.hid (HDz.out.below HT.out)
  clear HDz
  have HDz := HDz'
  clear HDz'
  clear HT
  go_wp2_with fail
  refine (bad_any (bs := []) ((Src.nil _)) (by decide) (by decide +kernel)).mono ?_
  rintro e w28 ⟨rfl, hb⟩
  have HB28 : Hid (BW w w28) := (HB27.out).trans hb
  have HT : Hid (BW w27 w28) := hb
  clear hb HB27
  have HDa' := Lib.hid (HDa.out.below HT.out)
  clear HDa
  have HDa := HDa'
  clear HDa'
  have HDt' := Lib.hid (HDt.out.below HT.out)
  clear HDt
  have HDt := HDt'
  clear HDt'
  have HDy' := Lib.hid (HDy.out.below HT.out)
  clear HDy
  have HDy := HDy'
  clear HDy'
  have HDz' := Lib.hid (HDz.out.below HT.out)
  clear HDz
  have HDz := HDz'
  clear HDz'
  clear HT
  go_wp2_with fail
  refine (times_any (ms := [2]) 9 (by decide) 255 (src_new1 _ _ 1 [2] rfl (by decide) rfl) (by decide)).mono ?_
  rintro e w29 ⟨v29, rfl, ho, hb⟩
  have HO29 := Lib.hid (Src.of_row ho)
  have HB29 : Hid (BW w w29) := (HB28.out.alloc _).trans hb
  have HT : Hid (BW w28 w29) := ((bw_alloc _ _).trans hb)
  obtain ⟨ao29, n29, c29, rfl⟩ := row_form ho
  clear ho hb HB28
  have HDa' := Lib.hid (HDa.out.below HT.out)
  clear HDa
  have HDa := HDa'
  clear HDa'
  have HDt' := Lib.hid (HDt.out.below HT.out)
  clear HDt
  have HDt := HDt'
  clear HDt'
  have HDy' := Lib.hid (HDy.out.below HT.out)
  clear HDy
  have HDy := HDy'
  clear HDy'
  have HDz' := Lib.hid (HDz.out.below HT.out)
  clear HDz
  have HDz := HDz'
  clear HDz'
  clear HT
  go_wp2_with fail
  refine (bad_any (bs := [255, 255, 255, 255, 255, 255, 255, 255, 255, 2]) (HO29.out) (by decide) (by decide +kernel)).mono ?_
  rintro e w30 ⟨rfl, hb⟩
  have HB30 : Hid (BW w w30) := (HB29.out).trans hb
  have HT : Hid (BW w29 w30) := hb
  clear hb HB29
  have HDa' := Lib.hid (HDa.out.below HT.out)
  clear HDa
  have HDa := HDa'
  clear HDa'
  have HDt' := Lib.hid (HDt.out.below HT.out)
  clear HDt
  have HDt := HDt'
  clear HDt'
  have HDy' := Lib.hid (HDy.out.below HT.out)
  clear HDy
  have HDy := HDy'
  clear HDy'
  have HDz' := Lib.hid (HDz.out.below HT.out)
  clear HDz
  have HDz := HDz'
  clear HDz'
  clear HT
  have HDz' : Hid (Rd _ rz cz [] 0) := HDz.out
  clear HDz
  have HDz := HDz'
  clear HDz'
  obtain ⟨ao_a, cap_a, ga, _, _⟩ := HDa.out.form
  have HGa := Lib.hid ga
  clear ga
  obtain ⟨ao_t, cap_t, gt, _, _⟩ := HDt.out.form
  have HGt := Lib.hid gt
  clear gt
  obtain ⟨ao_y, cap_y, gy, _, _⟩ := HDy.out.form
  have HGy := Lib.hid gy
  clear gy
  obtain ⟨ao_z, cap_z, gz, _, _⟩ := HDz.out.form
  have HGz := Lib.hid gz
  clear gz
  go_wp2_with (first | (go_at_call 20; (with_reducible refine (err_c HGa.out).mono ?_); rintro en w' ⟨rfl, rfl⟩) | (go_at_call 20; (with_reducible refine (err_c HGt.out).mono ?_); rintro en w' ⟨rfl, rfl⟩) | (go_at_call 20; (with_reducible refine (err_c HGy.out).mono ?_); rintro en w' ⟨rfl, rfl⟩) | (go_at_call 20; (with_reducible refine (err_nil _).mono ?_); rintro en w' ⟨rfl, rfl⟩) | (go_at_call 32; (with_reducible refine (end_empty HDz.out).mono ?_); rintro en wz ⟨rfl, hm, _⟩; have HBz := Lib.hid (bw_moves HB30.out hm HRz.out); clear hm) | (go_at_call 33; refine call_U_nil.mono ?_; rintro en w' ⟨rfl, rfl⟩) | (go_at_call 28; refine (call_T_nil 9).mono ?_; rintro en wt ⟨rfl, hb⟩; have HBt := Lib.hid (HBz.out.trans hb); clear hb))
  go_ret
  exact ⟨rfl, HBt.out⟩

end Go.Proofs.Ythepoplekabcoaa
