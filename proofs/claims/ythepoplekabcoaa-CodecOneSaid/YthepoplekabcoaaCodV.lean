/- CodecOne: the walk. -/
import Derived.Test.YthepoplekabcoaaCodS
import Derived.Deep.RegionWith
namespace Go.Proofs.Ythepoplekabcoaa
open Go.RowKit Go.Maps

theorem bw_drew1 {w w' : World} (h : BW w w') : BW w w'.drew := ⟨h.os, h.tape, h.output, h.size, h.block⟩

set_option maxHeartbeats 4000000 in
set_option maxRecDepth 100000 in
theorem one_any {w : World} {v : Value} {bs : List UInt8} (h : Src w v (bs.map bV)) (hn : (bs.length : Int) ≤ 140737488351232) : Calls Try.prog 7 #[v] w (TruePost w) := by
  obtain ⟨ao, cap, rfl⟩ := h.len
  rw [List.length_map] at h ⊢
  have H := Lib.hid h
  have HLE := Lib.hid hn
  obtain ⟨ln, hln⟩ : ∃ ln, bs.length = ln := ⟨_, rfl⟩
  have HLN := Lib.hid hln
  have H' : Hid (Src w (.slice ao ln cap) (bs.map bV)) := by have := h; rw [hln] at this; exact this
  rw [hln] at hn ⊢
  clear h hln
  go_enter Try.func7, Try.ntmps7
  go_wp2_with fail
  refine (new_any H'.out HLE.out).mono ?_
  rintro e w1 ⟨r, c, rfl, hr, hc, hrd, hb⟩
  have HRD := Lib.hid hrd; have HB1 := Lib.hid hb; have HR := Lib.hid hr
  clear hrd hb hc hr
  unfold ptr
  go_wp2_with fail
  refine (call_U HRD.out).mono ?_
  cases hd : deco bs with
  | none =>
    have hD : dU bs = none := by unfold dU; rw [hd]; rfl
    have hD2 : dI bs = none := by unfold dI; rw [hd]; rfl
    have HD := Lib.hid hD; have HD2 := Lib.hid hD2
    clear hd hD hD2
    rintro e w2 hh
    obtain ⟨rfl, hm, hrd⟩ := hh.none HD.out
    have HRD2 := Lib.hid hrd; have HB2 := Lib.hid (bw_moves HB1.out hm HR.out)
    obtain ⟨ao2, cap2, g1, g2, g3⟩ := hrd.form
    rw [HLN.out] at g1
    have G1 := Lib.hid g1
    clear hh hm hrd g1 g2 g3
    go_wp2_with fail
    refine (left_c G1.out).mono ?_
    rintro en w' ⟨rfl, rfl⟩
    go_wp2_with fail
    refine (new_any (H'.out.below HB2.out) HLE.out).mono ?_
    rintro e w3 ⟨s, c', rfl, hs, hc, hsd, hb⟩
    have HSD := Lib.hid hsd; have HB3 := Lib.hid (HB2.out.trans hb)
    have HS : Hid (w.heap.size ≤ s) := Nat.le_trans HB2.out.size hs
    have HRD3 := Lib.hid (HRD2.out.below hb)
    have HNE : Hid (¬ r = s ∧ ¬ c = s) := ⟨by have := HRD2.out.ltr; omega, by have := HRD2.out.lt; omega⟩
    clear hsd hb hc hs
    unfold ptr
    go_wp2_with fail
    refine (call_I HSD.out).mono ?_
    rintro e w4 hh
    obtain ⟨rfl, hm, hsd⟩ := hh.none HD2.out
    have HSD4 := Lib.hid hsd; have HB4 := Lib.hid (bw_moves HB3.out hm HS.out)
    have HRD4 := Lib.hid (HRD3.out.moved hm HNE.out.1 HNE.out.2)
    obtain ⟨ao3, cap3, k1, _, _⟩ := hsd.form
    have K1 := Lib.hid k1
    obtain ⟨ao4, cap4, k2, _, _⟩ := HRD4.out.form
    have K2 := Lib.hid k2
    clear hh hm hsd k1 k2
    go_wp2_with (first | (go_at_call 20; (with_reducible refine (err_c K1.out).mono ?_); rintro en w' ⟨rfl, rfl⟩) | (go_at_call 20; (with_reducible refine (err_c K2.out).mono ?_); rintro en w' ⟨rfl, rfl⟩) | (go_at_call 18; refine (awake_any _).mono ?_; rintro e w5 ⟨rfl, hb⟩; have HB5 := Lib.hid (HB4.out.trans hb); clear hb))
    go_ret
    exact ⟨ret_bool (by simp), HB5.out⟩
  | some p =>
    obtain ⟨u, k⟩ := p
    obtain ⟨hu, hform, hkl, hk1, _⟩ := deco_some hd
    have hD : dU bs = some (.int .u64 (u : Int), k) := by unfold dU; rw [hd]; rfl
    have hD2 : dI bs = some (.int .i64 (back u), k) := by unfold dI; rw [hd]; rfl
    have HD := Lib.hid hD; have HD2 := Lib.hid hD2; have HF := Lib.hid hform; have HU := Lib.hid hu
    have hkn : k ≤ ln := by rw [← HLN.out]; exact hkl
    have HTK : Hid (Src w (.slice ao k cap) ((bs.take k).map bV)) := by rw [List.map_take]; exact H'.out.taken (by rw [List.length_map]; exact hkl)
    have hcap : ao ≠ none ∧ ln ≤ cap := by
      rcases H'.out with ⟨ao', c', e, e2, h5, h6⟩ | ⟨b', off', c', hv, h1, h2, h3, h4⟩
      · injection e with _ e1 _
        omega
      · injection hv with e0 e1 e2
        rw [List.length_map, HLN.out] at h1
        rw [e0, e2]
        exact ⟨by simp, h1⟩
    obtain ⟨hao, hcap⟩ := hcap
    obtain ⟨ad, rfl⟩ : ∃ ad, ao = some ad := by cases ao with
      | none => exact absurd rfl hao
      | some ad => exact ⟨ad, rfl⟩
    have hkc : k ≤ cap := by omega
    obtain ⟨q, hq⟩ : ∃ q, ln - k = q := ⟨_, rfl⟩
    have hqk : (ln : Int) - (q : Int) = (k : Int) := by omega
    have hq64 : (q : Int) ≤ 140737488351232 := by omega
    have HL1 : Hid ((bs.drop k).length = q) := by unfold Hid; rw [List.length_drop, HLN.out]; exact hq
    clear hq
    clear hd hD hD2 hform hu hkl hao
    rintro e w2 hh
    obtain ⟨rfl, hm, hrd⟩ := hh.some HD.out
    have HRD2 := Lib.hid hrd; have HB2 := Lib.hid (bw_moves HB1.out hm HR.out)
    obtain ⟨ao2, cap2, g1, g2, g3⟩ := hrd.form
    rw [HL1.out] at g1
    have G1 := Lib.hid g1
    clear hh hm hrd g1 g2 g3
    go_wp2_with fail
    refine (left_c G1.out).mono ?_
    rintro en w' ⟨rfl, rfl⟩
    go_wp2_with fail
    refine (new_any (H'.out.below HB2.out) HLE.out).mono ?_
    rintro e w3 ⟨s, c', rfl, hs, hc, hsd, hb⟩
    have HSD := Lib.hid hsd; have HB3 := Lib.hid (HB2.out.trans hb)
    have HS : Hid (w.heap.size ≤ s) := Nat.le_trans HB2.out.size hs
    have HRD3 := Lib.hid (HRD2.out.below hb)
    have HNE : Hid (¬ r = s ∧ ¬ c = s) := ⟨by have := HRD2.out.ltr; omega, by have := HRD2.out.lt; omega⟩
    clear hsd hb hc hs
    unfold ptr
    go_wp2_with fail
    refine (call_I HSD.out).mono ?_
    rintro e w4 hh
    obtain ⟨rfl, hm, hsd⟩ := hh.some HD2.out
    have HSD4 := Lib.hid hsd; have HB4 := Lib.hid (bw_moves HB3.out hm HS.out)
    have HRD4 := Lib.hid (HRD3.out.moved hm HNE.out.1 HNE.out.2)
    obtain ⟨ao3, cap3, k1, _, _⟩ := hsd.form
    rw [HL1.out] at k1
    have K1 := Lib.hid k1
    obtain ⟨ao4, cap4, k2, _, _⟩ := HRD4.out.form
    rw [HL1.out] at k2
    have K2 := Lib.hid k2
    have HBB := Lib.hid (back_bound HU.out)
    clear hh hm hsd k1 k2
    clear HRD HB1 HRD2 HB2 HSD HB3 HRD3 HSD4 HRD4 HNE G1
    go_wp2_with (go_at_call 20; (with_reducible refine (err_c K2.out).mono ?_); rintro en w' ⟨rfl, rfl⟩)
    have HPU : Hid (∀ W, Calls Try.prog 9 #[.slice none 0 0, .int .u64 (u : Int)] W (fun e w' => ∃ v, e = .returned v ∧ Src w' v ((bs.take k).map bV) ∧ BW W w')) := fun W => (putUint_any (Src.nil W) (bs := []) u HU.out (by decide)).mono (by
      rintro e wa ⟨va, rfl, ho, hb⟩
      refine ⟨va, rfl, ?_, hb⟩
      have h := Src.of_row ho
      rw [List.nil_append, HF.out] at h; exact h)
    have HPI : Hid (∀ W, Calls Try.prog 10 #[.slice none 0 0, .int .i64 (back u)] W (fun e w' => ∃ v, e = .returned v ∧ Src w' v ((bs.take k).map bV) ∧ BW W w')) := fun W => (putInt_any (Src.nil W) (bs := []) (back u) HBB.out.1 HBB.out.2 (by decide)).mono (by
      rintro e wa ⟨va, rfl, ho, hb⟩
      refine ⟨va, rfl, ?_, hb⟩
      have h := Src.of_row ho
      rw [List.nil_append, turned_back, HF.out] at h; exact h)
    go_region_with (first | (go_at_call 9; refine (HPU.out _).mono ?_; rintro e wa ⟨va, rfl, ho, hb⟩; have HA := Lib.hid ho; have HXA : Hid (BW w4 wa) := (by first | exact hb | exact (bw_drew1 (BW.refl w4)).trans hb); have HTA := Lib.hid (HTK.out.below (HB4.out.trans HXA.out)); clear ho hb) | (go_at_call 15; (refine (bytes_b HA.out HTA.out).mono ?_); rintro e wb ⟨rfl, hb⟩; have HXB := Lib.hid (HXA.out.trans hb); clear hb HA HTA HXA) | (go_at_call 10; refine (HPI.out _).mono ?_; rintro e wc ⟨vc, rfl, ho, hb⟩; have HC := Lib.hid ho; have HXC := Lib.hid (HXB.out.trans hb); have HTC := Lib.hid (HTK.out.below (HB4.out.trans HXC.out)); clear ho hb HXB) | (go_at_call 15; (refine (bytes_b HC.out HTC.out).mono ?_); rintro e wd ⟨rfl, hb⟩; have HXD := Lib.hid (HXC.out.trans hb); clear hb HC HTC HXC; have K1D := Lib.hid (rdc_below K1.out HXD.out); have K2D := Lib.hid (rdc_below K2.out HXD.out)) | (go_at_call 22; (with_reducible refine (left_c K1D.out).mono ?_); rintro en w' ⟨rfl, rfl⟩) | (go_at_call 22; (with_reducible refine (left_c K2D.out).mono ?_); rintro en w' ⟨rfl, rfl⟩) | (go_at_call 18; refine (awake_any _).mono ?_; rintro e w5 ⟨rfl, hb⟩; have HX5 := Lib.hid (HXD.out.trans hb); clear hb))
    all_goals
      go_wp2
      go_ret
      exact ⟨rfl, HB4.out.trans HX5.out⟩

end Go.Proofs.Ythepoplekabcoaa
