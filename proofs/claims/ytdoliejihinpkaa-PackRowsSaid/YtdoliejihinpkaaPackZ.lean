/- PackRows: the walk (made by mkPackZ.py). -/
import Derived.Test.YtdoliejihinpkaaRefX
import Derived.Test.YtdoliejihinpkaaPairI
namespace Go.Proofs.Ytdoliejihinpkaa
open Go.RowKit Go.Maps

theorem below_lessR {b c : Nat} {w w' : World} (h : RowKit.Below b w w') (hc : c ≤ b) : RowKit.Below c w w' := ⟨h.os, h.tape, h.output, h.size, fun k hk => h.block k (Nat.lt_of_lt_of_le hk hc)⟩

theorem getX_yes {w w' : World} {bs : List UInt8} {n : Nat} {e : Ending} (h : GetPost w bs n e w') {l : List Int} {m : Nat} (hu : getP bs n = some (l, m)) : ∃ v, e = .returned (.tuple #[v, .int .i64 (m : Int), .int .i64 0]) ∧ BW w w' ∧ w'.ownsRow w.heap.size 2 1 v l.length (l.map iV) := by
  obtain ⟨v, k, er, rfl, hb, ⟨l', m', h1, rfl, rfl, h2⟩ | ⟨h1, _⟩⟩ := h
  · rw [hu] at h1; cases h1; exact ⟨v, rfl, hb, h2⟩
  · rw [hu] at h1; cases h1
theorem getX_no {w w' : World} {bs : List UInt8} {n : Nat} {e : Ending} (h : GetPost w bs n e w') (hu : getP bs n = none) : e = .returned (.tuple #[.slice none 0 0, .int .i64 0, .int .i64 20]) ∧ BW w w' := by
  obtain ⟨v, k, er, rfl, hb, ⟨l', m', h1, _⟩ | ⟨h1, rfl, rfl, rfl⟩⟩ := h
  · rw [hu] at h1; cases h1
  · exact ⟨rfl, hb⟩
def GAll (r : List Int) (m er : Nat) (w : World) (e : Ending) (w' : World) : Prop := ∃ v, e = .returned (.tuple #[v, .int .i64 (m : Int), .int .i64 (er : Int)]) ∧ BW w w' ∧ w'.ownsRow w.heap.size 2 1 v r.length (r.map iV)

theorem get_both {bs : List UInt8} (hb : (bs.length : Int) ≤ 140737488351232) (n : Int) (h3 : -9223372036854775808 ≤ n) (h4 : n ≤ 9223372036854775807) (hn : n ≤ 2000 ∨ 1048576 < n) :
    ∃ (r : List Int) (m er : Nat), r.length ≤ 2000 ∧ er ≤ 20 ∧ m ≤ bs.length ∧ (∀ (w : World) (v : Value), Src w v (bs.map bV) → Calls Try.prog 27 #[v, .int .i64 n] w (GAll r m er w)) ∧ (∀ (w : World) (v : Value), Src w v (bs.map bV) → Calls Try.prog 28 #[v, .int .i64 n] w (GAll r m er w)) := by
  by_cases hn2 : 0 ≤ n ∧ n ≤ 1048576
  · obtain ⟨q, rfl⟩ : ∃ q : Nat, n = (q : Int) := ⟨n.toNat, by omega⟩
    cases hu : getP bs q with
    | none =>
      refine ⟨[], 0, 20, by simp, by decide, Nat.zero_le _, fun w v h => ?_, fun w v h => ?_⟩
      · refine (get_any h q (by omega)).mono fun e w' hh => ?_
        obtain ⟨rfl, hb⟩ := getX_no hh hu
        exact ⟨_, rfl, hb, World.ownsRow_nil _ _ _ _⟩
      · refine (refGet_any h hb q (by omega)).mono fun e w' hh => ?_
        obtain ⟨rfl, hb⟩ := getX_no hh hu
        exact ⟨_, rfl, hb, World.ownsRow_nil _ _ _ _⟩
    | some p =>
      obtain ⟨r, m⟩ := p
      obtain ⟨g1, _, g3, g4⟩ := (get_iff _ _ _ _).1 hu
      refine ⟨r, m, 0, by omega, by decide, by rw [g4]; exact g3.length_le, fun w v h => ?_, fun w v h => ?_⟩
      · refine (get_any h q (by omega)).mono fun e w' hh => ?_
        obtain ⟨v', rfl, hb, ho⟩ := getX_yes hh hu
        exact ⟨_, rfl, hb, ho⟩
      · refine (refGet_any h hb q (by omega)).mono fun e w' hh => ?_
        obtain ⟨v', rfl, hb, ho⟩ := getX_yes hh hu
        exact ⟨_, rfl, hb, ho⟩
  · refine ⟨[], 0, 1, by simp, by decide, Nat.zero_le _, fun w v h => ?_, fun w v h => ?_⟩
    · refine (get_arg h3 h4 hn2).mono ?_
      rintro e w' ⟨rfl, hb⟩
      exact ⟨_, rfl, hb, World.ownsRow_nil _ _ _ _⟩
    · refine (refGet_arg hn2).mono ?_
      rintro e w' ⟨rfl, hb⟩
      exact ⟨_, rfl, hb, World.ownsRow_nil _ _ _ _⟩
theorem packRows_far {w : World} {a0 a2 : Option Addr} {l0 l2 c0 c2 : Nat} {n : Int} (h : 2000 < l0 ∨ (2000 < n ∧ n ≤ 1048576)) : Calls Try.prog 4 #[.slice a0 l0 c0, .slice a2 l2 c2, .int .i64 n] w (TruePost w) := by
  by_cases h0 : 2000 < l0
  · have hd : decide (2000 < l0) = true := decide_eq_true h0
    have hd' : decide ((2000 : Int) < (l0 : Int)) = true := decide_eq_true (by omega)
    clear h h0
    go_enter Try.func4, Try.ntmps4
    go_wp2_with (first | (go_at_call 9; refine (awake_any _).mono ?_; rintro e w' ⟨rfl, hb⟩))
    go_ret
    exact ⟨rfl, hb⟩
  have hd : decide (2000 < l0) = false := decide_eq_false h0
  have hd' : decide ((2000 : Int) < (l0 : Int)) = false := decide_eq_false (by omega)
  have h1 : decide (2000 < n) = true := decide_eq_true (by omega)
  have h2 : decide (n ≤ 1048576) = true := decide_eq_true (by omega)
  clear h h0
  go_enter Try.func4, Try.ntmps4
  go_wp2_with (first | (go_at_call 9; refine (awake_any _).mono ?_; rintro e w' ⟨rfl, hb⟩))
  go_ret
  exact ⟨rfl, hb⟩

set_option maxHeartbeats 8000000 in
set_option maxRecDepth 100000 in
theorem packRows_low {w : World} {v0 v2 : Value} {l : List Int} {bs : List UInt8} (h0 : Src w v0 (l.map iV)) (hl : I64s l) (hlen : l.length ≤ 2000) (h2 : Src w v2 (bs.map bV)) (hb2 : (bs.length : Int) ≤ 140737488351232) (n : Int) (hn1 : -9223372036854775808 ≤ n) (hn2 : n ≤ 9223372036854775807) (hn : n ≤ 2000) :
    Calls Try.prog 4 #[v0, v2, .int .i64 n] w (TruePost w) := by
  obtain ⟨a0, c0, rfl⟩ := h0.len
  obtain ⟨a2, c2, rfl⟩ := h2.len
  rw [List.length_map] at h0 h2 ⊢
  rw [List.length_map]
  obtain ⟨xb, hxb0⟩ : ∃ xb, xb = putP l := ⟨_, rfl⟩
  have hxb : xb.length ≤ 20000 := by have := put_most l.length l rfl hl; rw [hxb0]; omega
  obtain ⟨r, kk, er, hrb, her, hkk, hp3, hp4⟩ := get_both hb2 n hn1 hn2 (by omega)
  have HP1' : Hid (∀ (w : World) (v : Value), Src w v (l.map iV) → Calls Try.prog 25 #[v] w (BytesPost w xb)) := fun w v h => by rw [hxb0]; exact put_any h hl (by omega)
  have HP2' : Hid (∀ (w : World) (v : Value), Src w v (l.map iV) → Calls Try.prog 26 #[v] w (BytesPost w xb)) := fun w v h => by rw [hxb0]; exact refPut_any h hl hlen
  have hp1 := HP1'.out
  have hp2 := HP2'.out
  obtain ⟨lu, hlu⟩ : ∃ lu, l.length = lu := ⟨_, rfl⟩
  obtain ⟨lb, hlb⟩ : ∃ lb, bs.length = lb := ⟨_, rfl⟩
  rw [hlu] at h0 ⊢
  rw [hlb] at h2 ⊢
  have hd : decide (2000 < lu) = false := decide_eq_false (by omega)
  have hd' : decide ((2000 : Int) < (lu : Int)) = false := decide_eq_false (by omega)
  have hd2 : decide (2000 < n) = false := decide_eq_false (by omega)
  have hkke : ((kk : Int) == (kk : Int)) = true := by simp
  have hkk0 : (kk : Int) ≤ 140737488351232 := by omega
  have hee : ((er : Int) == (er : Int)) = true := by simp
  have her2 : (er : Int) ≤ 20 := by omega
  have her0 : 0 ≤ (er : Int) := by omega
  have HL := Lib.hid hl
  have H0 := Lib.hid h0; have H2 := Lib.hid h2
  have HLU := Lib.hid hlu; have HLB := Lib.hid hlb
  have HLE0 : Hid ((l.length : Int) ≤ 100000000) := by unfold Hid; omega
  have HLE2 := Lib.hid hb2
  have HP1 := Lib.hid hp1; have HP2 := Lib.hid hp2; have HP3 := Lib.hid hp3; have HP4 := Lib.hid hp4
  have HXB := Lib.hid hxb; have HRB := Lib.hid hrb
  have HLEN : Hid (l.length ≤ 1048576) := by unfold Hid; omega
  clear h0 h2 hl hlen hb2 hn1 hn2 hn hp1 hp2 hp3 hp4 hxb hrb her hlu hlb hkk HP1' HP2' hxb0
  go_enter Try.func4, Try.ntmps4
  go_wp2_with fail
  refine (AI.lent_any H0.out HLE0.out).mono ?_
  rintro e w1 ⟨g, gc, rfl, hl1, hb⟩
  have HL1 := Lib.hid hl1; have HB1 := Lib.hid hb
  rw [HLU.out]
  have HS1 : Hid (Src w1 (.slice (some ⟨g, 0, none⟩) lu gc) (l.map iV)) := by have := hl1.src; rw [HLU.out] at this; exact this
  clear hl1 hb
  go_wp2_with fail
  refine (lent_any (H2.out.below HB1.out) HLE2.out).mono ?_
  rintro e w2 ⟨g2, gc2, rfl, hl2, hb⟩
  have HL2 := Lib.hid hl2; have HB12 := Lib.hid hb
  rw [HLB.out]
  have HD2 : Hid (Src w2 (.slice (some ⟨g2, 0, none⟩) lb gc2) (bs.map bV)) := by have := hl2.src; rw [HLB.out] at this; exact this
  have HS2 := Lib.hid (HS1.out.below hb)
  have HW2 : Hid (BW w w2) := HB1.out.trans hb
  clear hl2 hb
  go_wp2_with fail
  refine (HP1.out _ _ HS2.out).mono ?_
  rintro e w3 ⟨vx, rfl, hx, hb⟩
  have HX := Lib.hid hx; have HB23 := Lib.hid hb
  have HS3 := Lib.hid (HS2.out.below hb)
  clear hx hb
  go_wp2_with fail
  refine (HP1.out _ _ HS3.out).mono ?_
  rintro e w4 ⟨vy, rfl, hy, hb⟩
  have HY := Lib.hid hy; have HB34 := Lib.hid hb
  have HB24 : Hid (BW w2 w4) := HB23.out.trans hb
  clear hy hb
  go_wp2_with fail
  refine (HP2.out _ _ (H0.out.below (HW2.out.trans HB24.out))).mono ?_
  rintro e w5 ⟨vt, rfl, ht, hb⟩
  have HT := Lib.hid (Src.of_row ht); have HB45 := Lib.hid hb
  have HB25 : Hid (BW w2 w5) := HB24.out.trans hb
  obtain ⟨xo, xn, xc, rfl⟩ := row_form HX.out
  obtain ⟨yo, yn, yc, rfl⟩ := row_form HY.out
  obtain ⟨tto, ttn, ttc, rfl⟩ := row_form ht
  clear ht hb
  go_wp2_with fail
  refine (HP3.out _ _ (HD2.out.below HB25.out)).mono ?_
  rintro e w6 ⟨vu, rfl, hb, hu⟩
  have HU := Lib.hid hu; have HB56 := Lib.hid hb
  clear hu hb
  go_wp2_with fail
  refine (HP3.out _ _ (HD2.out.below (HB25.out.trans HB56.out))).mono ?_
  rintro e w7 ⟨vv, rfl, hb, hv⟩
  have HV := Lib.hid hv; have HB67 := Lib.hid hb
  have HB27 : Hid (BW w2 w7) := (HB25.out.trans HB56.out).trans hb
  clear hv hb
  go_wp2_with fail
  refine (HP4.out _ _ (H2.out.below (HW2.out.trans HB27.out))).mono ?_
  rintro e w8 ⟨vz, rfl, hb, hz⟩
  have HB78 := Lib.hid hb
  have HB28 : Hid (BW w2 w8) := HB27.out.trans hb
  obtain ⟨uo, un, uc, rfl⟩ := row_form HU.out
  obtain ⟨vo, vn, vc, rfl⟩ := row_form HV.out
  obtain ⟨zo, zn, zc, rfl⟩ := row_form hz
  have HXS := Lib.hid ((Src.of_row HX.out).below (HB34.out.trans (HB45.out.trans (HB56.out.trans (HB67.out.trans (HB78.out))))))
  have HYS := Lib.hid ((Src.of_row HY.out).below (HB45.out.trans (HB56.out.trans (HB67.out.trans (HB78.out)))))
  have HTS := Lib.hid (HT.out.below (HB56.out.trans (HB67.out.trans (HB78.out))))
  have HUS := Lib.hid ((Src.of_row HU.out).below (HB67.out.trans (HB78.out)))
  have HVS := Lib.hid ((Src.of_row HV.out).below (HB78.out))
  have HZS := Lib.hid (Src.of_row hz)
  clear hz hb
  go_wp2_with fail
  refine (bytes_b HXS.out HTS.out).mono ?_
  rintro e w11 ⟨rfl, hb11⟩
  have HC11 := Lib.hid hb11
  clear hb11
  go_wp2_with fail
  refine (bytes_b (HYS.out.below HC11.out) (HTS.out.below HC11.out)).mono ?_
  rintro e w12 ⟨rfl, hb12⟩
  have HC12 := Lib.hid (HC11.out.trans hb12)
  clear hb12
  go_wp2_with fail
  refine (ints_true (HUS.out.below HC12.out) (HZS.out.below HC12.out)).mono ?_
  rintro e w13 ⟨rfl, n13, hw13⟩
  have HC13 : Hid (BW w8 w13) := by unfold Hid; rw [hw13]; exact HC12.out.trans (drewN_below _ _)
  clear hw13
  go_wp2_with fail
  refine (ints_true (HVS.out.below HC13.out) (HZS.out.below HC13.out)).mono ?_
  rintro e w14 ⟨rfl, n14, hw14⟩
  have HC14 : Hid (BW w8 w14) := by unfold Hid; rw [hw14]; exact HC13.out.trans (drewN_below _ _)
  have HB214 : Hid (BW w2 w14) := HB28.out.trans HC14.out
  have HL114 := Lib.hid (HL1.out.keep ((HB12.out.trans HB214.out).block g HL1.out.mark.2.2.2))
  have HKP := Lib.hid (AI.kept_any HL114.out (H0.out.below (HW2.out.trans HB214.out)) HLE0.out)
  rw [HLU.out] at HKP
  clear hw14
  go_wp2_with fail
  refine HKP.out.mono ?_
  rintro e w15 ⟨rfl, n15, hw15⟩
  have HC15 : Hid (BW w8 w15) := by unfold Hid; rw [hw15]; exact HC14.out.trans (drewN_below _ _)
  have HB215 : Hid (BW w2 w15) := HB28.out.trans HC15.out
  have HL215 := Lib.hid (HL2.out.keep (HB215.out.block g2 HL2.out.mark.2.2.2))
  have HKP2 := Lib.hid (kept_any HL215.out (H2.out.below (HW2.out.trans HB215.out)) HLE2.out)
  rw [HLB.out] at HKP2
  clear hw15
  go_wp2_with fail
  refine HKP2.out.mono ?_
  rintro e w16 ⟨rfl, n16, hw16⟩
  have HC16 : Hid (BW w8 w16) := by unfold Hid; rw [hw16]; exact HC15.out.trans (drewN_below _ _)
  have HB216 : Hid (BW w2 w16) := HB28.out.trans HC16.out
  have HB416 : Hid (BW w4 w16) := (HB45.out.trans (HB56.out.trans (HB67.out.trans (HB78.out)))).trans HC16.out
  have HB716 : Hid (BW w7 w16) := (HB78.out).trans HC16.out
  clear hw16
  obtain ⟨wa, hwa⟩ : ∃ wa, wa = w16.alloc (.cells #[.slice xo xn xc, .slice yo yn yc] 23) := ⟨_, rfl⟩
  have hba : BW w16 wa := by rw [hwa]; exact bw_alloc _ _
  have HBA := Lib.hid hba
  obtain ⟨V, nn, role, hap, hV, hrn, hrb, hnn⟩ := ap_two (W := wa) HX.out HY.out HB23.out HB34.out (HB416.out.trans hba).size (fun z _ hz => (HB416.out.trans hba).block z hz)
  have HSV : Hid (Src wa (.slice (some ⟨w16.heap.size, 0, none⟩) 2 2) ((List.range 2).map V)) := by
    unfold Hid; rw [hV, hwa]; exact src_new w16 #[.slice xo xn xc, .slice yo yn yc] 23 2 rfl (by decide)
  have hsa : w16.heap.size < wa.heap.size := by rw [hwa]; simp
  have hs416 := HB416.out.size
  have hs2a := (HB216.out.trans hba).size
  have HCALL := Lib.hid (AK.apart_some (B := w2.heap.size) HSV.out (hrb _ (.inr hs416)) hsa hap hrn hs2a (fun j hj => by
    have h1 := HXB.out
    rcases hnn j hj with e | e <;> · rw [e]; omega) (by decide))
  have HRO := Lib.hid hrb
  rw [hwa] at HCALL
  clear hap hV hrn hrb hnn hba hsa hs416 hs2a
  go_wp2_with fail
  refine HCALL.out.mono ?_
  rintro e w17 ⟨rfl, hb17, hk17⟩
  rw [← hwa] at hb17 hk17
  have HB217 : Hid (BW w2 w17) := RowKit.Below.trans (HB216.out.trans HBA.out) hb17
  have HB717 : Hid (∀ z, w5.heap.size ≤ z → z < w7.heap.size → w17.heap[z]? = w7.heap[z]?) := fun z h1 h2 => by
    have h3 := (HB716.out.trans HBA.out)
    exact (hk17 z (Nat.lt_of_lt_of_le h2 h3.size) (HRO.out z (.inr (Nat.le_trans HB45.out.size h1)))).trans (h3.block z h2)
  have HSZ : Hid (w7.heap.size ≤ w17.heap.size) := Nat.le_trans (HB716.out.trans HBA.out).size hb17.size
  clear hb17 hk17 HSV HCALL HRO
  obtain ⟨wb, hwb⟩ : ∃ wb, wb = w17.alloc (.cells #[.slice uo un uc, .slice vo vn vc] 41) := ⟨_, rfl⟩
  have hbb : BW w17 wb := by rw [hwb]; exact bw_alloc _ _
  obtain ⟨V', nn', role', hap', hV', hrn', hrb', hnn'⟩ := AI.ap_two (W := wb) HU.out HV.out HB56.out HB67.out (Nat.le_trans HSZ.out hbb.size) (fun z h1 h2 => (hbb.block z (Nat.lt_of_lt_of_le h2 HSZ.out)).trans (HB717.out z h1 h2))
  have HSV2 : Hid (Src wb (.slice (some ⟨w17.heap.size, 0, none⟩) 2 2) ((List.range 2).map V')) := by
    unfold Hid; rw [hV', hwb]; exact src_new w17 #[.slice uo un uc, .slice vo vn vc] 41 2 rfl (by decide)
  have hsb : w17.heap.size < wb.heap.size := by rw [hwb]; simp
  have hs5b : w5.heap.size ≤ wb.heap.size := Nat.le_trans (HB56.out.trans HB67.out).size (Nat.le_trans HSZ.out hbb.size)
  have HCALL2 := Lib.hid (AI.apart_some (B := w5.heap.size) HSV2.out (hrb' _ (.inr HSZ.out)) hsb hap' hrn' hs5b (fun j hj => by
    have h1 := HRB.out
    rcases hnn' j hj with e | e <;> · rw [e]; omega) (by decide))
  have HWB : Hid (BW w wb) := (HW2.out.trans HB217.out).trans hbb
  rw [hwb] at HCALL2
  clear hap' hV' hrn' hrb' hnn' hbb hsb hs5b
  go_wp2_with fail
  refine HCALL2.out.mono ?_
  rintro e w18 ⟨rfl, hb18⟩
  rw [← hwb] at hb18
  have HW18 : Hid (BW w w18) := RowKit.Below.trans HWB.out (below_lessR hb18 (Nat.le_trans HW2.out.size HB25.out.size))
  clear hb18
  go_wp2_with fail
  refine (awake_any _).mono ?_
  rintro e w19 ⟨rfl, hb19⟩
  have HW19 : Hid (BW w w19) := HW18.out.trans hb19
  clear hb19
  go_wp2
  go_ret
  exact ⟨rfl, HW19.out⟩

set_option maxHeartbeats 8000000 in
set_option maxRecDepth 100000 in
theorem packRows_high {w : World} {v0 v2 : Value} {l : List Int} {bs : List UInt8} (h0 : Src w v0 (l.map iV)) (hl : I64s l) (hlen : l.length ≤ 2000) (h2 : Src w v2 (bs.map bV)) (hb2 : (bs.length : Int) ≤ 140737488351232) (n : Int) (hn1 : -9223372036854775808 ≤ n) (hn2 : n ≤ 9223372036854775807) (hn : 1048576 < n) :
    Calls Try.prog 4 #[v0, v2, .int .i64 n] w (TruePost w) := by
  obtain ⟨a0, c0, rfl⟩ := h0.len
  obtain ⟨a2, c2, rfl⟩ := h2.len
  rw [List.length_map] at h0 h2 ⊢
  rw [List.length_map]
  obtain ⟨xb, hxb0⟩ : ∃ xb, xb = putP l := ⟨_, rfl⟩
  have hxb : xb.length ≤ 20000 := by have := put_most l.length l rfl hl; rw [hxb0]; omega
  obtain ⟨r, kk, er, hrb, her, hkk, hp3, hp4⟩ := get_both hb2 n hn1 hn2 (by omega)
  have HP1' : Hid (∀ (w : World) (v : Value), Src w v (l.map iV) → Calls Try.prog 25 #[v] w (BytesPost w xb)) := fun w v h => by rw [hxb0]; exact put_any h hl (by omega)
  have HP2' : Hid (∀ (w : World) (v : Value), Src w v (l.map iV) → Calls Try.prog 26 #[v] w (BytesPost w xb)) := fun w v h => by rw [hxb0]; exact refPut_any h hl hlen
  have hp1 := HP1'.out
  have hp2 := HP2'.out
  obtain ⟨lu, hlu⟩ : ∃ lu, l.length = lu := ⟨_, rfl⟩
  obtain ⟨lb, hlb⟩ : ∃ lb, bs.length = lb := ⟨_, rfl⟩
  rw [hlu] at h0 ⊢
  rw [hlb] at h2 ⊢
  have hd : decide (2000 < lu) = false := decide_eq_false (by omega)
  have hd' : decide ((2000 : Int) < (lu : Int)) = false := decide_eq_false (by omega)
  have hd2 : decide (2000 < n) = true := decide_eq_true (by omega)
  have hd3 : decide (n ≤ 1048576) = false := decide_eq_false (by omega)
  have hkke : ((kk : Int) == (kk : Int)) = true := by simp
  have hkk0 : (kk : Int) ≤ 140737488351232 := by omega
  have hee : ((er : Int) == (er : Int)) = true := by simp
  have her2 : (er : Int) ≤ 20 := by omega
  have her0 : 0 ≤ (er : Int) := by omega
  have HL := Lib.hid hl
  have H0 := Lib.hid h0; have H2 := Lib.hid h2
  have HLU := Lib.hid hlu; have HLB := Lib.hid hlb
  have HLE0 : Hid ((l.length : Int) ≤ 100000000) := by unfold Hid; omega
  have HLE2 := Lib.hid hb2
  have HP1 := Lib.hid hp1; have HP2 := Lib.hid hp2; have HP3 := Lib.hid hp3; have HP4 := Lib.hid hp4
  have HXB := Lib.hid hxb; have HRB := Lib.hid hrb
  have HLEN : Hid (l.length ≤ 1048576) := by unfold Hid; omega
  clear h0 h2 hl hlen hb2 hn1 hn2 hn hp1 hp2 hp3 hp4 hxb hrb her hlu hlb hkk HP1' HP2' hxb0
  go_enter Try.func4, Try.ntmps4
  go_wp2_with fail
  refine (AI.lent_any H0.out HLE0.out).mono ?_
  rintro e w1 ⟨g, gc, rfl, hl1, hb⟩
  have HL1 := Lib.hid hl1; have HB1 := Lib.hid hb
  rw [HLU.out]
  have HS1 : Hid (Src w1 (.slice (some ⟨g, 0, none⟩) lu gc) (l.map iV)) := by have := hl1.src; rw [HLU.out] at this; exact this
  clear hl1 hb
  go_wp2_with fail
  refine (lent_any (H2.out.below HB1.out) HLE2.out).mono ?_
  rintro e w2 ⟨g2, gc2, rfl, hl2, hb⟩
  have HL2 := Lib.hid hl2; have HB12 := Lib.hid hb
  rw [HLB.out]
  have HD2 : Hid (Src w2 (.slice (some ⟨g2, 0, none⟩) lb gc2) (bs.map bV)) := by have := hl2.src; rw [HLB.out] at this; exact this
  have HS2 := Lib.hid (HS1.out.below hb)
  have HW2 : Hid (BW w w2) := HB1.out.trans hb
  clear hl2 hb
  go_wp2_with fail
  refine (HP1.out _ _ HS2.out).mono ?_
  rintro e w3 ⟨vx, rfl, hx, hb⟩
  have HX := Lib.hid hx; have HB23 := Lib.hid hb
  have HS3 := Lib.hid (HS2.out.below hb)
  clear hx hb
  go_wp2_with fail
  refine (HP1.out _ _ HS3.out).mono ?_
  rintro e w4 ⟨vy, rfl, hy, hb⟩
  have HY := Lib.hid hy; have HB34 := Lib.hid hb
  have HB24 : Hid (BW w2 w4) := HB23.out.trans hb
  clear hy hb
  go_wp2_with fail
  refine (HP2.out _ _ (H0.out.below (HW2.out.trans HB24.out))).mono ?_
  rintro e w5 ⟨vt, rfl, ht, hb⟩
  have HT := Lib.hid (Src.of_row ht); have HB45 := Lib.hid hb
  have HB25 : Hid (BW w2 w5) := HB24.out.trans hb
  obtain ⟨xo, xn, xc, rfl⟩ := row_form HX.out
  obtain ⟨yo, yn, yc, rfl⟩ := row_form HY.out
  obtain ⟨tto, ttn, ttc, rfl⟩ := row_form ht
  clear ht hb
  go_wp2_with fail
  refine (HP3.out _ _ (HD2.out.below HB25.out)).mono ?_
  rintro e w6 ⟨vu, rfl, hb, hu⟩
  have HU := Lib.hid hu; have HB56 := Lib.hid hb
  clear hu hb
  go_wp2_with fail
  refine (HP3.out _ _ (HD2.out.below (HB25.out.trans HB56.out))).mono ?_
  rintro e w7 ⟨vv, rfl, hb, hv⟩
  have HV := Lib.hid hv; have HB67 := Lib.hid hb
  have HB27 : Hid (BW w2 w7) := (HB25.out.trans HB56.out).trans hb
  clear hv hb
  go_wp2_with fail
  refine (HP4.out _ _ (H2.out.below (HW2.out.trans HB27.out))).mono ?_
  rintro e w8 ⟨vz, rfl, hb, hz⟩
  have HB78 := Lib.hid hb
  have HB28 : Hid (BW w2 w8) := HB27.out.trans hb
  obtain ⟨uo, un, uc, rfl⟩ := row_form HU.out
  obtain ⟨vo, vn, vc, rfl⟩ := row_form HV.out
  obtain ⟨zo, zn, zc, rfl⟩ := row_form hz
  have HXS := Lib.hid ((Src.of_row HX.out).below (HB34.out.trans (HB45.out.trans (HB56.out.trans (HB67.out.trans (HB78.out))))))
  have HYS := Lib.hid ((Src.of_row HY.out).below (HB45.out.trans (HB56.out.trans (HB67.out.trans (HB78.out)))))
  have HTS := Lib.hid (HT.out.below (HB56.out.trans (HB67.out.trans (HB78.out))))
  have HUS := Lib.hid ((Src.of_row HU.out).below (HB67.out.trans (HB78.out)))
  have HVS := Lib.hid ((Src.of_row HV.out).below (HB78.out))
  have HZS := Lib.hid (Src.of_row hz)
  clear hz hb
  go_wp2_with fail
  refine (bytes_b HXS.out HTS.out).mono ?_
  rintro e w11 ⟨rfl, hb11⟩
  have HC11 := Lib.hid hb11
  clear hb11
  go_wp2_with fail
  refine (bytes_b (HYS.out.below HC11.out) (HTS.out.below HC11.out)).mono ?_
  rintro e w12 ⟨rfl, hb12⟩
  have HC12 := Lib.hid (HC11.out.trans hb12)
  clear hb12
  go_wp2_with fail
  refine (ints_true (HUS.out.below HC12.out) (HZS.out.below HC12.out)).mono ?_
  rintro e w13 ⟨rfl, n13, hw13⟩
  have HC13 : Hid (BW w8 w13) := by unfold Hid; rw [hw13]; exact HC12.out.trans (drewN_below _ _)
  clear hw13
  go_wp2_with fail
  refine (ints_true (HVS.out.below HC13.out) (HZS.out.below HC13.out)).mono ?_
  rintro e w14 ⟨rfl, n14, hw14⟩
  have HC14 : Hid (BW w8 w14) := by unfold Hid; rw [hw14]; exact HC13.out.trans (drewN_below _ _)
  have HB214 : Hid (BW w2 w14) := HB28.out.trans HC14.out
  have HL114 := Lib.hid (HL1.out.keep ((HB12.out.trans HB214.out).block g HL1.out.mark.2.2.2))
  have HKP := Lib.hid (AI.kept_any HL114.out (H0.out.below (HW2.out.trans HB214.out)) HLE0.out)
  rw [HLU.out] at HKP
  clear hw14
  go_wp2_with fail
  refine HKP.out.mono ?_
  rintro e w15 ⟨rfl, n15, hw15⟩
  have HC15 : Hid (BW w8 w15) := by unfold Hid; rw [hw15]; exact HC14.out.trans (drewN_below _ _)
  have HB215 : Hid (BW w2 w15) := HB28.out.trans HC15.out
  have HL215 := Lib.hid (HL2.out.keep (HB215.out.block g2 HL2.out.mark.2.2.2))
  have HKP2 := Lib.hid (kept_any HL215.out (H2.out.below (HW2.out.trans HB215.out)) HLE2.out)
  rw [HLB.out] at HKP2
  clear hw15
  go_wp2_with fail
  refine HKP2.out.mono ?_
  rintro e w16 ⟨rfl, n16, hw16⟩
  have HC16 : Hid (BW w8 w16) := by unfold Hid; rw [hw16]; exact HC15.out.trans (drewN_below _ _)
  have HB216 : Hid (BW w2 w16) := HB28.out.trans HC16.out
  have HB416 : Hid (BW w4 w16) := (HB45.out.trans (HB56.out.trans (HB67.out.trans (HB78.out)))).trans HC16.out
  have HB716 : Hid (BW w7 w16) := (HB78.out).trans HC16.out
  clear hw16
  obtain ⟨wa, hwa⟩ : ∃ wa, wa = w16.alloc (.cells #[.slice xo xn xc, .slice yo yn yc] 23) := ⟨_, rfl⟩
  have hba : BW w16 wa := by rw [hwa]; exact bw_alloc _ _
  have HBA := Lib.hid hba
  obtain ⟨V, nn, role, hap, hV, hrn, hrb, hnn⟩ := ap_two (W := wa) HX.out HY.out HB23.out HB34.out (HB416.out.trans hba).size (fun z _ hz => (HB416.out.trans hba).block z hz)
  have HSV : Hid (Src wa (.slice (some ⟨w16.heap.size, 0, none⟩) 2 2) ((List.range 2).map V)) := by
    unfold Hid; rw [hV, hwa]; exact src_new w16 #[.slice xo xn xc, .slice yo yn yc] 23 2 rfl (by decide)
  have hsa : w16.heap.size < wa.heap.size := by rw [hwa]; simp
  have hs416 := HB416.out.size
  have hs2a := (HB216.out.trans hba).size
  have HCALL := Lib.hid (AK.apart_some (B := w2.heap.size) HSV.out (hrb _ (.inr hs416)) hsa hap hrn hs2a (fun j hj => by
    have h1 := HXB.out
    rcases hnn j hj with e | e <;> · rw [e]; omega) (by decide))
  have HRO := Lib.hid hrb
  rw [hwa] at HCALL
  clear hap hV hrn hrb hnn hba hsa hs416 hs2a
  go_wp2_with fail
  refine HCALL.out.mono ?_
  rintro e w17 ⟨rfl, hb17, hk17⟩
  rw [← hwa] at hb17 hk17
  have HB217 : Hid (BW w2 w17) := RowKit.Below.trans (HB216.out.trans HBA.out) hb17
  have HB717 : Hid (∀ z, w5.heap.size ≤ z → z < w7.heap.size → w17.heap[z]? = w7.heap[z]?) := fun z h1 h2 => by
    have h3 := (HB716.out.trans HBA.out)
    exact (hk17 z (Nat.lt_of_lt_of_le h2 h3.size) (HRO.out z (.inr (Nat.le_trans HB45.out.size h1)))).trans (h3.block z h2)
  have HSZ : Hid (w7.heap.size ≤ w17.heap.size) := Nat.le_trans (HB716.out.trans HBA.out).size hb17.size
  clear hb17 hk17 HSV HCALL HRO
  obtain ⟨wb, hwb⟩ : ∃ wb, wb = w17.alloc (.cells #[.slice uo un uc, .slice vo vn vc] 41) := ⟨_, rfl⟩
  have hbb : BW w17 wb := by rw [hwb]; exact bw_alloc _ _
  obtain ⟨V', nn', role', hap', hV', hrn', hrb', hnn'⟩ := AI.ap_two (W := wb) HU.out HV.out HB56.out HB67.out (Nat.le_trans HSZ.out hbb.size) (fun z h1 h2 => (hbb.block z (Nat.lt_of_lt_of_le h2 HSZ.out)).trans (HB717.out z h1 h2))
  have HSV2 : Hid (Src wb (.slice (some ⟨w17.heap.size, 0, none⟩) 2 2) ((List.range 2).map V')) := by
    unfold Hid; rw [hV', hwb]; exact src_new w17 #[.slice uo un uc, .slice vo vn vc] 41 2 rfl (by decide)
  have hsb : w17.heap.size < wb.heap.size := by rw [hwb]; simp
  have hs5b : w5.heap.size ≤ wb.heap.size := Nat.le_trans (HB56.out.trans HB67.out).size (Nat.le_trans HSZ.out hbb.size)
  have HCALL2 := Lib.hid (AI.apart_some (B := w5.heap.size) HSV2.out (hrb' _ (.inr HSZ.out)) hsb hap' hrn' hs5b (fun j hj => by
    have h1 := HRB.out
    rcases hnn' j hj with e | e <;> · rw [e]; omega) (by decide))
  have HWB : Hid (BW w wb) := (HW2.out.trans HB217.out).trans hbb
  rw [hwb] at HCALL2
  clear hap' hV' hrn' hrb' hnn' hbb hsb hs5b
  go_wp2_with fail
  refine HCALL2.out.mono ?_
  rintro e w18 ⟨rfl, hb18⟩
  rw [← hwb] at hb18
  have HW18 : Hid (BW w w18) := RowKit.Below.trans HWB.out (below_lessR hb18 (Nat.le_trans HW2.out.size HB25.out.size))
  clear hb18
  go_wp2_with fail
  refine (awake_any _).mono ?_
  rintro e w19 ⟨rfl, hb19⟩
  have HW19 : Hid (BW w w19) := HW18.out.trans hb19
  clear hb19
  go_wp2
  go_ret
  exact ⟨rfl, HW19.out⟩

theorem packRows_any {w : World} {v0 v2 : Value} {l : List Int} {bs : List UInt8} (h0 : Src w v0 (l.map iV)) (hl : I64s l) (h2 : Src w v2 (bs.map bV)) (hb2 : (bs.length : Int) ≤ 140737488351232) (n : Int) (hn : -9223372036854775808 ≤ n ∧ n ≤ 9223372036854775807) :
    Calls Try.prog 4 #[v0, v2, .int .i64 n] w (TruePost w) := by
  by_cases hf : 2000 < l.length ∨ (2000 < n ∧ n ≤ 1048576)
  · obtain ⟨a0, c0, rfl⟩ := h0.len
    obtain ⟨a2, c2, rfl⟩ := h2.len
    rw [List.length_map, List.length_map]
    exact packRows_far hf
  · by_cases h3 : n ≤ 2000
    · exact packRows_low h0 hl (by omega) h2 hb2 n hn.1 hn.2 h3
    · exact packRows_high h0 hl (by omega) h2 hb2 n hn.1 hn.2 (by omega)
end Go.Proofs.Ytdoliejihinpkaa
