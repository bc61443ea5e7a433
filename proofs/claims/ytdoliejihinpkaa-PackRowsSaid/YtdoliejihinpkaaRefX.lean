/- The document's Get. -/
import Derived.Test.YtdoliejihinpkaaRefW
import Derived.Test.YtdoliejihinpkaaRefI
import Derived.Test.YtdoliejihinpkaaReadQ
namespace Go.Proofs.Ytdoliejihinpkaa
open Go.RowKit Go.Maps

theorem refGet_arg {w : World} {v : Value} {n : Int} (hn : ¬ (0 ≤ n ∧ n ≤ 1048576)) : Calls Try.prog 28 #[v, .int .i64 n] w (GetArg w) := by
  by_cases h3 : n < 0
  · have hd3 : decide (n < 0) = true := decide_eq_true h3
    clear hn h3
    go_enter Try.func28, Try.ntmps28
    go_wp2
    go_ret3
    exact ⟨rfl, BW.refl _⟩
  · have hd3 : decide (n < 0) = false := decide_eq_false h3
    have hd4 : decide (1048576 < n) = true := decide_eq_true (by omega)
    clear hn h3
    go_enter Try.func28, Try.ntmps28
    go_wp2
    go_ret3
    exact ⟨rfl, BW.refl _⟩

theorem dI_some {l : List UInt8} {x : Value} {c : Nat} (h : dI l = some (x, c)) : ∃ u, deco l = some (u, c) ∧ x = .int .i64 (back u) := by
  unfold dI at h
  cases hd : deco l with
  | none => rw [hd] at h; cases h
  | some q =>
    rw [hd] at h
    obtain ⟨u, c'⟩ := q
    injection h with h
    injection h with e1 e2
    exact ⟨u, by rw [← e2], e1.symm⟩
theorem rget_go {bs : List UInt8} {n : Nat} {xs x : List Int} {p m : Nat} (hr : n - xs.length ≠ 0) (h : getP bs n = (getP (bs.drop p) (n - xs.length)).map fun q => (xs ++ q.1, p + q.2)) (hq : readP (bs.drop p) (min (n - xs.length) 128) = some (x, m)) (hx : x.length = min (n - xs.length) 128) :
    getP bs n = (getP (bs.drop (p + m)) (n - (xs ++ x).length)).map fun q => ((xs ++ x) ++ q.1, (p + m) + q.2) := by
  rw [h, getP_eq _ _ hr, hq]
  have e : n - xs.length - 128 = n - (xs ++ x).length := by rw [List.length_append, hx]; omega
  simp only [Option.bind_some, List.drop_drop, e]
  generalize getP (bs.drop (p + m)) (n - (xs ++ x).length) = G
  cases G with
  | none => rfl
  | some q => simp only [Option.map_some, List.append_assoc, Nat.add_assoc]
theorem rget_stop {bs : List UInt8} {n : Nat} {xs : List Int} {p : Nat} (hr : n - xs.length ≠ 0) (h : getP bs n = (getP (bs.drop p) (n - xs.length)).map fun q => (xs ++ q.1, p + q.2)) (hq : readP (bs.drop p) (min (n - xs.length) 128) = none) : getP bs n = none := by
  rw [h, getP_eq _ _ hr, hq]; rfl

set_option maxRecDepth 100000 in
set_option maxHeartbeats 8000000 in
theorem refGet_any {w : World} {v : Value} {bs : List UInt8} (h : Src w v (bs.map bV)) (hb : (bs.length : Int) ≤ 140737488351232) (n : Nat) (hn : n ≤ 2000) : Calls Try.prog 28 #[v, .int .i64 (n : Int)] w (GetPost w bs n) := by
  obtain ⟨ao, cap, rfl⟩ := h.len
  rw [List.length_map] at h ⊢
  obtain ⟨bn, hbn⟩ : ∃ bn, bn = bs.length := ⟨_, rfl⟩
  rw [← hbn] at h hb ⊢
  have hcap : (bn : Int) ≤ (cap : Int) := by
    rcases h with ⟨ao', c', e, e2, h5, h6⟩ | ⟨b', off', c', hv, h1, h2, h3, h4⟩
    · injection e with _ e1 _; omega
    · injection hv with _ e1 e2; subst e2; rw [List.length_map] at h1; omega
  have H := Lib.hid h
  have HBN := Lib.hid hbn
  have hn1 : decide ((n : Int) < 0) = false := decide_eq_false (by omega)
  have hn2 : decide ((1048576 : Int) < (n : Int)) = false := decide_eq_false (by omega)
  have hn3 : decide (1048576 < n) = false := decide_eq_false (by omega)
  have hnb : (n : Int) ≤ 2000 := by omega
  clear h hbn
  go_enter Try.func28, Try.ntmps28
  go_wp2
  go_loopg [7, 8] ((n + 127) / 128) (fun g s7 s8 wx => ∃ (xs : List Int) (p : Nat), (n - xs.length + 127) / 128 = g ∧ xs.length ≤ n ∧ s8 = .int .i64 (p : Int) ∧ p ≤ bn ∧ wx.ownsRow w.heap.size 2 1 s7 xs.length (xs.map iV) ∧ getP bs n = ((getP (bs.drop p) (n - xs.length)).map fun q => (xs ++ q.1, p + q.2)) ∧ BW w wx)
  case atStart => exact ⟨[], 0, rfl, Nat.zero_le _, rfl, Nat.zero_le _, World.ownsRow_nil _ _ _ _, by cases h : getP bs n <;> simp [h], BW.refl w⟩
  case round =>
    obtain ⟨xs, p, hxg, hxn, rfl, hpb, hrow, hget, hbx⟩ := hrel
    have HROW := Lib.hid hrow
    have HBX := Lib.hid hbx
    have HGET := Lib.hid hget
    obtain ⟨ln, hln⟩ : ∃ ln, ln = xs.length := ⟨_, rfl⟩
    rw [← hln] at hxg hxn
    have HLN := Lib.hid hln
    have HXG := Lib.hid hxg
    obtain ⟨ro, rn, rc, rfl⟩ := row_form hrow
    obtain rfl : rn = ln := by rw [hln]; exact row_len hrow rfl
    clear hrow hbx hget hxg hln
    cases gk with
    | zero =>
      have hrem : n - rn = 0 := by have := HXG.out; omega
      have hge : (n : Int) ≤ (rn : Int) := by omega
      have hd0 : decide (rn < n) = false := decide_eq_false (by omega)
      have hd1 : decide ((rn : Int) < (n : Int)) = false := decide_eq_false (by omega)
      have HFIN : Hid (getP bs n = some (xs, p)) := by
        unfold Hid
        rw [HGET.out, ← HLN.out, hrem, get_zero]
        simp
      clear hrem HXG
      go_wp2
      go_ret3
      exact ⟨_, _, _, rfl, HBX.out, .inl ⟨xs, p, HFIN.out, rfl, rfl, HROW.out⟩⟩
    | succ g =>
      have hlt : (rn : Int) < (n : Int) := by have := HXG.out; omega
      obtain ⟨k, hk⟩ : ∃ k, k = min (n - rn) 128 := ⟨_, rfl⟩
      have HK := Lib.hid hk
      have hk1 : 1 ≤ k := by omega
      have hk2 : k ≤ 128 := by omega
      have hkr : (n : Int) - (rn : Int) ≤ 128 ∨ 128 < (n : Int) - (rn : Int) := by omega
      clear hk
      rcases hkr with hkr | hkr
      · have hd : decide (128 < (n : Int) - (rn : Int)) = false := decide_eq_false (by omega)
        have hki : (n : Int) - (rn : Int) = (k : Int) := by have := HK.out; omega
        clear hkr
        obtain ⟨wo, rfl⟩ : ∃ wo : World, wo = wr := ⟨_, rfl⟩
        go_upto_region 9 with (fail)
        have HSUB : Hid (Src wo (.slice (if cap = p then ao else Option.map (fun x => x.add p) ao) (bn - p) (cap - p)) ((bs.drop p).map bV)) := by
          unfold Hid
          have h1 := H.out.below HBX.out
          by_cases hc : cap = p
          · rw [if_pos hc, hc, Nat.sub_self]; exact sub_src1 (by rw [hc] at h1; exact h1) HBN.out.symm hpb rfl
          · rw [if_neg hc]; exact sub_src2 h1 HBN.out.symm hpb hc
        go_upto_region 10 with (fail)
        generalize (if cap = p then ao else Option.map (fun x => x.add p) ao) = sa at HSUB ⊢
        have HRF : Hid (Rf (wo.alloc (.cells #[.slice sa (bn - p) (cap - p), .int .i64 0, .int .i64 0] 74)) wo.heap.size (.slice sa (bn - p) (cap - p)) (bs.drop p) 0 0) := by
          refine ⟨heap_new _ _, HSUB.out.below (bw_alloc _ _), Nat.zero_le _, by rw [List.length_drop, ← HBN.out]; omega, fun hne a n' k' e => ?_⟩
          rcases HSUB.out with ⟨_, _, _, hx, _⟩ | ⟨b', off', c', hv, _, _, h3, _⟩
          · exact absurd (by simpa using hx) hne
          · rw [hv] at e; cases e; exact Nat.ne_of_lt h3
        generalize hw0 : wo.alloc (.cells #[.slice sa (bn - p) (cap - p), .int .i64 0, .int .i64 0] 74) = w0 at HRF ⊢
        have HB0 : Hid (BW wo w0) := by rw [← hw0]; exact bw_alloc _ _
        have HSZ : Hid (w.heap.size ≤ wo.heap.size) := HBX.out.size
        obtain ⟨s, hs⟩ : ∃ s, s = wo.heap.size := ⟨_, rfl⟩
        rw [← hs] at HRF ⊢
        have HS := Lib.hid hs
        have HBW0 : Hid (BW w w0) := HBX.out.trans HB0.out
        have HINT := Lib.hid (refInt_ok HRF.out)
        clear hw0 hs HSUB
        go_upto_region 11 with (go_at_call 46; refine HINT.out.mono ?_; rintro e w1 ⟨x, rfl, hm1, hcase1⟩)
        have HM1 := Lib.hid hm1
        have HWO1 : Hid (BW wo w1) := bw_moves HB0.out hm1 (Nat.le_of_eq HS.out.symm)
        have HBW1 : Hid (BW w w1) := bw_moves HBW0.out hm1 (by rw [HS.out]; exact HSZ.out)
        rcases hcase1 with ⟨c, hdI, hrf1⟩ | ⟨hdI, rfl, hrf1⟩
        · rw [List.drop_zero] at hdI
          obtain ⟨u, hdu, rfl⟩ := dI_some hdI
          rw [Nat.zero_add] at hrf1
          have HDU := Lib.hid hdu
          obtain ⟨m, hm⟩ : ∃ m, m = back u := ⟨_, rfl⟩
          rw [← hm]
          have HMM := Lib.hid hm
          have HS1 : Hid (s < w1.heap.size) := lt_of_heap hrf1.blk
          have HBY := Lib.hid (refBytes_ok hrf1 1 (by decide) (by decide))
          clear hdI hdu hrf1 hm1 hm
          go_upto_region 12 with (go_at_call 47; refine HBY.out.mono ?_; rintro e w2 ⟨x2, rfl, hm2, hcase2⟩)
          have HWO2 : Hid (BW wo w2) := bw_moves HWO1.out hm2 (Nat.le_of_eq HS.out.symm)
          have HBW2 : Hid (BW w w2) := bw_moves HBW1.out hm2 (by rw [HS.out]; exact HSZ.out)
          rcases hcase2 with ⟨hok2, m1, hm11, hrf2, hx2⟩ | ⟨hno2, rfl, hrf2⟩
          · obtain rfl : m1 = 1 := by omega
            obtain ⟨wv, r, hwr⟩ : ∃ wv r, (bs.drop p).drop c = wv :: r := by
              cases hdr : (bs.drop p).drop c with
              | nil => rw [hdr] at hok2; unfold BytesOk at hok2; simp at hok2
              | cons wv r => exact ⟨wv, r, rfl⟩
            rw [hwr] at hx2
            have HWR := Lib.hid hwr
            have HRF2 := Lib.hid hrf2
            obtain ⟨xo, xn, xc, rfl⟩ := row_form hx2
            obtain rfl : xn = 1 := row_len hx2 rfl
            have hx2' : w2.ownsRow w1.heap.size 5 1 (.slice xo 1 xc) 1 ([wv].map bV) := hx2
            obtain ⟨b2, o2, rfl, hc3⟩ := (Src.of_row hx2').get (i := 0) (u := bV wv) rfl
            have HX2 := Lib.hid hx2'
            have c2 : w2.cell? ⟨s, 2, none⟩ = some (.int .i64 0) := cell_of hrf2.blk rfl
            obtain ⟨wn, hwn⟩ : ∃ wn, wn = wv.toNat := ⟨_, rfl⟩
            have hwn256 : wn < 256 := by rw [hwn]; exact wv.toNat_lt
            have hc4 : w2.cell? ⟨b2, o2, none⟩ = some (.int .u8 (wn : Int)) := by rw [Nat.add_zero] at hc3; rw [hc3, hwn]; rfl
            have HWN := Lib.hid hwn
            clear hx2 hx2' hrf2 hm2 hok2 hm11 hwr hc3 hwn
            by_cases h64 : 64 < wn
            · have hd6 : decide (64 < wn) = true := decide_eq_true h64
              have hd7 : decide ((64 : Int) < (wn : Int)) = true := decide_eq_true (by omega)
              have HBAD : Hid (getP bs n = none) := by
                refine rget_stop (by rw [← HLN.out]; have := HK.out; omega) HGET.out ?_
                rw [← HLN.out, ← HK.out]
                refine readQ_none ?_
                unfold readQ
                simp only [HDU.out, HWR.out]
                rw [if_pos (.inl (by rw [← HWN.out]; exact h64))]
              clear h64
              go_wp2
              go_ret3
              exact ⟨_, _, _, rfl, HBW2.out, .inr ⟨HBAD.out, rfl, rfl, rfl⟩⟩
            · have hd6 : decide (64 < wn) = false := decide_eq_false h64
              have hd7 : decide ((64 : Int) < (wn : Int)) = false := decide_eq_false (by omega)
              obtain ⟨kn, hkn⟩ : ∃ kn, kn = wn * k := ⟨_, rfl⟩
              have hkn2 : kn ≤ 8192 := by rw [hkn]; exact Nat.le_trans (Nat.mul_le_mul (by omega : wn ≤ 64) hk2) (by decide)
              have hki2 : (wn : Int) * (k : Int) = (kn : Int) := by rw [hkn]; push_cast; rfl
              obtain ⟨pn, hpn⟩ : ∃ pn, pn = (kn + 7) / 8 := ⟨_, rfl⟩
              have hpi : ((kn : Int) + 7) / 8 = (pn : Int) := by omega
              have HPN : Hid (pn = packed k wn) := by unfold Hid; rw [hpn, hkn]; unfold packed; rw [Nat.mul_comm]
              have hpn3 : pn ≤ 1024 := by omega
              have HBY3 := Lib.hid (refBytes_ok HRF2.out (pn : Int) (by omega) (by omega))
              have HDR : Hid ((bs.drop p).drop (c + 1) = r) := by
                unfold Hid
                rw [← List.drop_drop (i := 1) (j := c), HWR.out]; rfl
              clear hpn hkn
              go_wp2_with fail
              refine HBY3.out.mono ?_
              rintro e w3 ⟨x3, rfl, hm3, hcase3⟩
              have HWO3 : Hid (BW wo w3) := bw_moves HWO2.out hm3 (Nat.le_of_eq HS.out.symm)
              have HBW3 : Hid (BW w w3) := bw_moves HBW2.out hm3 (by rw [HS.out]; exact HSZ.out)
              rcases hcase3 with ⟨hok3, m3, hm31, hrf3, hx3⟩ | ⟨hno3, rfl, hrf3⟩
              · obtain rfl : m3 = pn := by omega
                rw [HDR.out] at hok3 hx3
                have HLO : Hid (¬ r.length < m3) := by unfold Hid; unfold BytesOk at hok3; omega
                have c3 : w3.cell? ⟨s, 2, none⟩ = some (.int .i64 0) := cell_of hrf3.blk rfl
                have hb2s : b2 ≠ s := by
                  have h1 := row_base' HX2.out _ _ _ rfl
                  have h2 := HS1.out
                  have h3 : w1.heap.size ≤ b2 := h1
                  omega
                have hb2l : b2 < w2.heap.size := row_lt HX2.out rfl
                have hc5 : w3.cell? ⟨b2, o2, none⟩ = some (.int .u8 (wn : Int)) := (World.cell?_of_block (w := w2) (a := ⟨b2, o2, none⟩) (hm3.block b2 hb2l hb2s)).trans hc4
                have HBL3 := Lib.hid hrf3.blk
                have HS3 : Hid (s < w3.heap.size) := lt_of_heap hrf3.blk
                obtain ⟨q, hq⟩ : ∃ q, q = c + 1 + m3 := ⟨_, rfl⟩
                rw [← hq] at HBL3
                have HQ := Lib.hid hq
                have HQLE : Hid (q ≤ bn - p) := by
                  unfold Hid
                  have h1 := hrf3.le
                  rw [List.length_drop, ← HBN.out, ← hq] at h1; exact h1
                obtain ⟨ao3, an3, ac3, rfl⟩ := row_form hx3
                have HUB := Lib.hid (refUnbits_any (Src.of_row hx3) (by rw [List.length_take]; have := HLO.out; omega) wn k (by omega) (by omega))
                clear hok3 hx3 hrf3 hm3 hm31 hc4 c2 hb2s hb2l hq
                go_wp2_with fail
                refine HUB.out.mono ?_
                rintro e w4 ⟨v4, er, rfl, hb4, ⟨a, ha, rfl, ho4⟩ | ⟨hn4, rfl, rfl⟩⟩
                · have hal := bits_unbits ha
                  have HAL := Lib.hid hal.2
                  obtain ⟨x, hx⟩ : ∃ x, x = candP m a := ⟨_, rfl⟩
                  have HX := Lib.hid hx
                  have HXL : Hid (x.length = k) := by unfold Hid; rw [hx, cand_len]; exact hal.2.1
                  have HXI : Hid (I64s x) := by unfold Hid; rw [hx]; exact cand_i64 m a
                  have HRQ : Hid (readQ (bs.drop p) k = some (x, q)) := by
                    unfold Hid readQ
                    simp only [HDU.out, HWR.out]
                    rw [← HWN.out, ← HPN.out, if_neg (by have := HLO.out; omega), ha, HQ.out, hx, HMM.out]; rfl
                  have HBW4 := Lib.hid (HBW3.out.trans hb4)
                  have HB34 := Lib.hid hb4
                  rw [hal.2.1] at ho4
                  obtain ⟨g4, c4, rfl⟩ : ∃ g4 c4, v4 = .slice (some ⟨g4, 0, none⟩) k c4 := by
                    rcases ho4.2 with ⟨_, h2⟩ | ⟨g, cp, cur, hv', _⟩
                    · omega
                    · exact ⟨g, cp, hv'⟩
                  have HS4 := Lib.hid (Src.of_row ho4)
                  clear ha hal hb4 ho4 hx
                  go_wp2
                  go_loopg [16, 17] k (fun g s16 s17 wx => ∃ i : Nat, i + g = k ∧ s17 = .int .i64 i ∧ wx.ownsRow w4.heap.size 2 1 s16 i ((candP m (a.take i)).map iV) ∧ BW w4 wx)
                  case atStart => exact ⟨0, by omega, rfl, World.ownsRow_nil _ _ _ _, BW.refl w4⟩
                  case round =>
                    obtain ⟨i, hig, rfl, hrow, hbx⟩ := hrel
                    have HROWX := Lib.hid hrow
                    have HBXX := Lib.hid hbx
                    have HIG := Lib.hid hig
                    clear hrow hbx
                    cases gk with
                    | zero =>
                      have hge : (k : Int) ≤ (i : Int) := by omega
                      have hd20 : decide (i < k) = false := decide_eq_false (by omega)
                      have HFX : Hid (wr.ownsRow w4.heap.size 2 1 u16 k (x.map iV)) := by
                        unfold Hid
                        have h1 := HROWX.out
                        rw [show i = k by omega, List.take_of_length_le (by have := HAL.out.1; omega), ← HX.out] at h1
                        exact h1
                      obtain ⟨xo, xn, xc, rfl⟩ := row_form HFX.out
                      obtain rfl : xn = k := row_len HFX.out rfl
                      have HONE := Lib.hid (refOne_any (Src.of_row HFX.out) (by intro e; have := HXL.out; rw [e, List.length_nil] at this; omega) HXI.out (by have := HXL.out; omega))
                      clear hig HIG HROWX hc5 c3
                      have hk0 : 0 < xn := by omega
                      go_wp2_with fail
                      refine HONE.out.mono ?_
                      rintro e w6 ⟨v6, rfl, ho6, hb6⟩
                      have HB46 := Lib.hid (HBXX.out.trans hb6)
                      have HBW6 := Lib.hid (HBW4.out.trans HB46.out)
                      have HBL6 := Lib.hid ((HB46.out.block s (Nat.lt_of_lt_of_le HS3.out HB34.out.size)).trans ((HB34.out.block s HS3.out).trans HBL3.out))
                      have c61 : w6.cell? ⟨s, 1, none⟩ = some (.int .i64 (q : Int)) := cell_of HBL6.out rfl
                      obtain ⟨bl, hbl⟩ : ∃ bl, bl = (blockP x).length := ⟨_, rfl⟩
                      have HF6 := Lib.hid (Src.of_row ho6)
                      rw [← hbl] at ho6
                      obtain ⟨fo, fn, fc, rfl⟩ := row_form ho6
                      obtain rfl : fn = bl := row_len ho6 rfl
                      have HBLN := Lib.hid hbl
                      have HRS := Lib.hid (read_same hk0 HRQ.out)
                      have HX6 : Hid (Src w6 (.slice xo xn xc) (x.map iV)) := (Src.of_row HFX.out).below hb6
                      have hq1 : 1 ≤ q := by have := HQ.out; omega
                      have hqb : (q : Int) ≤ (bn : Int) - (p : Int) := by have := HQLE.out; omega
                      clear ho6 hb6 hbl
                      by_cases hbq : fn = q
                      · subst hbq
                        have hne : ((fn : Int) != (fn : Int)) = false := by simp
                        have hne2 : (fn != fn) = false := by simp
                        obtain ⟨bb, bo, rfl, hbb⟩ := H.out.get (i := 0) (u := bV (bs[0]'(by have := HBN.out; omega))) (by rw [List.getElem?_map, List.getElem?_eq_getElem (by have := HBN.out; omega)]; rfl)
                        obtain ⟨fb, fof, rfl, hff⟩ := HF6.out.get (i := 0) (u := bV ((blockP x)[0]'(by have := HBLN.out; omega))) (by rw [List.getElem?_map, List.getElem?_eq_getElem (by have := HBLN.out; omega)]; rfl)
                        clear hbb hff
                        go_wp2
                        go_loopg [19] fn (fun g s19 wx => ∃ j : Nat, j + g = fn ∧ s19 = .int .i64 j ∧ (blockP x).take j = (bs.drop p).take j ∧ ∃ nn, wx = w6.drewN nn)
                        case atStart => exact ⟨0, by omega, rfl, by rw [List.take_zero, List.take_zero], 0, rfl⟩
                        case round =>
                          obtain ⟨j, hjg, rfl, hjt, nn, rfl⟩ := hrel
                          have HJT := Lib.hid hjt
                          have HJG := Lib.hid hjg
                          clear hjt
                          cases gk with
                          | zero =>
                            have hge : (fn : Int) ≤ (j : Int) := by omega
                            have hdj : decide (j < fn) = false := decide_eq_false (by omega)
                            have HRP : Hid (readP (bs.drop p) xn = some (x, fn)) := by
                              unfold Hid
                              have h1 := HJT.out
                              rw [show j = fn by omega, List.take_of_length_le (by rw [HBLN.out]; exact Nat.le_refl _)] at h1
                              have h2 : fn = (blockP x).length ∧ (bs.drop p).take fn = blockP x := ⟨HBLN.out, h1.symm⟩
                              rw [HRS.out, if_pos h2]
                            have HGO := Lib.hid (rget_go (by rw [← HLN.out]; have := HK.out; omega) HGET.out (by rw [← HLN.out, ← HK.out]; exact HRP.out) (by rw [← HLN.out, ← HK.out]; exact HXL.out))
                            have HW06 : Hid (BW wo w6) := (HWO3.out.trans HB34.out).trans HB46.out
                            have HROW7 : Hid ((w6.drewN nn).ownsRow w.heap.size 2 1 (.slice ro rn rc) rn (xs.map iV)) := by
                              unfold Hid
                              have h1 := HROW.out
                              rw [← HLN.out] at h1
                              exact row_keep h1 fun a n c e => HW06.out.block _ (row_lt h1 e)
                            have HX7 := Lib.hid (HX6.out.drew nn)
                            clear hjg
                            go_wp2_with (at_builtin; refine append_i64 rfl (.tmp 125) (.tmp 126) rfl w.heap.size _ rn xs rfl HROW7.out _ rfl x HX7.out ?_ ?_ ?_)
                            · have := HXL.out; omega
                            · exact HBW6.out.size
                            intro v8 w8 ho8 hg8
                            have HO8 : Hid (w8.ownsRow w.heap.size 2 1 v8 (xs ++ x).length ((xs ++ x).map iV)) := by
                              unfold Hid
                              rw [List.length_append, ← HLN.out, List.map_append]; exact ho8
                            have HB8 := Lib.hid (bw_grown (bw_drew HBW6.out nn) hg8 (rowU_own HROW7.out))
                            have c81 : w8.cell? ⟨s, 1, none⟩ = some (.int .i64 (fn : Int)) := by
                              refine (World.cell?_of_block (w := w6.drewN nn) (a := ⟨s, 1, none⟩) (hg8.block s ?_ fun e4 => ?_)).trans c61
                              · exact Nat.lt_of_lt_of_le (Nat.lt_of_lt_of_le HS3.out HB34.out.size) HB46.out.size
                              · obtain ⟨a2, n1, c1, hv3, hab⟩ := own_some (by first | exact e4 | exact e4.symm)
                                have h5 := row_lt HROW.out hv3
                                have h6 := HS.out
                                omega
                            clear ho8 hg8 c61
                            go_wp2
                            go_roundg g
                            case measure => omega
                            case rel => exact ⟨xs ++ x, p + fn, by have := HXG.out; have := HXL.out; have := HK.out; have := HLN.out; rw [List.length_append]; omega, by have := HXL.out; have := HK.out; have := HLN.out; rw [List.length_append]; omega, by first | rfl | simp, by omega, HO8.out, HGO.out, HB8.out⟩
                          | succ g'' =>
                            have hjl : j < (bs.drop p).length := by rw [List.length_drop, ← HBN.out]; omega
                            have hjf : j < (blockP x).length := by rw [← HBLN.out]; omega
                            obtain ⟨ch, hc⟩ : ∃ ch, (bs.drop p)[j]? = some ch := ⟨_, List.getElem?_eq_getElem hjl⟩
                            obtain ⟨fh, hf⟩ : ∃ fh, (blockP x)[j]? = some fh := ⟨_, List.getElem?_eq_getElem hjf⟩
                            obtain ⟨cx, hx⟩ : ∃ cx, ch.toNat = cx := ⟨_, rfl⟩
                            obtain ⟨cy, hy⟩ : ∃ cy, fh.toNat = cy := ⟨_, rfl⟩
                            have ck : w6.cell? ⟨bb, bo + (p + j), none⟩ = some (.int .u8 (cx : Int)) := by
                              obtain ⟨b', o', e', h'⟩ := (H.out.below HBW6.out).get (i := p + j) (u := bV ch) (by rw [List.getElem?_map]; rw [List.getElem?_drop] at hc; rw [hc]; rfl)
                              cases e'
                              unfold bV at h'
                              rw [hx] at h'; exact h'
                            have fk : w6.cell? ⟨fb, fof + j, none⟩ = some (.int .u8 (cy : Int)) := by
                              obtain ⟨b', o', e', h'⟩ := HF6.out.get (i := j) (u := bV fh) (by rw [List.getElem?_map, hf]; rfl)
                              cases e'
                              unfold bV at h'
                              rw [hy] at h'; exact h'
                            have HC := Lib.hid hc; have HFH := Lib.hid hf; have HCX := Lib.hid hx; have HCY := Lib.hid hy
                            have hi0 : (0 : Int) ≤ (j : Int) := by omega
                            have hi1 : (j : Int) < (fn : Int) := by omega
                            have hi2 : (p : Int) + (j : Int) < (bn : Int) := by omega
                            have hi3 : (0 : Int) ≤ (p : Int) + (j : Int) := by omega
                            have HNE : Hid (cy ≠ cx → getP bs n = none) := fun hxy => by
                              refine rget_stop (by rw [← HLN.out]; have := HK.out; omega) HGET.out ?_
                              rw [← HLN.out, ← HK.out, HRS.out, if_neg ?_]
                              rintro ⟨_, h3⟩
                              have e1 := congrArg (fun z => z[j]?) h3
                              simp only [HFH.out, List.getElem?_take, if_pos (show j < fn by omega), HC.out] at e1
                              injection e1 with e1
                              rw [e1] at HCX
                              exact hxy (HCY.out.symm.trans HCX.out)
                            have hwr : IntKind.i64.wrap ((p : Int) + (j : Int)) = (p : Int) + (j : Int) := IntWalk.i64_in _ (by omega)
                            have htn : ((p : Int) + (j : Int)).toNat = p + j := by omega
                            clear hc hf hx hy hjl hjf hjg
                            by_cases hxy : cy = cx
                            · subst hxy
                              have hbe : ((cy : Int) != (cy : Int)) = false := by simp
                              clear HNE
                              go_wp2
                              go_quiet (fail)
                              go_wp2
                              go_roundg g''
                              case measure => omega
                              case rel =>
                                refine ⟨j + 1, by have := HJG.out; omega, by first | rfl | simp, ?_, _, rfl⟩
                                obtain ⟨q1, q2⟩ := List.getElem?_eq_some_iff.1 HC.out
                                obtain ⟨q3, q4⟩ := List.getElem?_eq_some_iff.1 HFH.out
                                rw [List.take_succ_eq_append_getElem q1, List.take_succ_eq_append_getElem q3, HJT.out, q2, q4]
                                have : fh = ch := UInt8.toNat_inj.1 (by rw [HCY.out, HCX.out])
                                rw [this]
                            · have hbe : ((cy : Int) != (cx : Int)) = true := by simp; omega
                              have HBAD := Lib.hid (HNE.out hxy)
                              clear HNE
                              go_wp2
                              go_quiet (fail)
                              go_wp2
                              go_ret3
                              exact ⟨_, _, _, rfl, bw_drew (bw_drew HBW6.out _) _, .inr ⟨HBAD.out, rfl, rfl, rfl⟩⟩
                      · have hne : ((fn : Int) != (q : Int)) = true := by simp; omega
                        have HBAD : Hid (getP bs n = none) := by
                          refine rget_stop (by rw [← HLN.out]; have := HK.out; omega) HGET.out ?_
                          rw [← HLN.out, ← HK.out, HRS.out, if_neg]
                          rintro ⟨h1, _⟩
                          exact hbq (HBLN.out.trans h1.symm)
                        go_wp2
                        go_ret3
                        exact ⟨_, _, _, rfl, HBW6.out, .inr ⟨HBAD.out, rfl, rfl, rfl⟩⟩
                    | succ g' =>
                      have hi : (i : Int) < (k : Int) := by omega
                      have hi0 : (0 : Int) ≤ (i : Int) := by omega
                      have hia : i < a.length := by have := HAL.out.1; omega
                      obtain ⟨z, hze⟩ : ∃ z, z = a[i] := ⟨_, rfl⟩
                      have hz : a[i]? = some z := by rw [hze]; exact List.getElem?_eq_getElem hia
                      obtain ⟨b0, o0, eb, hc0⟩ := (HS4.out.below HBXX.out).get (i := i) (u := .int .u64 (z : Int)) (by rw [List.getElem?_map, hz]; rfl)
                      cases eb
                      rw [Nat.zero_add] at hc0
                      obtain ⟨y, hy⟩ : ∃ y, y = w64 (m + (z : Int)) := ⟨_, rfl⟩
                      have hup : IntKind.i64.wrap (IntKind.u64.wrap (IntKind.u64.wrap m + (z : Int))) = y := by rw [cand_wrap, hy]
                      have HUP := Lib.hid hup
                      have HST : Hid (candP m (a.take (i + 1)) = candP m (a.take i) ++ [y]) := by
                        unfold Hid
                        rw [List.take_succ_eq_append_getElem hia, ← hze, hy]; unfold candP; rw [List.map_append]; rfl
                      have hz0 : 0 ≤ (z : Int) := by omega
                      obtain ⟨ls, hls⟩ : ∃ ls, ls = candP m (a.take i) := ⟨_, rfl⟩
                      have HROW1 : Hid (wr.ownsRow w4.heap.size 2 1 u16 i (ls.map iV)) := by rw [hls]; exact HROWX.out
                      rw [← hls] at HST
                      clear hze hy hz hia hig hls HROWX
                      go_wp2_with (at_builtin; refine append_i64 rfl (.tmp 88) (.tmp 97) rfl w4.heap.size _ i ls rfl (HROW1.out.alloc _) (.slice (some ⟨wr.heap.size, 0, none⟩) 1 1) rfl [y] (src_newI _ _ 1 [y] rfl (by decide) (by first | rfl | (simp only [List.map_cons, List.map_nil, iV]; rw [HUP.out]))) ?_ ?_ ?_)
                      · have := HIG.out; simp; omega
                      · have := HBXX.out.size; simp; omega
                      intro v5 w5 ho5 hg5
                      have HO5 : Hid (w5.ownsRow w4.heap.size 2 1 v5 (i + 1) ((candP m (a.take (i + 1))).map iV)) := by
                        unfold Hid
                        rw [HST.out, List.map_append]; exact ho5
                      have HB5 := Lib.hid (bw_grown (HBXX.out.alloc _) hg5 (rowU_own HROW1.out))
                      clear ho5 hg5
                      go_wp2
                      go_roundg g'
                      case measure => omega
                      case rel => exact ⟨i + 1, by have := HIG.out; omega, by first | rfl | simp, HO5.out, HB5.out⟩
                · have HBAD : Hid (getP bs n = none) := by
                    refine rget_stop (by rw [← HLN.out]; have := HK.out; omega) HGET.out ?_
                    rw [← HLN.out, ← HK.out]
                    refine readQ_none ?_
                    unfold readQ
                    simp only [HDU.out, HWR.out]
                    rw [← HWN.out, ← HPN.out, if_neg (by have := HLO.out; omega), hn4]; rfl
                  have HBW4 := Lib.hid (HBW3.out.trans hb4)
                  clear hb4 hn4
                  go_wp2
                  go_ret3
                  exact ⟨_, _, _, rfl, HBW4.out, .inr ⟨HBAD.out, rfl, rfl, rfl⟩⟩
              · have HBAD : Hid (getP bs n = none) := by
                  refine rget_stop (by rw [← HLN.out]; have := HK.out; omega) HGET.out ?_
                  rw [← HLN.out, ← HK.out]
                  refine readQ_none ?_
                  unfold readQ
                  simp only [HDU.out, HWR.out]
                  rw [HDR.out] at hno3
                  unfold BytesOk at hno3
                  rw [← HWN.out, ← HPN.out, if_pos (.inr (by omega))]
                have c3 : w3.cell? ⟨s, 2, none⟩ = some (.int .i64 20) := cell_of hrf3.blk rfl
                clear hrf3 hm3 hno3 hc4 c2
                go_wp2
                go_ret3
                exact ⟨_, _, _, rfl, HBW3.out, .inr ⟨HBAD.out, rfl, rfl, rfl⟩⟩
          · have HBAD : Hid (getP bs n = none) := by
              refine rget_stop (by rw [← HLN.out]; have := HK.out; omega) HGET.out ?_
              rw [← HLN.out, ← HK.out]
              refine readQ_none ?_
              unfold readQ
              have h0 : (bs.drop p).drop c = [] := by
                unfold BytesOk at hno2
                exact List.length_eq_zero_iff.1 (by omega)
              simp only [HDU.out, h0]
            have c2 : w2.cell? ⟨s, 2, none⟩ = some (.int .i64 20) := cell_of hrf2.blk rfl
            clear hrf2 hm2 hno2
            go_wp2
            go_ret3
            exact ⟨_, _, _, rfl, HBW2.out, .inr ⟨HBAD.out, rfl, rfl, rfl⟩⟩
        · have HBAD : Hid (getP bs n = none) := by
            refine rget_stop (by rw [← HLN.out]; have := HK.out; omega) HGET.out ?_
            rw [← HLN.out, ← HK.out]
            refine readQ_none ?_
            unfold readQ
            unfold dI at hdI
            rw [List.drop_zero] at hdI
            cases hd : deco (bs.drop p) with
            | none => rfl
            | some q => rw [hd] at hdI; cases hdI
          have HRF1 := Lib.hid hrf1
          have HBY := Lib.hid (refBytes_bad hrf1 (by decide) 1)
          have c2 : w1.cell? ⟨s, 2, none⟩ = some (.int .i64 20) := cell_of hrf1.blk rfl
          clear hm1 hdI hrf1
          go_wp2_with (go_at_call 47; refine HBY.out.mono ?_; rintro e w' ⟨rfl, rfl⟩)
          go_ret3
          exact ⟨_, _, _, rfl, HBW1.out, .inr ⟨HBAD.out, rfl, rfl, rfl⟩⟩
      · have hd : decide (128 < (n : Int) - (rn : Int)) = true := decide_eq_true (by omega)
        have hd128 : k = 128 := by have := HK.out; omega
        clear hkr
        subst hd128
        obtain ⟨wo, rfl⟩ : ∃ wo : World, wo = wr := ⟨_, rfl⟩
        go_upto_region 9 with (fail)
        have HSUB : Hid (Src wo (.slice (if cap = p then ao else Option.map (fun x => x.add p) ao) (bn - p) (cap - p)) ((bs.drop p).map bV)) := by
          unfold Hid
          have h1 := H.out.below HBX.out
          by_cases hc : cap = p
          · rw [if_pos hc, hc, Nat.sub_self]; exact sub_src1 (by rw [hc] at h1; exact h1) HBN.out.symm hpb rfl
          · rw [if_neg hc]; exact sub_src2 h1 HBN.out.symm hpb hc
        go_upto_region 10 with (fail)
        generalize (if cap = p then ao else Option.map (fun x => x.add p) ao) = sa at HSUB ⊢
        have HRF : Hid (Rf (wo.alloc (.cells #[.slice sa (bn - p) (cap - p), .int .i64 0, .int .i64 0] 74)) wo.heap.size (.slice sa (bn - p) (cap - p)) (bs.drop p) 0 0) := by
          refine ⟨heap_new _ _, HSUB.out.below (bw_alloc _ _), Nat.zero_le _, by rw [List.length_drop, ← HBN.out]; omega, fun hne a n' k' e => ?_⟩
          rcases HSUB.out with ⟨_, _, _, hx, _⟩ | ⟨b', off', c', hv, _, _, h3, _⟩
          · exact absurd (by simpa using hx) hne
          · rw [hv] at e; cases e; exact Nat.ne_of_lt h3
        generalize hw0 : wo.alloc (.cells #[.slice sa (bn - p) (cap - p), .int .i64 0, .int .i64 0] 74) = w0 at HRF ⊢
        have HB0 : Hid (BW wo w0) := by rw [← hw0]; exact bw_alloc _ _
        have HSZ : Hid (w.heap.size ≤ wo.heap.size) := HBX.out.size
        obtain ⟨s, hs⟩ : ∃ s, s = wo.heap.size := ⟨_, rfl⟩
        rw [← hs] at HRF ⊢
        have HS := Lib.hid hs
        have HBW0 : Hid (BW w w0) := HBX.out.trans HB0.out
        have HINT := Lib.hid (refInt_ok HRF.out)
        clear hw0 hs HSUB
        go_upto_region 11 with (go_at_call 46; refine HINT.out.mono ?_; rintro e w1 ⟨x, rfl, hm1, hcase1⟩)
        have HM1 := Lib.hid hm1
        have HWO1 : Hid (BW wo w1) := bw_moves HB0.out hm1 (Nat.le_of_eq HS.out.symm)
        have HBW1 : Hid (BW w w1) := bw_moves HBW0.out hm1 (by rw [HS.out]; exact HSZ.out)
        rcases hcase1 with ⟨c, hdI, hrf1⟩ | ⟨hdI, rfl, hrf1⟩
        · rw [List.drop_zero] at hdI
          obtain ⟨u, hdu, rfl⟩ := dI_some hdI
          rw [Nat.zero_add] at hrf1
          have HDU := Lib.hid hdu
          obtain ⟨m, hm⟩ : ∃ m, m = back u := ⟨_, rfl⟩
          rw [← hm]
          have HMM := Lib.hid hm
          have HS1 : Hid (s < w1.heap.size) := lt_of_heap hrf1.blk
          have HBY := Lib.hid (refBytes_ok hrf1 1 (by decide) (by decide))
          clear hdI hdu hrf1 hm1 hm
          go_upto_region 12 with (go_at_call 47; refine HBY.out.mono ?_; rintro e w2 ⟨x2, rfl, hm2, hcase2⟩)
          have HWO2 : Hid (BW wo w2) := bw_moves HWO1.out hm2 (Nat.le_of_eq HS.out.symm)
          have HBW2 : Hid (BW w w2) := bw_moves HBW1.out hm2 (by rw [HS.out]; exact HSZ.out)
          rcases hcase2 with ⟨hok2, m1, hm11, hrf2, hx2⟩ | ⟨hno2, rfl, hrf2⟩
          · obtain rfl : m1 = 1 := by omega
            obtain ⟨wv, r, hwr⟩ : ∃ wv r, (bs.drop p).drop c = wv :: r := by
              cases hdr : (bs.drop p).drop c with
              | nil => rw [hdr] at hok2; unfold BytesOk at hok2; simp at hok2
              | cons wv r => exact ⟨wv, r, rfl⟩
            rw [hwr] at hx2
            have HWR := Lib.hid hwr
            have HRF2 := Lib.hid hrf2
            obtain ⟨xo, xn, xc, rfl⟩ := row_form hx2
            obtain rfl : xn = 1 := row_len hx2 rfl
            have hx2' : w2.ownsRow w1.heap.size 5 1 (.slice xo 1 xc) 1 ([wv].map bV) := hx2
            obtain ⟨b2, o2, rfl, hc3⟩ := (Src.of_row hx2').get (i := 0) (u := bV wv) rfl
            have HX2 := Lib.hid hx2'
            have c2 : w2.cell? ⟨s, 2, none⟩ = some (.int .i64 0) := cell_of hrf2.blk rfl
            obtain ⟨wn, hwn⟩ : ∃ wn, wn = wv.toNat := ⟨_, rfl⟩
            have hwn256 : wn < 256 := by rw [hwn]; exact wv.toNat_lt
            have hc4 : w2.cell? ⟨b2, o2, none⟩ = some (.int .u8 (wn : Int)) := by rw [Nat.add_zero] at hc3; rw [hc3, hwn]; rfl
            have HWN := Lib.hid hwn
            clear hx2 hx2' hrf2 hm2 hok2 hm11 hwr hc3 hwn
            by_cases h64 : 64 < wn
            · have hd6 : decide (64 < wn) = true := decide_eq_true h64
              have hd7 : decide ((64 : Int) < (wn : Int)) = true := decide_eq_true (by omega)
              have HBAD : Hid (getP bs n = none) := by
                refine rget_stop (by rw [← HLN.out]; have := HK.out; omega) HGET.out ?_
                rw [← HLN.out, ← HK.out]
                refine readQ_none ?_
                unfold readQ
                simp only [HDU.out, HWR.out]
                rw [if_pos (.inl (by rw [← HWN.out]; exact h64))]
              clear h64
              go_wp2
              go_ret3
              exact ⟨_, _, _, rfl, HBW2.out, .inr ⟨HBAD.out, rfl, rfl, rfl⟩⟩
            · have hd6 : decide (64 < wn) = false := decide_eq_false h64
              have hd7 : decide ((64 : Int) < (wn : Int)) = false := decide_eq_false (by omega)
              obtain ⟨kn, hkn⟩ : ∃ kn, kn = wn * 128 := ⟨_, rfl⟩
              have hkn2 : kn ≤ 8192 := by rw [hkn]; exact Nat.le_trans (Nat.mul_le_mul (by omega : wn ≤ 64) hk2) (by decide)
              have hki2 : (wn : Int) * (128 : Int) = (kn : Int) := by rw [hkn]; push_cast; rfl
              obtain ⟨pn, hpn⟩ : ∃ pn, pn = (kn + 7) / 8 := ⟨_, rfl⟩
              have hpi : ((kn : Int) + 7) / 8 = (pn : Int) := by omega
              have HPN : Hid (pn = packed 128 wn) := by unfold Hid; rw [hpn, hkn]; unfold packed; rw [Nat.mul_comm]
              have hpn3 : pn ≤ 1024 := by omega
              have HBY3 := Lib.hid (refBytes_ok HRF2.out (pn : Int) (by omega) (by omega))
              have HDR : Hid ((bs.drop p).drop (c + 1) = r) := by
                unfold Hid
                rw [← List.drop_drop (i := 1) (j := c), HWR.out]; rfl
              clear hpn hkn
              go_wp2_with fail
              refine HBY3.out.mono ?_
              rintro e w3 ⟨x3, rfl, hm3, hcase3⟩
              have HWO3 : Hid (BW wo w3) := bw_moves HWO2.out hm3 (Nat.le_of_eq HS.out.symm)
              have HBW3 : Hid (BW w w3) := bw_moves HBW2.out hm3 (by rw [HS.out]; exact HSZ.out)
              rcases hcase3 with ⟨hok3, m3, hm31, hrf3, hx3⟩ | ⟨hno3, rfl, hrf3⟩
              · obtain rfl : m3 = pn := by omega
                rw [HDR.out] at hok3 hx3
                have HLO : Hid (¬ r.length < m3) := by unfold Hid; unfold BytesOk at hok3; omega
                have c3 : w3.cell? ⟨s, 2, none⟩ = some (.int .i64 0) := cell_of hrf3.blk rfl
                have hb2s : b2 ≠ s := by
                  have h1 := row_base' HX2.out _ _ _ rfl
                  have h2 := HS1.out
                  have h3 : w1.heap.size ≤ b2 := h1
                  omega
                have hb2l : b2 < w2.heap.size := row_lt HX2.out rfl
                have hc5 : w3.cell? ⟨b2, o2, none⟩ = some (.int .u8 (wn : Int)) := (World.cell?_of_block (w := w2) (a := ⟨b2, o2, none⟩) (hm3.block b2 hb2l hb2s)).trans hc4
                have HBL3 := Lib.hid hrf3.blk
                have HS3 : Hid (s < w3.heap.size) := lt_of_heap hrf3.blk
                obtain ⟨q, hq⟩ : ∃ q, q = c + 1 + m3 := ⟨_, rfl⟩
                rw [← hq] at HBL3
                have HQ := Lib.hid hq
                have HQLE : Hid (q ≤ bn - p) := by
                  unfold Hid
                  have h1 := hrf3.le
                  rw [List.length_drop, ← HBN.out, ← hq] at h1; exact h1
                obtain ⟨ao3, an3, ac3, rfl⟩ := row_form hx3
                have HUB := Lib.hid (refUnbits_any (Src.of_row hx3) (by rw [List.length_take]; have := HLO.out; omega) wn 128 (by omega) (by omega))
                clear hok3 hx3 hrf3 hm3 hm31 hc4 c2 hb2s hb2l hq
                go_wp2_with fail
                refine HUB.out.mono ?_
                rintro e w4 ⟨v4, er, rfl, hb4, ⟨a, ha, rfl, ho4⟩ | ⟨hn4, rfl, rfl⟩⟩
                · have hal := bits_unbits ha
                  have HAL := Lib.hid hal.2
                  obtain ⟨x, hx⟩ : ∃ x, x = candP m a := ⟨_, rfl⟩
                  have HX := Lib.hid hx
                  have HXL : Hid (x.length = 128) := by unfold Hid; rw [hx, cand_len]; exact hal.2.1
                  have HXI : Hid (I64s x) := by unfold Hid; rw [hx]; exact cand_i64 m a
                  have HRQ : Hid (readQ (bs.drop p) 128 = some (x, q)) := by
                    unfold Hid readQ
                    simp only [HDU.out, HWR.out]
                    rw [← HWN.out, ← HPN.out, if_neg (by have := HLO.out; omega), ha, HQ.out, hx, HMM.out]; rfl
                  have HBW4 := Lib.hid (HBW3.out.trans hb4)
                  have HB34 := Lib.hid hb4
                  rw [hal.2.1] at ho4
                  obtain ⟨g4, c4, rfl⟩ : ∃ g4 c4, v4 = .slice (some ⟨g4, 0, none⟩) 128 c4 := by
                    rcases ho4.2 with ⟨_, h2⟩ | ⟨g, cp, cur, hv', _⟩
                    · omega
                    · exact ⟨g, cp, hv'⟩
                  have HS4 := Lib.hid (Src.of_row ho4)
                  clear ha hal hb4 ho4 hx
                  go_wp2
                  go_loopg [16, 17] 128 (fun g s16 s17 wx => ∃ i : Nat, i + g = 128 ∧ s17 = .int .i64 i ∧ wx.ownsRow w4.heap.size 2 1 s16 i ((candP m (a.take i)).map iV) ∧ BW w4 wx)
                  case atStart => exact ⟨0, by omega, rfl, World.ownsRow_nil _ _ _ _, BW.refl w4⟩
                  case round =>
                    obtain ⟨i, hig, rfl, hrow, hbx⟩ := hrel
                    have HROWX := Lib.hid hrow
                    have HBXX := Lib.hid hbx
                    have HIG := Lib.hid hig
                    clear hrow hbx
                    cases gk with
                    | zero =>
                      have hge : (128 : Int) ≤ (i : Int) := by omega
                      have hd20 : decide (i < 128) = false := decide_eq_false (by omega)
                      have HFX : Hid (wr.ownsRow w4.heap.size 2 1 u16 128 (x.map iV)) := by
                        unfold Hid
                        have h1 := HROWX.out
                        rw [show i = 128 by omega, List.take_of_length_le (by have := HAL.out.1; omega), ← HX.out] at h1
                        exact h1
                      obtain ⟨xo, xn, xc, rfl⟩ := row_form HFX.out
                      obtain rfl : xn = 128 := row_len HFX.out rfl
                      have HONE := Lib.hid (refOne_any (Src.of_row HFX.out) (by intro e; have := HXL.out; rw [e, List.length_nil] at this; omega) HXI.out (by have := HXL.out; omega))
                      clear hig HIG HROWX hc5 c3
                      have hk0 : 0 < 128 := by omega
                      go_wp2_with fail
                      refine HONE.out.mono ?_
                      rintro e w6 ⟨v6, rfl, ho6, hb6⟩
                      have HB46 := Lib.hid (HBXX.out.trans hb6)
                      have HBW6 := Lib.hid (HBW4.out.trans HB46.out)
                      have HBL6 := Lib.hid ((HB46.out.block s (Nat.lt_of_lt_of_le HS3.out HB34.out.size)).trans ((HB34.out.block s HS3.out).trans HBL3.out))
                      have c61 : w6.cell? ⟨s, 1, none⟩ = some (.int .i64 (q : Int)) := cell_of HBL6.out rfl
                      obtain ⟨bl, hbl⟩ : ∃ bl, bl = (blockP x).length := ⟨_, rfl⟩
                      have HF6 := Lib.hid (Src.of_row ho6)
                      rw [← hbl] at ho6
                      obtain ⟨fo, fn, fc, rfl⟩ := row_form ho6
                      obtain rfl : fn = bl := row_len ho6 rfl
                      have HBLN := Lib.hid hbl
                      have HRS := Lib.hid (read_same hk0 HRQ.out)
                      have HX6 : Hid (Src w6 (.slice xo 128 xc) (x.map iV)) := (Src.of_row HFX.out).below hb6
                      have hq1 : 1 ≤ q := by have := HQ.out; omega
                      have hqb : (q : Int) ≤ (bn : Int) - (p : Int) := by have := HQLE.out; omega
                      clear ho6 hb6 hbl
                      by_cases hbq : fn = q
                      · subst hbq
                        have hne : ((fn : Int) != (fn : Int)) = false := by simp
                        have hne2 : (fn != fn) = false := by simp
                        obtain ⟨bb, bo, rfl, hbb⟩ := H.out.get (i := 0) (u := bV (bs[0]'(by have := HBN.out; omega))) (by rw [List.getElem?_map, List.getElem?_eq_getElem (by have := HBN.out; omega)]; rfl)
                        obtain ⟨fb, fof, rfl, hff⟩ := HF6.out.get (i := 0) (u := bV ((blockP x)[0]'(by have := HBLN.out; omega))) (by rw [List.getElem?_map, List.getElem?_eq_getElem (by have := HBLN.out; omega)]; rfl)
                        clear hbb hff
                        go_wp2
                        go_loopg [19] fn (fun g s19 wx => ∃ j : Nat, j + g = fn ∧ s19 = .int .i64 j ∧ (blockP x).take j = (bs.drop p).take j ∧ ∃ nn, wx = w6.drewN nn)
                        case atStart => exact ⟨0, by omega, rfl, by rw [List.take_zero, List.take_zero], 0, rfl⟩
                        case round =>
                          obtain ⟨j, hjg, rfl, hjt, nn, rfl⟩ := hrel
                          have HJT := Lib.hid hjt
                          have HJG := Lib.hid hjg
                          clear hjt
                          cases gk with
                          | zero =>
                            have hge : (fn : Int) ≤ (j : Int) := by omega
                            have hdj : decide (j < fn) = false := decide_eq_false (by omega)
                            have HRP : Hid (readP (bs.drop p) 128 = some (x, fn)) := by
                              unfold Hid
                              have h1 := HJT.out
                              rw [show j = fn by omega, List.take_of_length_le (by rw [HBLN.out]; exact Nat.le_refl _)] at h1
                              have h2 : fn = (blockP x).length ∧ (bs.drop p).take fn = blockP x := ⟨HBLN.out, h1.symm⟩
                              rw [HRS.out, if_pos h2]
                            have HGO := Lib.hid (rget_go (by rw [← HLN.out]; have := HK.out; omega) HGET.out (by rw [← HLN.out, ← HK.out]; exact HRP.out) (by rw [← HLN.out, ← HK.out]; exact HXL.out))
                            have HW06 : Hid (BW wo w6) := (HWO3.out.trans HB34.out).trans HB46.out
                            have HROW7 : Hid ((w6.drewN nn).ownsRow w.heap.size 2 1 (.slice ro rn rc) rn (xs.map iV)) := by
                              unfold Hid
                              have h1 := HROW.out
                              rw [← HLN.out] at h1
                              exact row_keep h1 fun a n c e => HW06.out.block _ (row_lt h1 e)
                            have HX7 := Lib.hid (HX6.out.drew nn)
                            clear hjg
                            go_wp2_with (at_builtin; refine append_i64 rfl (.tmp 125) (.tmp 126) rfl w.heap.size _ rn xs rfl HROW7.out _ rfl x HX7.out ?_ ?_ ?_)
                            · have := HXL.out; omega
                            · exact HBW6.out.size
                            intro v8 w8 ho8 hg8
                            have HO8 : Hid (w8.ownsRow w.heap.size 2 1 v8 (xs ++ x).length ((xs ++ x).map iV)) := by
                              unfold Hid
                              rw [List.length_append, ← HLN.out, List.map_append]; exact ho8
                            have HB8 := Lib.hid (bw_grown (bw_drew HBW6.out nn) hg8 (rowU_own HROW7.out))
                            have c81 : w8.cell? ⟨s, 1, none⟩ = some (.int .i64 (fn : Int)) := by
                              refine (World.cell?_of_block (w := w6.drewN nn) (a := ⟨s, 1, none⟩) (hg8.block s ?_ fun e4 => ?_)).trans c61
                              · exact Nat.lt_of_lt_of_le (Nat.lt_of_lt_of_le HS3.out HB34.out.size) HB46.out.size
                              · obtain ⟨a2, n1, c1, hv3, hab⟩ := own_some (by first | exact e4 | exact e4.symm)
                                have h5 := row_lt HROW.out hv3
                                have h6 := HS.out
                                omega
                            clear ho8 hg8 c61
                            go_wp2
                            go_roundg g
                            case measure => omega
                            case rel => exact ⟨xs ++ x, p + fn, by have := HXG.out; have := HXL.out; have := HK.out; have := HLN.out; rw [List.length_append]; omega, by have := HXL.out; have := HK.out; have := HLN.out; rw [List.length_append]; omega, by first | rfl | simp, by omega, HO8.out, HGO.out, HB8.out⟩
                          | succ g'' =>
                            have hjl : j < (bs.drop p).length := by rw [List.length_drop, ← HBN.out]; omega
                            have hjf : j < (blockP x).length := by rw [← HBLN.out]; omega
                            obtain ⟨ch, hc⟩ : ∃ ch, (bs.drop p)[j]? = some ch := ⟨_, List.getElem?_eq_getElem hjl⟩
                            obtain ⟨fh, hf⟩ : ∃ fh, (blockP x)[j]? = some fh := ⟨_, List.getElem?_eq_getElem hjf⟩
                            obtain ⟨cx, hx⟩ : ∃ cx, ch.toNat = cx := ⟨_, rfl⟩
                            obtain ⟨cy, hy⟩ : ∃ cy, fh.toNat = cy := ⟨_, rfl⟩
                            have ck : w6.cell? ⟨bb, bo + (p + j), none⟩ = some (.int .u8 (cx : Int)) := by
                              obtain ⟨b', o', e', h'⟩ := (H.out.below HBW6.out).get (i := p + j) (u := bV ch) (by rw [List.getElem?_map]; rw [List.getElem?_drop] at hc; rw [hc]; rfl)
                              cases e'
                              unfold bV at h'
                              rw [hx] at h'; exact h'
                            have fk : w6.cell? ⟨fb, fof + j, none⟩ = some (.int .u8 (cy : Int)) := by
                              obtain ⟨b', o', e', h'⟩ := HF6.out.get (i := j) (u := bV fh) (by rw [List.getElem?_map, hf]; rfl)
                              cases e'
                              unfold bV at h'
                              rw [hy] at h'; exact h'
                            have HC := Lib.hid hc; have HFH := Lib.hid hf; have HCX := Lib.hid hx; have HCY := Lib.hid hy
                            have hi0 : (0 : Int) ≤ (j : Int) := by omega
                            have hi1 : (j : Int) < (fn : Int) := by omega
                            have hi2 : (p : Int) + (j : Int) < (bn : Int) := by omega
                            have hi3 : (0 : Int) ≤ (p : Int) + (j : Int) := by omega
                            have HNE : Hid (cy ≠ cx → getP bs n = none) := fun hxy => by
                              refine rget_stop (by rw [← HLN.out]; have := HK.out; omega) HGET.out ?_
                              rw [← HLN.out, ← HK.out, HRS.out, if_neg ?_]
                              rintro ⟨_, h3⟩
                              have e1 := congrArg (fun z => z[j]?) h3
                              simp only [HFH.out, List.getElem?_take, if_pos (show j < fn by omega), HC.out] at e1
                              injection e1 with e1
                              rw [e1] at HCX
                              exact hxy (HCY.out.symm.trans HCX.out)
                            have hwr : IntKind.i64.wrap ((p : Int) + (j : Int)) = (p : Int) + (j : Int) := IntWalk.i64_in _ (by omega)
                            have htn : ((p : Int) + (j : Int)).toNat = p + j := by omega
                            clear hc hf hx hy hjl hjf hjg
                            by_cases hxy : cy = cx
                            · subst hxy
                              have hbe : ((cy : Int) != (cy : Int)) = false := by simp
                              clear HNE
                              go_wp2
                              go_quiet (fail)
                              go_wp2
                              go_roundg g''
                              case measure => omega
                              case rel =>
                                refine ⟨j + 1, by have := HJG.out; omega, by first | rfl | simp, ?_, _, rfl⟩
                                obtain ⟨q1, q2⟩ := List.getElem?_eq_some_iff.1 HC.out
                                obtain ⟨q3, q4⟩ := List.getElem?_eq_some_iff.1 HFH.out
                                rw [List.take_succ_eq_append_getElem q1, List.take_succ_eq_append_getElem q3, HJT.out, q2, q4]
                                have : fh = ch := UInt8.toNat_inj.1 (by rw [HCY.out, HCX.out])
                                rw [this]
                            · have hbe : ((cy : Int) != (cx : Int)) = true := by simp; omega
                              have HBAD := Lib.hid (HNE.out hxy)
                              clear HNE
                              go_wp2
                              go_quiet (fail)
                              go_wp2
                              go_ret3
                              exact ⟨_, _, _, rfl, bw_drew (bw_drew HBW6.out _) _, .inr ⟨HBAD.out, rfl, rfl, rfl⟩⟩
                      · have hne : ((fn : Int) != (q : Int)) = true := by simp; omega
                        have HBAD : Hid (getP bs n = none) := by
                          refine rget_stop (by rw [← HLN.out]; have := HK.out; omega) HGET.out ?_
                          rw [← HLN.out, ← HK.out, HRS.out, if_neg]
                          rintro ⟨h1, _⟩
                          exact hbq (HBLN.out.trans h1.symm)
                        go_wp2
                        go_ret3
                        exact ⟨_, _, _, rfl, HBW6.out, .inr ⟨HBAD.out, rfl, rfl, rfl⟩⟩
                    | succ g' =>
                      have hi : (i : Int) < (128 : Int) := by omega
                      have hi0 : (0 : Int) ≤ (i : Int) := by omega
                      have hia : i < a.length := by have := HAL.out.1; omega
                      obtain ⟨z, hze⟩ : ∃ z, z = a[i] := ⟨_, rfl⟩
                      have hz : a[i]? = some z := by rw [hze]; exact List.getElem?_eq_getElem hia
                      obtain ⟨b0, o0, eb, hc0⟩ := (HS4.out.below HBXX.out).get (i := i) (u := .int .u64 (z : Int)) (by rw [List.getElem?_map, hz]; rfl)
                      cases eb
                      rw [Nat.zero_add] at hc0
                      obtain ⟨y, hy⟩ : ∃ y, y = w64 (m + (z : Int)) := ⟨_, rfl⟩
                      have hup : IntKind.i64.wrap (IntKind.u64.wrap (IntKind.u64.wrap m + (z : Int))) = y := by rw [cand_wrap, hy]
                      have HUP := Lib.hid hup
                      have HST : Hid (candP m (a.take (i + 1)) = candP m (a.take i) ++ [y]) := by
                        unfold Hid
                        rw [List.take_succ_eq_append_getElem hia, ← hze, hy]; unfold candP; rw [List.map_append]; rfl
                      have hz0 : 0 ≤ (z : Int) := by omega
                      obtain ⟨ls, hls⟩ : ∃ ls, ls = candP m (a.take i) := ⟨_, rfl⟩
                      have HROW1 : Hid (wr.ownsRow w4.heap.size 2 1 u16 i (ls.map iV)) := by rw [hls]; exact HROWX.out
                      rw [← hls] at HST
                      clear hze hy hz hia hig hls HROWX
                      go_wp2_with (at_builtin; refine append_i64 rfl (.tmp 88) (.tmp 97) rfl w4.heap.size _ i ls rfl (HROW1.out.alloc _) (.slice (some ⟨wr.heap.size, 0, none⟩) 1 1) rfl [y] (src_newI _ _ 1 [y] rfl (by decide) (by first | rfl | (simp only [List.map_cons, List.map_nil, iV]; rw [HUP.out]))) ?_ ?_ ?_)
                      · have := HIG.out; simp; omega
                      · have := HBXX.out.size; simp; omega
                      intro v5 w5 ho5 hg5
                      have HO5 : Hid (w5.ownsRow w4.heap.size 2 1 v5 (i + 1) ((candP m (a.take (i + 1))).map iV)) := by
                        unfold Hid
                        rw [HST.out, List.map_append]; exact ho5
                      have HB5 := Lib.hid (bw_grown (HBXX.out.alloc _) hg5 (rowU_own HROW1.out))
                      clear ho5 hg5
                      go_wp2
                      go_roundg g'
                      case measure => omega
                      case rel => exact ⟨i + 1, by have := HIG.out; omega, by first | rfl | simp, HO5.out, HB5.out⟩
                · have HBAD : Hid (getP bs n = none) := by
                    refine rget_stop (by rw [← HLN.out]; have := HK.out; omega) HGET.out ?_
                    rw [← HLN.out, ← HK.out]
                    refine readQ_none ?_
                    unfold readQ
                    simp only [HDU.out, HWR.out]
                    rw [← HWN.out, ← HPN.out, if_neg (by have := HLO.out; omega), hn4]; rfl
                  have HBW4 := Lib.hid (HBW3.out.trans hb4)
                  clear hb4 hn4
                  go_wp2
                  go_ret3
                  exact ⟨_, _, _, rfl, HBW4.out, .inr ⟨HBAD.out, rfl, rfl, rfl⟩⟩
              · have HBAD : Hid (getP bs n = none) := by
                  refine rget_stop (by rw [← HLN.out]; have := HK.out; omega) HGET.out ?_
                  rw [← HLN.out, ← HK.out]
                  refine readQ_none ?_
                  unfold readQ
                  simp only [HDU.out, HWR.out]
                  rw [HDR.out] at hno3
                  unfold BytesOk at hno3
                  rw [← HWN.out, ← HPN.out, if_pos (.inr (by omega))]
                have c3 : w3.cell? ⟨s, 2, none⟩ = some (.int .i64 20) := cell_of hrf3.blk rfl
                clear hrf3 hm3 hno3 hc4 c2
                go_wp2
                go_ret3
                exact ⟨_, _, _, rfl, HBW3.out, .inr ⟨HBAD.out, rfl, rfl, rfl⟩⟩
          · have HBAD : Hid (getP bs n = none) := by
              refine rget_stop (by rw [← HLN.out]; have := HK.out; omega) HGET.out ?_
              rw [← HLN.out, ← HK.out]
              refine readQ_none ?_
              unfold readQ
              have h0 : (bs.drop p).drop c = [] := by
                unfold BytesOk at hno2
                exact List.length_eq_zero_iff.1 (by omega)
              simp only [HDU.out, h0]
            have c2 : w2.cell? ⟨s, 2, none⟩ = some (.int .i64 20) := cell_of hrf2.blk rfl
            clear hrf2 hm2 hno2
            go_wp2
            go_ret3
            exact ⟨_, _, _, rfl, HBW2.out, .inr ⟨HBAD.out, rfl, rfl, rfl⟩⟩
        · have HBAD : Hid (getP bs n = none) := by
            refine rget_stop (by rw [← HLN.out]; have := HK.out; omega) HGET.out ?_
            rw [← HLN.out, ← HK.out]
            refine readQ_none ?_
            unfold readQ
            unfold dI at hdI
            rw [List.drop_zero] at hdI
            cases hd : deco (bs.drop p) with
            | none => rfl
            | some q => rw [hd] at hdI; cases hdI
          have HRF1 := Lib.hid hrf1
          have HBY := Lib.hid (refBytes_bad hrf1 (by decide) 1)
          have c2 : w1.cell? ⟨s, 2, none⟩ = some (.int .i64 20) := cell_of hrf1.blk rfl
          clear hm1 hdI hrf1
          go_wp2_with (go_at_call 47; refine HBY.out.mono ?_; rintro e w' ⟨rfl, rfl⟩)
          go_ret3
          exact ⟨_, _, _, rfl, HBW1.out, .inr ⟨HBAD.out, rfl, rfl, rfl⟩⟩
end Go.Proofs.Ytdoliejihinpkaa
