/- pack.Unbits: the walk. -/
import Derived.Test.YtdoliejihinpkaaPackG
namespace Go.Proofs.Ytdoliejihinpkaa
open Go.RowKit Go.Maps

theorem unbits_end {bs : List UInt8} {k n N pn t q r : Nat} (hN : N = n256 bs) (hlen : bs.length = pn) (hpn : pn = packed n k) (ht : t = k * n) (hq : q = t / 8) (hr : r = t % 8) :
    (r = 0 → unbitsP bs k n = some (digs k n N)) ∧ (0 < r → q < pn ∧ ∃ c : Nat, c < 256 ∧ (bs.map bV)[q]? = some (.int .u8 (c : Int)) ∧ (c / 2 ^ r = 0 → unbitsP bs k n = some (digs k n N)) ∧ (0 < c / 2 ^ r → unbitsP bs k n = none)) := by
  have hp2 : pn = (t + 7) / 8 := by rw [hpn, ht]; unfold packed; rw [Nat.mul_comm n]
  have hlp : bs.length = packed n k := by rw [hlen, hpn]
  constructor
  · intro h0
    have h1 : n256 bs < 2 ^ (k * n) := by
      refine Nat.lt_of_lt_of_le (n256_lt bs) ?_
      rw [show (256 : Nat) = 2 ^ 8 from rfl, ← Nat.pow_mul, ← ht]
      exact Nat.pow_le_pow_right (by decide) (by omega)
    unfold unbitsP
    rw [if_pos ⟨hlp, h1⟩, hN]
  · intro h0
    have hqp : q < pn := by omega
    have hql : t / 8 < bs.length := by omega
    have h1 := left_over hql (by omega)
    rw [← hr] at h1
    refine ⟨hqp, (bs[t / 8]).toNat, (bs[t / 8]).toNat_lt, ?_, ?_, ?_⟩
    · rw [hq, List.getElem?_map, List.getElem?_eq_getElem hql]; rfl
    · intro h2
      rw [h1] at h2
      unfold unbitsP
      rw [if_pos ⟨hlp, by rw [← ht]; exact (Nat.div_eq_zero_iff.1 h2).resolve_left (by have := two_pos t; omega)⟩, hN]
    · intro h2
      rw [h1] at h2
      unfold unbitsP
      rw [if_neg]
      rintro ⟨_, h3⟩
      rw [← ht] at h3
      rw [Nat.div_eq_of_lt h3] at h2
      omega
theorem unb_done {W w : World} {bs : List UInt8} {k n i N : Nat} (hin : i = n) (h : unbitsP bs k n = some (digs k n N)) (hb : BW w W) (ho : W.ownsRow w.heap.size 52 1 (.slice (some ⟨w.heap.size, 0, none⟩) n n) n ((digs k i N ++ List.replicate (n - i) 0).map uV)) : UnbPost w bs k n (.returned (.tuple #[.slice (some ⟨w.heap.size, 0, none⟩) n n, .int .i64 0])) W := by
  subst hin
  rw [Nat.sub_self, List.replicate_zero, List.append_nil] at ho
  exact unb_ok h hb (by rw [digs_len]; exact ho)

set_option maxRecDepth 100000 in
set_option maxHeartbeats 2000000 in
theorem unbits_walk {w : World} {v : Value} {bs : List UInt8} (h : Src w v (bs.map bV)) (k n : Nat) (hk : k ≤ 64) (hn : n ≤ 1048576) (hl : bs.length = packed n k) : Calls Try.prog 14 #[v, .int .i64 (k : Int), .int .i64 (n : Int)] w (UnbPost w bs k n) := by
  obtain ⟨ao, cap, rfl⟩ := h.len
  have HW := Lib.hid (isWidth_any (k : Int) w (by omega) (by omega))
  have HD := Lib.hid (show decide (0 ≤ (k : Int) ∧ (k : Int) ≤ 64) = true from decide_eq_true (by omega))
  have H2 := Lib.hid (isLength_any (n : Int) w (by omega) (by omega))
  have HD2 := Lib.hid (show decide (0 ≤ (n : Int) ∧ (n : Int) ≤ 1048576) = true from decide_eq_true (by omega))
  have HP := Lib.hid (packedBytes_any n k w (by omega) hk)
  have HPL := Lib.hid (packed_le (k := n) hk)
  rw [List.length_map, hl] at h ⊢
  have H := Lib.hid h
  obtain ⟨pn, hpn⟩ : ∃ pn, pn = packed n k := ⟨_, rfl⟩
  obtain ⟨N, hN⟩ : ∃ N, N = n256 bs := ⟨_, rfl⟩
  rw [← hpn] at HP H hl ⊢
  have hpk : (pn : Int) ≤ 8388608 := by rw [hpn]; have := HPL.out; omega
  have hle : (n : Int) ≤ 1048576 := by omega
  have HPN := Lib.hid hpn
  have HNN := Lib.hid hN
  have HL := Lib.hid hl
  have hne : ((pn : Int) != (pn : Int)) = false := by simp
  obtain ⟨w1, hrun, hown, hbw⟩ := make_zero (t := 22) (z := .int .u64 0) (bytes := 8) Try.underlying22 info_u64 rfl n (by omega) (by omega) w
  have HOWN := Lib.hid hown
  have HBW := Lib.hid hbw
  clear h hl hpn hN hown hbw
  go_enter Try.func14, Try.ntmps14
  go_wp2_with (first | (go_at_call 33; refine HW.out.mono ?_; rintro e w' ⟨rfl, rfl⟩; rw [HD.out]) | (go_at_call 36; refine H2.out.mono ?_; rintro e w' ⟨rfl, rfl⟩; rw [HD2.out]) | (go_at_call 34; refine HP.out.mono ?_; rintro e w' ⟨rfl, rfl⟩))
  clear hne
  go_loopg [9, 32] n (fun g s9 s32 wx => ∃ i : Nat, i + g = n ∧ s32 = .int .i64 i ∧ s9 = .int .i64 ((k * i : Nat) : Int) ∧ wx.ownsRow w.heap.size 52 1 (.slice (some ⟨w.heap.size, 0, none⟩) n n) n ((digs k i N ++ List.replicate (n - i) 0).map uV) ∧ BW w wx)
  case atStart => exact ⟨0, by omega, rfl, rfl, by have := HOWN.out; simpa [digs, uV] using this, HBW.out⟩
  case round =>
    obtain ⟨i, hig, rfl, rfl, hrow, hbx⟩ := hrel
    have HROW := Lib.hid hrow
    have HBX := Lib.hid hbx
    clear hrow hbx
    cases gk with
    | zero =>
      have hge : (n : Int) ≤ (i : Int) := by omega
      have hin : i = n := by omega
      have HIN := Lib.hid hin
      obtain ⟨t, ht⟩ : ∃ t, t = k * i := ⟨_, rfl⟩
      have htb : (t : Int) ≤ 67108864 := by
        have h1 : k * i ≤ 64 * 1048576 := Nat.mul_le_mul hk (by omega)
        omega
      rw [← ht]
      rw [hin] at ht
      obtain ⟨q, hq⟩ : ∃ q, q = t / 8 := ⟨_, rfl⟩
      obtain ⟨r, hr⟩ : ∃ r, r = t % 8 := ⟨_, rfl⟩
      obtain ⟨e1, e2⟩ := unbits_end HNN.out HL.out HPN.out ht hq hr
      have hq1 : (t : Int) / 8 = (q : Int) := by omega
      have hr1 : (t : Int) % 8 = (r : Int) := by omega
      have ht0 : 0 ≤ (t : Int) := by omega
      have htm : (t : Int).tmod 8 = (r : Int) := by rw [Int.tmod_eq_emod_of_nonneg ht0]; exact hr1
      clear hin ht hq hr
      by_cases hr0 : r = 0
      · have HE := Lib.hid (e1 hr0)
        have hd0 : decide (0 < r) = false := decide_eq_false (by omega)
        clear e1 e2 hr0
        go_wp2
        go_ret2
        exact unb_done HIN.out HE.out HBX.out HROW.out
      · obtain ⟨hqp, c, hc256, hcg, hc1, hc2⟩ := e2 (by omega)
        have hd0 : decide (0 < r) = true := decide_eq_true (by omega)
        obtain ⟨b0, o0, rfl, hc0⟩ := (H.out.below HBX.out).get hcg
        obtain ⟨z, hz⟩ : ∃ z, z = c / 2 ^ r := ⟨_, rfl⟩
        rw [← hz] at hc1 hc2
        have hzi : (c : Int) / 2 ^ r = (z : Int) := by rw [hz]; push_cast; rfl
        have hq0 : 0 ≤ (q : Int) := by omega
        have hq2 : (q : Int) < (pn : Int) := by omega
        have hwq : IntKind.i64.wrap (q : Int) = (q : Int) := IntWalk.i64_in _ (by omega)
        have hwr : IntKind.i64.wrap (r : Int) = (r : Int) := IntWalk.i64_in _ (by omega)
        have hrr : 0 ≤ (r : Int) := by omega
        by_cases hz0 : z = 0
        · have HE := Lib.hid (hc1 hz0)
          have hd1 : decide (0 < z) = false := decide_eq_false (by omega)
          clear e1 e2 hr0 hcg hc1 hc2 hz hz0 hc256 hqp
          go_wp2
          go_ret2
          exact unb_done HIN.out HE.out HBX.out HROW.out
        · have HE := Lib.hid (hc2 (by omega))
          have hd1 : decide (0 < z) = true := decide_eq_true (by omega)
          clear e1 e2 hr0 hcg hc1 hc2 hz hz0 hc256 hqp
          go_wp2
          go_ret2
          exact unb_bad HE.out HBX.out
    | succ g =>
      have hi : (i : Int) < (n : Int) := by omega
      have hi0 : (0 : Int) ≤ (i : Int) := by omega
      obtain ⟨ki, hki⟩ : ∃ ki, ki = k * i := ⟨_, rfl⟩
      have hkb : (ki : Int) + (k : Int) ≤ 67108864 := by
        have h1 : k * (i + 1) ≤ 64 * 1048576 := Nat.mul_le_mul hk (by omega)
        rw [Nat.mul_succ, ← hki] at h1
        omega
      have HKI := Lib.hid hki
      rw [← hki]
      clear hki
      go_wp2
      obtain ⟨wo, rfl⟩ : ∃ wo : World, wo = wr := ⟨_, rfl⟩
      go_loopg [9, 11] k (fun g2 s9 s11 wy => ∃ h : Nat, h + g2 = k ∧ s11 = .int .i64 (h : Int) ∧ s9 = .int .i64 ((ki + h : Nat) : Int) ∧ wy.ownsRow w.heap.size 52 1 (.slice (some ⟨w.heap.size, 0, none⟩) n n) n ((part k n i h N).map uV) ∧ BW w wy)
      case atStart => exact ⟨0, by omega, rfl, rfl, by rw [← part_zero]; exact HROW.out, HBX.out⟩
      case round =>
        obtain ⟨h, hdg, rfl, rfl, hrow2, hbx2⟩ := hrel
        have HROW2 := Lib.hid hrow2
        have HBX2 := Lib.hid hbx2
        clear hrow2 hbx2
        cases gk with
        | zero =>
          have hhk : h = k := by omega
          have HHK := Lib.hid hhk
          have hge : (k : Int) ≤ (h : Int) := by omega
          clear hhk
          go_wp2
          go_roundg g
          case measure => omega
          case rel => exact ⟨i + 1, by omega, by first | rfl | simp, by rw [Nat.mul_succ, ← HKI.out, HHK.out], by rw [← part_full (by omega)]; have := HROW2.out; rw [HHK.out] at this; exact this, HBX2.out⟩
        | succ g2 =>
          have hlt : (h : Int) < (k : Int) := by omega
          have hkd : (h : Int) + (g2 : Int) + 1 = (k : Int) := by omega
          have HKD := Lib.hid hkd
          obtain ⟨t, ht⟩ : ∃ t, t = ki + h := ⟨_, rfl⟩
          obtain ⟨q, hq⟩ : ∃ q, q = t / 8 := ⟨_, rfl⟩
          obtain ⟨r, hr⟩ : ∃ r, r = t % 8 := ⟨_, rfl⟩
          obtain ⟨m, hm⟩ : ∃ m, m = min (g2 + 1) (8 - r) := ⟨_, rfl⟩
          have hq1 : (t : Int) / 8 = (q : Int) := by omega
          have hr1 : (t : Int) % 8 = (r : Int) := by omega
          have hr2 : (r : Int) < 8 := by omega
          have hm1 : min ((k : Int) - (h : Int)) (8 - (r : Int)) = (m : Int) := by omega
          have ht0 : 0 ≤ (t : Int) := by omega
          have ht1 : (t : Int) ≤ 67108864 := by omega
          have htn : ki + h = t := ht.symm
          have htm : (t : Int).tmod 8 = (r : Int) := by rw [Int.tmod_eq_emod_of_nonneg ht0]; exact hr1
          rw [htn]
          clear htn hkd
          have HT := Lib.hid ht; have HQ := Lib.hid hq; have HR := Lib.hid hr; have HM := Lib.hid hm
          clear ht hq hr hm
          obtain ⟨p, hp⟩ : ∃ p, p = N / 2 ^ t % 2 ^ m := ⟨_, rfl⟩
          obtain ⟨mk, hmk⟩ : ∃ mk, mk = 2 ^ m - 1 := ⟨_, rfl⟩
          have hmr : m + r ≤ 8 ∧ 1 ≤ m ∧ h + m ≤ k := by have := HM.out; have := HR.out; have := HKD.out; omega
          obtain ⟨hqp, c, hc256, hcg, hcp, hgr, hpb⟩ := unbits_step HNN.out HL.out HPN.out HKI.out HT.out HQ.out HR.out (show i < n by omega) hmr.2.2 hmr.2.1 hmr.1 hk
          obtain ⟨b0, o0, rfl, hc0⟩ := (H.out.below HBX2.out).get hcg
          have HLB : Hid (∀ w : World, Calls Try.prog 35 #[.int .i64 (m : Int)] w fun e w' => e = .returned (.int .u64 (mk : Int)) ∧ w' = w) := by
            unfold Hid; rw [hmk]; exact fun w => (lowBits_any m w (by omega)).mono fun _ _ h => ⟨h.1, h.2.symm⟩
          have hzc : (c : Int) / 2 ^ r = ((c / 2 ^ r : Nat) : Int) := by push_cast; rfl
          obtain ⟨z, hz⟩ : ∃ z, z = c / 2 ^ r := ⟨_, rfl⟩
          rw [← hz] at hzc hcp
          have hz256 : z < 256 := by rw [hz]; exact Nat.lt_of_le_of_lt (Nat.div_le_self _ _) hc256
          have hwz : IntKind.u64.wrap (z : Int) = (z : Int) := by rw [IntKind.wrap_u64]; omega
          have hand : bits .and .u64 (z : Int) (mk : Int) = (p : Int) := by
            have h1 : 2 ^ m ≤ 2 ^ 8 := Nat.pow_le_pow_right (by decide) (by omega)
            rw [u64_and_nat _ _ (by omega) (by omega), hmk, Nat.and_two_pow_sub_one_eq_mod, hcp, hp]
          have hq0 : 0 ≤ (q : Int) := by omega
          have hq2 : (q : Int) < (pn : Int) := by omega
          have hwq : IntKind.i64.wrap (q : Int) = (q : Int) := IntWalk.i64_in _ (by omega)
          have hwr : IntKind.i64.wrap (r : Int) = (r : Int) := IntWalk.i64_in _ (by omega)
          have hrr : 0 ≤ (r : Int) := by omega
          have hz0 : 0 ≤ (z : Int) := by omega
          rw [← hp] at hgr hpb
          obtain ⟨y, hy⟩ : ∃ y, y = N / 2 ^ ki % 2 ^ (h + m) := ⟨_, rfl⟩
          obtain ⟨x, hx⟩ : ∃ x, x = N / 2 ^ ki % 2 ^ h := ⟨_, rfl⟩
          rw [← hy, ← hx] at hgr
          have hor : bits .or .u64 (x : Int) (IntKind.u64.wrap ((p : Int) * 2 ^ h)) = (y : Int) := by
            have h1 : (p : Int) * 2 ^ h = ((2 ^ h * p : Nat) : Int) := by push_cast; rw [Int.mul_comm]
            have hyl : y < 18446744073709551616 := by rw [hy]; exact mod_lt64 (by omega)
            have hxl : x < 2 ^ h := by rw [hx]; exact Nat.mod_lt _ (two_pos h)
            rw [h1, IntKind.wrap_u64, show ((2 ^ h * p : Nat) : Int) % 18446744073709551616 = ((2 ^ h * p : Nat) : Int) by omega, u64_or_nat _ _ (by omega) hpb, hgr, Nat.or_comm, ← Nat.two_pow_add_eq_or_of_lt hxl p, Nat.add_comm]
          obtain ⟨g0, eg, _, _, ⟨x0, hx1, hx2⟩, hfr, hrow3⟩ := own_set (y := .int .u64 (y : Int)) HROW2.out (show i < n by omega) rfl
          cases eg
          have hcell : wr.cell? ⟨w.heap.size, i, none⟩ = some (.int .u64 (x : Int)) := by
            rw [hx2, ← hx1, List.getElem?_map, part_get (by omega), HKI.out.symm, ← hx]; rfl
          have HROW3 : Hid ((wr.setCell ⟨w.heap.size, i, none⟩ (.int .u64 (y : Int))).ownsRow w.heap.size 52 1 (.slice (some ⟨w.heap.size, 0, none⟩) n n) n ((part k n i (h + m) N).map uV)) := by
            unfold Hid
            rw [show Value.int .u64 (y : Int) = uV (N / 2 ^ (k * i) % 2 ^ (h + m)) by rw [hy, HKI.out]; rfl, ← List.map_set, part_set] at hrow3
            rw [show Value.int .u64 (y : Int) = uV (N / 2 ^ (k * i) % 2 ^ (h + m)) by rw [hy, HKI.out]; rfl]
            exact hrow3
          have HMR := Lib.hid hmr
          clear hgr hpb hy hx hx1 hx2 hrow3 hz hz256 hcp hc256 hcg hp hmk hmr hqp x0
          go_wp2
          refine wp_region_still_lit (by kernel_rfl) (by kernel_rfl) ?_
          repeat still_step
          still_call (HLB.out _)
          repeat still_step
          refine wpStill_nil ?_
          change Exit.then _ _ _ _ wr.drew
          have hfr1 : wr.drew.frozen? ⟨w.heap.size, i, none⟩ = false := hfr
          have hcell1 : wr.drew.cell? ⟨w.heap.size, i, none⟩ = some (.int .u64 (x : Int)) := hcell
          have HROW4 : Hid (((wr.drew.drew).setCell ⟨w.heap.size, i, none⟩ (.int .u64 (y : Int))).ownsRow w.heap.size 52 1 (.slice (some ⟨w.heap.size, 0, none⟩) n n) n ((part k n i (h + m) N).map uV)) := HROW3.out
          have HBX4 : Hid (BW w ((wr.drew.drew).setCell ⟨w.heap.size, i, none⟩ (.int .u64 (y : Int)))) := (((HBX2.out).drew).drew).setCell (Nat.le_refl _) _
          clear hfr hcell HROW3
          generalize wr.drew = wd at HROW4 HBX4 hfr1 hcell1 ⊢
          clear hand htm hwq hwr hq0 hq2 hq1 hr1 hr2 hrr hwz hzc hc0
          go_wp2
          refine wp_region_still_tail 9 (by kernel_rfl) (by kernel_rfl) ?_
          simp only [List.take_succ_cons, List.take_zero, List.drop_succ_cons, List.drop_zero]
          repeat still_step
          try refine wpStill_nil ?_
          change wpList _ _ _ _ _ wd.drew
          have hfr2 : wd.drew.frozen? ⟨w.heap.size, i, none⟩ = false := hfr1
          have hcell2 : wd.drew.cell? ⟨w.heap.size, i, none⟩ = some (.int .u64 (x : Int)) := hcell1
          clear hfr1 hcell1
          generalize wd.drew = we at HROW4 HBX4 hfr2 hcell2 ⊢
          go_wp2
          go_roundg (g2 + 1 - m)
          case measure => have := HMR.out; omega
          case rel => exact ⟨h + m, by have := HMR.out; have := HKD.out; omega, by have := HMR.out; go_num, by rw [HT.out]; go_num, HROW4.out, HBX4.out⟩
end Go.Proofs.Ytdoliejihinpkaa
