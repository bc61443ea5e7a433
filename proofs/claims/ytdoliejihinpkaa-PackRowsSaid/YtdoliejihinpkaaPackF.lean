/- pack.Bits: the walk. -/
import Derived.Test.YtdoliejihinpkaaPackE
import Derived.StillTailTactics
namespace Go.Proofs.Ytdoliejihinpkaa
open Go.RowKit Go.Maps

theorem Src.get {w : World} {ao : Option Addr} {n cap : Nat} {xs : List Value} (h : Src w (.slice ao n cap) xs) {i : Nat} {u : Value} (hu : xs[i]? = some u) : ∃ b off, ao = some ⟨b, off, none⟩ ∧ w.cell? ⟨b, off + i, none⟩ = some u := by
  rcases h with ⟨ao1, cp1, hv, e1, _, _⟩ | ⟨b1, o1, c1, hv, a1, a2, a3, a4⟩
  · subst e1; simp at hu
  · injection hv with e1
    exact ⟨b1, o1, e1, a4 i u hu⟩

theorem bits_done {W : World} {B k i x d pn : Nat} {l : List Nat} {v : Value} (hx : l[i]? = some x) (h : W.ownsRow B 5 1 v pn ((bytesOf pn (rowN k (l.take i) + 2 ^ (k * i) * (x % 2 ^ d))).map bV)) (he : x % 2 ^ d = x % 2 ^ k) : W.ownsRow B 5 1 v pn ((bytesOf pn (rowN k (l.take (i + 1)))).map bV) := by
  obtain ⟨hil, e⟩ := List.getElem?_eq_some_iff.1 hx
  rw [List.take_succ_eq_append_getElem hil, e, rowN_snoc, List.length_take, Nat.min_eq_left (by omega), ← he]
  exact h
theorem small_mod {x d k : Nat} (h : x / 2 ^ d = 0) (hd : d ≤ k) : x % 2 ^ d = x % 2 ^ k := by
  have h1 := Nat.div_add_mod x (2 ^ d)
  have h2 := Nat.mod_lt x (two_pos d)
  rw [h] at h1
  have hxs : x < 2 ^ d := by omega
  have hxk : x < 2 ^ k := Nat.lt_of_lt_of_le hxs (Nat.pow_le_pow_right (by decide) hd)
  rw [Nat.mod_eq_of_lt hxs, Nat.mod_eq_of_lt hxk]

/-- the place of the next piece, and what stands there -/
theorem bits_step {W : World} {B k i x d m r q t n p ki pn gb cp : Nat} {l : List Nat} (hx : l[i]? = some x) (h : W.ownsRow B 5 1 (.slice (some ⟨gb, 0, none⟩) pn cp) pn ((bytesOf pn (rowN k (l.take i) + 2 ^ (k * i) * (x % 2 ^ d))).map bV))
    (hki : ki = k * i) (ht : t = ki + d) (hq : q = t / 8) (hr : r = t % 8) (hd : d + m ≤ k) (hm1 : 1 ≤ m) (hm : m + r ≤ 8) (hpn : pn = packed l.length k) (hn : n = x / 2 ^ d) (hp : p = n % 2 ^ m) :
    q < pn ∧ p < 256 ∧ ∃ c, c < 2 ^ r ∧ c + 2 ^ r * p < 256 ∧ W.cell? ⟨gb, q, none⟩ = some (.int .u8 (c : Int)) ∧ W.frozen? ⟨gb, q, none⟩ = false ∧
      (W.setCell ⟨gb, q, none⟩ (.int .u8 ((c + 2 ^ r * p : Nat) : Int))).ownsRow B 5 1 (.slice (some ⟨gb, 0, none⟩) pn cp) pn ((bytesOf pn (rowN k (l.take i) + 2 ^ (k * i) * (x % 2 ^ (d + m)))).map bV) := by
  have hil : i < l.length := (List.getElem?_eq_some_iff.1 hx).1
  have hqp : q < pn := by
    have h1 : k * (i + 1) ≤ k * l.length := Nat.mul_le_mul_left _ hil
    rw [Nat.mul_succ, ← hki] at h1
    rw [hpn]; unfold packed
    rw [Nat.mul_comm l.length]; omega
  have hp256 : p < 256 := by
    rw [hp]
    exact Nat.lt_of_lt_of_le (Nat.mod_lt _ (two_pos m)) (Nat.le_trans (Nat.pow_le_pow_right (by decide) (show m ≤ 8 by omega)) (by decide))
  have hg := bytesOf_get pn (rowN k (l.take i) + 2 ^ (k * i) * (x % 2 ^ d)) q hqp
  subst hki; subst ht; subst hq
  obtain ⟨c1, c2, c3⟩ := piece_into hx hd hm hr.symm hqp hg (Nat.mod_lt _ (by decide))
  rw [← hn, ← hp] at c2 c3
  generalize (rowN k (l.take i) + 2 ^ (k * i) * (x % 2 ^ d)) / 256 ^ ((k * i + d) / 8) % 256 = c at *
  refine ⟨hqp, hp256, c, c1, c2, ?_⟩
  obtain ⟨g, e1, _, _, ⟨y, hy1, hy2⟩, hf, ho⟩ := own_set (y := .int .u8 ((c + 2 ^ r * p : Nat) : Int)) h hqp rfl
  cases e1
  refine ⟨?_, hf, ?_⟩
  · rw [hy2]
    rw [List.getElem?_map, hg] at hy1
    injection hy1 with hy1
    rw [← hy1, byte_small (by omega)]
  · rw [← byte_small c2, ← List.map_set, ← c3] at ho
    rw [← byte_small c2]; exact ho

set_option maxRecDepth 100000 in
set_option maxHeartbeats 2000000 in
theorem bits_any {w : World} {v : Value} {l : List Nat} (h : Src w v (l.map uV)) (hl : U64s l) (hlen : l.length ≤ 1048576) (k : Nat) (hk : k ≤ 64) : Calls Try.prog 12 #[v, .int .i64 (k : Int)] w (BytesPost w (bitsP l k)) := by
  have HW := Lib.hid (isWidth_any (k : Int) w (by omega) (by omega))
  have HD := Lib.hid (show decide (0 ≤ (k : Int) ∧ (k : Int) ≤ 64) = true from decide_eq_true (by omega))
  have HP := Lib.hid (packedBytes_any l.length k w (by omega) hk)
  have HPL := Lib.hid (packed_le (k := l.length) hk)
  obtain ⟨ao, cap, rfl⟩ := h.len
  have H := Lib.hid h
  have HL := Lib.hid hl
  have hle : (l.length : Int) ≤ 1048576 := by omega
  rw [List.length_map]
  have hpk : (packed l.length k : Int) ≤ 8388608 := by have := HPL.out; omega
  obtain ⟨pn, hpn⟩ : ∃ pn, pn = packed l.length k := ⟨_, rfl⟩
  rw [← hpn] at hpk HP
  have HPN := Lib.hid hpn
  obtain ⟨w1, hrun, hown, hbw⟩ := make_zero (t := 23) (z := .int .u8 0) (bytes := 1) Try.underlying23 info_u8 rfl pn (by omega) (by omega) w
  have HOWN := Lib.hid hown
  have HBW := Lib.hid hbw
  clear h hl hlen hpn hown hbw
  go_enter Try.func12, Try.ntmps12
  go_wp2
  go_step3
  go_wp2_with (first | (go_at_call 33; refine HW.out.mono ?_; rintro e w' ⟨rfl, rfl⟩; rw [HD.out]) | (go_at_call 34; refine HP.out.mono ?_; rintro e w' ⟨rfl, rfl⟩))
  go_step3
  go_wp2
  go_loopg [6, 21] l.length (fun g s6 s21 wx => ∃ i : Nat, i + g = l.length ∧ s21 = .int .i64 i ∧ s6 = .int .i64 ((k * i : Nat) : Int) ∧ wx.ownsRow w.heap.size 5 1 (.slice (some ⟨w.heap.size, 0, none⟩) pn pn) pn ((bytesOf pn (rowN k (l.take i))).map bV) ∧ BW w wx)
  case atStart => exact ⟨0, by omega, rfl, rfl, by rw [List.take_zero]; exact (zeros_bytes pn) ▸ HOWN.out, HBW.out⟩
  case round =>
    obtain ⟨i, hig, rfl, rfl, hrow, hbx⟩ := hrel
    have HROW := Lib.hid hrow
    have HBX := Lib.hid hbx
    clear hrow hbx
    cases gk with
    | zero =>
      have hge : (l.length : Int) ≤ (i : Int) := by omega
      have HI : Hid (l.take i = l) := by unfold Hid; exact List.take_of_length_le (by omega)
      go_wp2
      try rw [Exit.noGoto_ret]
      go_ret
      refine ⟨_, rfl, ?_, HBX.out⟩
      have h1 := HROW.out
      rw [HI.out] at h1
      unfold bitsP
      rw [bytesOf_len, ← HPN.out]
      exact h1
    | succ g =>
      have hi : (i : Int) < (l.length : Int) := by omega
      have hi0 : (0 : Int) ≤ (i : Int) := by omega
      obtain ⟨x, hx⟩ : ∃ x, l[i]? = some x := ⟨_, List.getElem?_eq_getElem (by omega)⟩
      have hx64 : x < 18446744073709551616 := HL.out x (List.mem_of_getElem? hx)
      obtain ⟨b0, o0, rfl, hc0⟩ := (H.out.below HBX.out).get (i := i) (u := .int .u64 (x : Int)) (by rw [List.getElem?_map, hx]; rfl)
      obtain ⟨ki, hki⟩ : ∃ ki, ki = k * i := ⟨_, rfl⟩
      have hkb : (ki : Int) + (k : Int) ≤ 67108864 := by
        have h1 : k * (i + 1) ≤ 64 * 1048576 := Nat.mul_le_mul hk (by omega)
        rw [Nat.mul_succ, ← hki] at h1
        omega
      have HKI := Lib.hid hki
      have HX := Lib.hid hx
      have HX64 := Lib.hid hx64
      rw [← hki]
      clear hx hx64 hki
      go_wp2
      obtain ⟨wo, rfl⟩ : ∃ wo : World, wo = wr := ⟨_, rfl⟩
      go_loopg [6, 8, 9] k (fun g2 s6 s8 s9 wy => ∃ d : Nat, d + g2 = k ∧ s9 = .int .i64 (g2 : Int) ∧ s8 = .int .u64 ((x / 2 ^ d : Nat) : Int) ∧ s6 = .int .i64 ((ki + d : Nat) : Int) ∧ wy.ownsRow w.heap.size 5 1 (.slice (some ⟨w.heap.size, 0, none⟩) pn pn) pn ((bytesOf pn (rowN k (l.take i) + 2 ^ (k * i) * (x % 2 ^ d))).map bV) ∧ BW w wy)
      case atStart => exact ⟨0, by omega, rfl, by simp, rfl, by simpa [Nat.mod_one] using HROW.out, HBX.out⟩
      case round =>
        obtain ⟨d, hdg, rfl, rfl, rfl, hrow2, hbx2⟩ := hrel
        have HROW2 := Lib.hid hrow2
        have HBX2 := Lib.hid hbx2
        clear hrow2 hbx2
        cases gk with
        | zero =>
          have hdk : k = d := by omega
          have HDK := Lib.hid hdk
          go_wp2
          go_roundg g
          case measure => omega
          case rel => exact ⟨i + 1, by omega, by first | rfl | simp, by rw [Nat.mul_succ, ← HKI.out, HDK.out], bits_done HX.out HROW2.out (by rw [HDK.out]), HBX2.out⟩
        | succ g2 =>
          have hg2 : (0 : Int) < ((g2 + 1 : Nat) : Int) := by omega
          have hkd : (d : Int) + (g2 : Int) + 1 = (k : Int) := by omega
          have HKD := Lib.hid hkd
          have hkb2 : (ki : Int) + (d : Int) + (g2 : Int) + 1 ≤ 67108864 := by omega
          have hdk : d ≤ k := by omega
          clear hkd
          by_cases hz : x / 2 ^ d = 0
          · have HZ := Lib.hid hz
            rw [hz]
            clear hz
            go_wp2
            go_roundg g
            case measure => omega
            case rel => exact ⟨i + 1, by omega, by first | rfl | simp, by rw [Nat.mul_succ, ← HKI.out]; have := HKD.out; go_num, bits_done HX.out HROW2.out (small_mod HZ.out hdk), HBX2.out⟩
          · obtain ⟨n, hn⟩ : ∃ n, n = x / 2 ^ d := ⟨_, rfl⟩
            have hn64 : n < 18446744073709551616 := by rw [hn]; exact Nat.lt_of_le_of_lt (Nat.div_le_self _ _) HX64.out
            rw [← hn] at hz ⊢
            have hnz : ((n : Int) == 0) = false := by simpa using hz
            have HN := Lib.hid hn
            clear hn hz
            obtain ⟨t, ht⟩ : ∃ t, t = ki + d := ⟨_, rfl⟩
            obtain ⟨q, hq⟩ : ∃ q, q = t / 8 := ⟨_, rfl⟩
            obtain ⟨r, hr⟩ : ∃ r, r = t % 8 := ⟨_, rfl⟩
            obtain ⟨m, hm⟩ : ∃ m, m = min (g2 + 1) (8 - r) := ⟨_, rfl⟩
            have hti : (ki : Int) + (d : Int) = (t : Int) := by omega
            have hq1 : (t : Int) / 8 = (q : Int) := by omega
            have hr1 : (t : Int) % 8 = (r : Int) := by omega
            have hr2 : (r : Int) < 8 := by omega
            have hm1 : min ((g2 : Int) + 1) (8 - (r : Int)) = (m : Int) := by omega
            have ht0 : 0 ≤ (t : Int) := by omega
            have ht1 : (t : Int) ≤ 67108864 := by omega
            have htn : ki + d = t := ht.symm
            rw [htn]
            clear hti htn
            have HT := Lib.hid ht; have HQ := Lib.hid hq; have HR := Lib.hid hr; have HM := Lib.hid hm
            clear ht hq hr hm
            obtain ⟨p, hp⟩ : ∃ p, p = n % 2 ^ m := ⟨_, rfl⟩
            obtain ⟨mk, hmk⟩ : ∃ mk, mk = 2 ^ m - 1 := ⟨_, rfl⟩
            have hmr : m + r ≤ 8 ∧ 1 ≤ m ∧ d + m ≤ k := by have := HM.out; have := HR.out; have := HKD.out; omega
            obtain ⟨hqp, hp256, c, hc1, hc2, hcell, hfr, hrow3⟩ := bits_step HX.out HROW2.out HKI.out HT.out HQ.out HR.out hmr.2.2 hmr.2.1 hmr.1 HPN.out HN.out hp
            have HLB : Hid (∀ w : World, Calls Try.prog 35 #[.int .i64 (m : Int)] w fun e w' => e = .returned (.int .u64 (mk : Int)) ∧ w' = w) := by
              unfold Hid; rw [hmk]; exact fun w => (lowBits_any m w (by omega)).mono fun _ _ h => ⟨h.1, h.2.symm⟩
            have hand : bits .and .u64 (n : Int) (mk : Int) = (p : Int) := by
              have h1 : 2 ^ m ≤ 2 ^ 8 := Nat.pow_le_pow_right (by decide) (by omega)
              rw [u64_and_nat _ _ hn64 (by omega), hmk, Nat.and_two_pow_sub_one_eq_mod, hp]
            have hp0 : 0 ≤ (p : Int) := by omega
            have hp1 : (p : Int) ≤ 255 := by omega
            have hq0 : 0 ≤ (q : Int) := by omega
            have hq2 : (q : Int) < (pn : Int) := by omega
            have hwq : IntKind.i64.wrap (q : Int) = (q : Int) := IntWalk.i64_in _ (by omega)
            have htm : (t : Int).tmod 8 = (r : Int) := by rw [Int.tmod_eq_emod_of_nonneg ht0]; exact hr1
            have hwp : IntKind.u8.wrap (p : Int) = (p : Int) := by rw [IntKind.wrap_u8']; omega
            have hr0 : 0 ≤ (r : Int) := by omega
            have hwr : IntKind.i64.wrap (r : Int) = (r : Int) := IntWalk.i64_in _ (by omega)
            obtain ⟨y, hy⟩ : ∃ y, y = c + 2 ^ r * p := ⟨_, rfl⟩
            rw [← hy] at hc2 hrow3
            have hor : bits .or .u8 (c : Int) (IntKind.u8.wrap ((p : Int) * 2 ^ r)) = (y : Int) := by
              have h0 : 2 ^ r * p < 256 := by omega
              have h1 : (p : Int) * 2 ^ r = ((2 ^ r * p : Nat) : Int) := by push_cast; rw [Int.mul_comm]
              rw [h1, IntKind.wrap_u8', show ((2 ^ r * p : Nat) : Int) % 256 = ((2 ^ r * p : Nat) : Int) by omega, u8_or_nat _ _ (by omega) h0, hy, Nat.or_comm, ← Nat.two_pow_add_eq_or_of_lt hc1 p, Nat.add_comm]
            have HY := Lib.hid hy
            clear hy
            have HP' := Lib.hid hp
            have HMK := Lib.hid hmk
            have HC := Lib.hid (And.intro hc1 hc2)
            have HROW3 := Lib.hid hrow3
            clear hp hmk hmr hc1 hc2 hrow3 hp256 hqp
            go_wp2
            refine wp_region_still_tail 15 (by kernel_rfl) (by kernel_rfl) ?_
            simp only [List.take_succ_cons, List.take_zero, List.drop_succ_cons, List.drop_zero]
            still_step
            still_step
            still_step
            still_step
            still_step
            still_step
            still_step
            still_call (HLB.out _)
            still_step
            still_step
            still_step
            still_step
            still_step
            still_step
            repeat still_step
            try refine wpStill_nil ?_
            change wpList _ _ _ _ _ wr.drew
            have HROW4 : Hid (((wr.drew).setCell ⟨w.heap.size, q, none⟩ (.int .u8 (y : Int))).ownsRow w.heap.size 5 1 (.slice (some ⟨w.heap.size, 0, none⟩) pn pn) pn ((bytesOf pn (rowN k (l.take i) + 2 ^ (k * i) * (x % 2 ^ (d + m)))).map bV)) := HROW3.out
            have hcell2 : wr.drew.cell? ⟨w.heap.size, q, none⟩ = some (.int .u8 (c : Int)) := hcell
            have hfr2 : wr.drew.frozen? ⟨w.heap.size, q, none⟩ = false := hfr
            have HBX4 : Hid (BW w ((wr.drew).setCell ⟨w.heap.size, q, none⟩ (.int .u8 (y : Int)))) := ((HBX2.out).drew).setCell (Nat.le_refl _) _
            have HN64 := Lib.hid hn64
            clear hn64
            generalize wr.drew = wd at *
            have hn0 : 0 ≤ (n : Int) := by omega
            clear hand hor htm hwp hwq hwr hp0 hp1 hq0 hq2 hq1 hr1 hr2 hr0 hnz hpk hle
            clear hcell hfr
            have HMR : Hid (1 ≤ m ∧ m ≤ g2 + 1) := by unfold Hid; have := HM.out; have := HR.out; omega
            go_upto_region 14 with (fail)
            go_upto_region 15 with (fail)
            go_upto_region 16 with (fail)
            go_wp2
            go_roundg (g2 + 1 - m)
            case measure => have := HMR.out; omega
            case rel => exact ⟨d + m, by have := HMR.out; omega, by have := HMR.out; go_num, by rw [HN.out, Nat.pow_add, ← Nat.div_div_eq_div_mul]; push_cast; rfl, by rw [HT.out]; go_num, HROW4.out, HBX4.out⟩
end Go.Proofs.Ytdoliejihinpkaa
