/- The document's Width, bit, Bits and Unbits; appends to rows of whole numbers. -/
import Derived.Test.YtdoliejihinpkaaPackS
namespace Go.Proofs.Ytdoliejihinpkaa
open Go.RowKit Go.Maps

set_option maxHeartbeats 2000000 in
set_option maxRecDepth 100000 in
theorem refWidth_any {w : World} {v : Value} {l : List Nat} (h : Src w v (l.map uV)) (hl : U64s l) (hlen : l.length ≤ 1048576) : Calls Try.prog 17 #[v] w (WidPost w l) := by
  obtain ⟨ao, cap, rfl⟩ := h.len
  rw [List.length_map] at h ⊢
  have H := Lib.hid h
  have HL := Lib.hid hl
  obtain ⟨n, hn⟩ : ∃ n, n = l.length := ⟨_, rfl⟩
  rw [← hn] at H hlen ⊢
  have HN := Lib.hid hn
  have hle : (n : Int) ≤ 1048576 := by omega
  clear h hl hn hlen
  go_enter Try.func17, Try.ntmps17
  go_wp2
  go_loopg [3, 4] n (fun g s3 s4 wx => ∃ i k : Nat, i + g = n ∧ s4 = .int .i64 i ∧ s3 = .int .i64 (k : Int) ∧ k = widP (l.take i) ∧ w = wx)
  case atStart => exact ⟨0, 0, by omega, rfl, rfl, by rw [List.take_zero]; rfl, rfl⟩
  case round =>
    obtain ⟨i, k, hig, rfl, rfl, hk, rfl⟩ := hrel
    have hk64 : k ≤ 64 := by rw [hk]; exact widP_64 _
    have HK := Lib.hid hk
    clear hk
    cases gk with
    | zero =>
      have hge : (n : Int) ≤ (i : Int) := by omega
      have hin : i = n := by omega
      have HFIN : Hid (k = widP l) := by unfold Hid; rw [HK.out, List.take_of_length_le (by have := HN.out; omega)]
      clear hin
      go_wp2
      go_ret
      exact ⟨ret_int (by rw [HFIN.out]), 0, rfl⟩
    | succ g =>
      have hi : (i : Int) < (n : Int) := by omega
      have hi0 : (0 : Int) ≤ (i : Int) := by omega
      have hil : i < l.length := by have := HN.out; omega
      obtain ⟨x, hx⟩ : ∃ x, x = l[i] := ⟨_, rfl⟩
      have hxg : l[i]? = some x := by rw [hx]; exact List.getElem?_eq_getElem hil
      have hx64 : x < 18446744073709551616 := HL.out x (List.mem_of_getElem? hxg)
      obtain ⟨b0, o0, rfl, hc0⟩ := H.out.get (i := i) (u := .int .u64 (x : Int)) (by rw [List.getElem?_map, hxg]; rfl)
      have HST : Hid (widP (l.take (i + 1)) = max k (wid x)) := by unfold Hid; rw [List.take_succ_eq_append_getElem hil, ← hx, widP_snoc, ← HK.out]
      have HX64 := Lib.hid hx64
      clear hx hxg hx64
      go_wp2
      go_loopg [3] 64 (fun g2 s3 wy => ∃ j : Nat, s3 = .int .i64 (j : Int) ∧ j + g2 ≤ 64 + 64 ∧ k ≤ j ∧ j ≤ max k (wid x) ∧ j + g2 = k + 64 ∧ w = wy)
      case atStart => exact ⟨k, rfl, by omega, Nat.le_refl _, by omega, rfl, rfl⟩
      case round =>
        obtain ⟨j, rfl, _, hkj, hjm, hjg, rfl⟩ := hrel
        have hwx : wid x ≤ 64 := widN_64 64 x
        have hj64 : (j : Int) ≤ 64 := by omega
        have hj0 : 0 ≤ (j : Int) := by omega
        obtain ⟨z, hz⟩ : ∃ z, z = x / 2 ^ j := ⟨_, rfl⟩
        have hzi : (x : Int) / 2 ^ j = (z : Int) := by rw [hz]; push_cast; rfl
        have hx0 : 0 ≤ (x : Int) := by omega
        have HZ : Hid (z = 0 ↔ wid x ≤ j) := by
          unfold Hid
          rw [wid_le HX64.out, hz, Nat.div_eq_zero_iff]
          have := two_pos j
          omega
        have HJ := Lib.hid (And.intro hkj (And.intro hjm hjg))
        clear hz hkj hjm hjg
        by_cases hlt : j < 64
        · have hd : decide (j < 64) = true := decide_eq_true hlt
          have hd' : decide ((j : Int) < 64) = true := decide_eq_true (by omega)
          by_cases hz0 : z = 0
          · have hn0 : ((z : Int) != 0) = false := by simp [hz0]
            have HW : Hid (wid x ≤ j) := HZ.out.1 hz0
            clear hz0 hlt
            go_wp2
            go_roundg g
            case measure => omega
            case rel => exact ⟨i + 1, j, by omega, by first | rfl | simp, rfl, by rw [HST.out]; have := HJ.out; have := HW.out; omega, rfl⟩
          · have hn0 : ((z : Int) != 0) = true := by simp [hz0]
            have HW : Hid (¬ wid x ≤ j) := fun h => hz0 (HZ.out.2 h)
            clear hz0
            obtain ⟨g3, rfl⟩ : ∃ g3, gk = g3 + 1 := ⟨gk - 1, by have := HJ.out; have := HW.out; have : k ≤ 64 := hk64; omega⟩
            clear hlt
            go_wp2
            go_roundg g3
            case measure => omega
            case rel => exact ⟨j + 1, by first | rfl | simp, by have := HJ.out; omega, by have := HJ.out; omega, by have := HJ.out; have := HW.out; omega, by have := HJ.out; omega, rfl⟩
        · have hd : decide (j < 64) = false := decide_eq_false hlt
          have hd' : decide ((j : Int) < 64) = false := decide_eq_false (by omega)
          have HW : Hid (wid x ≤ j) := by unfold Hid; omega
          clear hlt
          go_wp2
          go_roundg g
          case measure => omega
          case rel => exact ⟨i + 1, j, by omega, by first | rfl | simp, rfl, by rw [HST.out]; have := HJ.out; have := HW.out; omega, rfl⟩

/-- a bit of bytes -/
def BitPost (w : World) (N t : Nat) (e : Ending) (w' : World) : Prop := e = .returned (.int .u64 ((N / 2 ^ t % 2 : Nat) : Int)) ∧ w' = w
set_option maxHeartbeats 1000000 in
set_option maxRecDepth 100000 in
theorem refBit_any {w : World} {ao : Option Addr} {bn cap : Nat} {bs : List UInt8} (h : Src w (.slice ao bn cap) (bs.map bV)) (hbn : bn = bs.length) (t : Nat) (ht : t < 8 * bn) (ht2 : t ≤ 1125899906842624) : Calls Try.prog 37 #[.slice ao bn cap, .int .i64 (t : Int)] w (BitPost w (n256 bs) t) := by
  obtain ⟨q, hq⟩ : ∃ q, q = t / 8 := ⟨_, rfl⟩
  obtain ⟨r, hr⟩ : ∃ r, r = t % 8 := ⟨_, rfl⟩
  have hql : q < bs.length := by omega
  have hp := n256_piece (b := bs) (at' := t) (m := 1) (by omega) (by omega)
  obtain ⟨c, hc⟩ : ∃ c, c = (bs[t / 8]).toNat := ⟨_, rfl⟩
  have hc256 : c < 256 := by rw [hc]; exact UInt8.toNat_lt _
  rw [← hc, ← hr] at hp
  obtain ⟨b0, o0, rfl, hc0⟩ := h.get (i := q) (u := .int .u8 (c : Int)) (by rw [List.getElem?_map, List.getElem?_eq_getElem hql, hc]; subst hq; rfl)
  obtain ⟨z, hz⟩ : ∃ z, z = c / 2 ^ r := ⟨_, rfl⟩
  have hzi : (c : Int) / 2 ^ r = (z : Int) := by rw [hz]; push_cast; rfl
  have hz256 : z < 256 := by rw [hz]; exact Nat.lt_of_le_of_lt (Nat.div_le_self _ _) hc256
  obtain ⟨y, hy⟩ : ∃ y, y = z % 2 := ⟨_, rfl⟩
  have hand : bits .and .u64 (z : Int) 1 = (y : Int) := by rw [show (1 : Int) = ((1 : Nat) : Int) from rfl, u64_and_nat _ _ (by omega) (by omega), nat_mask1, hy]
  have HY : Hid (y = n256 bs / 2 ^ t % 2) := by unfold Hid; rw [hy, hz]; simpa using hp
  have hq1 : (t : Int) / 8 = (q : Int) := by omega
  have hr1 : (t : Int) % 8 = (r : Int) := by omega
  have ht0 : 0 ≤ (t : Int) := by omega
  have htm : (t : Int).tmod 8 = (r : Int) := by rw [Int.tmod_eq_emod_of_nonneg ht0]; exact hr1
  have hr0 : 0 ≤ (r : Int) := by omega
  have hr8 : (r : Int) < 8 := by omega
  have hq0 : 0 ≤ (q : Int) := by omega
  have hqb : (q : Int) < (bn : Int) := by omega
  have hti : (t : Int) ≤ 1125899906842624 := by omega
  have hwq : IntKind.i64.wrap (q : Int) = (q : Int) := IntWalk.i64_in _ (by omega)
  have hwr : IntKind.i64.wrap (r : Int) = (r : Int) := IntWalk.i64_in _ (by omega)
  have hwr2 : IntKind.u64.wrap (r : Int) = (r : Int) := by rw [IntKind.wrap_u64]; omega
  have hwz : IntKind.u64.wrap (z : Int) = (z : Int) := by rw [IntKind.wrap_u64]; omega
  have hz0 : 0 ≤ (z : Int) := by omega
  clear h hbn ht ht2 hq hr hql hp hc hc256 hz hz256 hy
  go_enter Try.func37, Try.ntmps37
  go_wp2
  go_ret
  exact ⟨ret_int (by rw [HY.out]), rfl⟩

theorem bytesOf_snoc : ∀ k N : Nat, bytesOf (k + 1) N = bytesOf k N ++ [UInt8.ofNat (N / 256 ^ k % 256)]
  | 0, N => by simp [bytesOf]
  | k + 1, N => by
    show UInt8.ofNat (N % 256) :: bytesOf (k + 1) (N / 256) = (UInt8.ofNat (N % 256) :: bytesOf k (N / 256)) ++ _
    rw [bytesOf_snoc k (N / 256), List.cons_append, Nat.div_div_eq_div_mul, Nat.pow_succ, Nat.mul_comm 256]
theorem bytesOf_more {k N : Nat} (h : N < 256 ^ k) : bytesOf (k + 1) N = bytesOf k N ++ [0] := by
  rw [bytesOf_snoc, Nat.div_eq_of_lt h]; rfl
/-- the number that so many bits of a row are -/
def upN2 (k : Nat) (l : List Nat) (i d x : Nat) : Nat := rowN k (l.take i) + 2 ^ (k * i) * (x % 2 ^ d)
theorem upN2_lt {k i d x : Nat} {l : List Nat} (hi : i ≤ l.length) : upN2 k l i d x < 2 ^ (k * i + d) := by
  unfold upN2
  have h1 := rowN_lt k (l.take i)
  rw [List.length_take, Nat.min_eq_left hi] at h1
  have h2 : 2 ^ (k * i) * (x % 2 ^ d + 1) ≤ 2 ^ (k * i) * 2 ^ d := Nat.mul_le_mul_left _ (Nat.mod_lt _ (two_pos d))
  rw [Nat.mul_add, Nat.mul_one] at h2
  rw [Nat.pow_add]; omega
theorem upN2_step (k i d x : Nat) (l : List Nat) : upN2 k l i (d + 1) x = upN2 k l i d x + 2 ^ (k * i + d) * (x / 2 ^ d % 2) := by
  unfold upN2
  rw [Nat.pow_succ, Nat.mod_mul, Nat.pow_add, Nat.mul_add, Nat.mul_assoc, Nat.add_assoc]
theorem upN2_next {k i x : Nat} {l : List Nat} (hx : l[i]? = some x) (y : Nat) : upN2 k l i k x = upN2 k l (i + 1) 0 y := by
  obtain ⟨hil, e⟩ := List.getElem?_eq_some_iff.1 hx
  unfold upN2
  rw [List.take_succ_eq_append_getElem hil, e, rowN_snoc, List.length_take, Nat.min_eq_left (by omega)]
  simp [Nat.mod_one]
theorem upN2_any (k i x y : Nat) (l : List Nat) : upN2 k l i 0 x = upN2 k l i 0 y := by unfold upN2; simp [Nat.mod_one]

theorem refBits_none {w : World} {v : Value} {n : Int} (hn : ¬ (0 ≤ n ∧ n ≤ 64)) : Calls Try.prog 13 #[v, .int .i64 n] w fun e w' => e = .returned (.slice none 0 0) ∧ w = w' := by
  by_cases h0 : n < 0
  · have hd : decide (n < 0) = true := decide_eq_true h0
    clear hn h0
    go_enter Try.func13, Try.ntmps13
    go_wp2
    go_ret
    exact ⟨rfl, rfl⟩
  · have hd : decide (n < 0) = false := decide_eq_false h0
    have hd2 : decide (64 < n) = true := decide_eq_true (by omega)
    clear hn h0
    go_enter Try.func13, Try.ntmps13
    go_wp2
    go_ret
    exact ⟨rfl, rfl⟩

/-- a bit is set where none was -/
theorem bit_set {W : World} {B : Nat} {e : TypeId} {nb N t q r : Nat} (he : e = 5) {v : Value} (h : W.ownsRow B e 1 v nb ((bytesOf nb N).map bV)) (hN : N < 2 ^ t) (hq : q = t / 8) (hr : r = t % 8) (hqn : q < nb) :
    ∃ gb cp c : Nat, v = .slice (some ⟨gb, 0, none⟩) nb cp ∧ B ≤ gb ∧ c < 2 ^ r ∧ c + 2 ^ r < 256 ∧ W.cell? ⟨gb, q, none⟩ = some (.int .u8 (c : Int)) ∧ W.frozen? ⟨gb, q, none⟩ = false ∧ (W.setCell ⟨gb, q, none⟩ (.int .u8 ((c + 2 ^ r : Nat) : Int))).ownsRow B e 1 (.slice (some ⟨gb, 0, none⟩) nb cp) nb ((bytesOf nb (N + 2 ^ t)).map bV) := by
  subst hq; subst hr
  have hform : ∃ gb cp, v = .slice (some ⟨gb, 0, none⟩) nb cp := by
    obtain ⟨_, h2 | ⟨g, cap, cur, hv', _⟩⟩ := h
    · exact absurd h2.2 (by omega)
    · exact ⟨_, _, hv'⟩
  obtain ⟨gb, cp, rfl⟩ := hform
  obtain ⟨h1, h2⟩ := bytesOf_add (k := nb) (N := N) (p := 1) (at' := t) (m := 1) hN (by decide) hqn (by omega)
  have hg := bytesOf_get nb N (t / 8) hqn
  have hr8 : 2 ^ (t % 8) ≤ 2 ^ 7 := Nat.pow_le_pow_right (by decide) (by omega)
  rw [Nat.mod_eq_of_lt (Nat.lt_of_lt_of_le h1 (Nat.le_trans hr8 (by decide)))] at hg
  rw [Nat.mul_one, Nat.mul_one] at h2
  generalize N / 256 ^ (t / 8) = c at *
  have hs : c + 2 ^ (t % 8) < 256 := by omega
  obtain ⟨g, e1, hB, _, ⟨y, hy1, hy2⟩, hf, ho⟩ := own_set (y := .int .u8 ((c + 2 ^ (t % 8) : Nat) : Int)) h hqn rfl
  cases e1
  refine ⟨_, _, c, rfl, hB, h1, hs, ?_, hf, ?_⟩
  · rw [hy2]
    rw [List.getElem?_map, hg] at hy1
    injection hy1 with hy1
    rw [← hy1, byte_small (by omega)]
  · rw [← byte_small hs, ← List.map_set, ← h2] at ho
    rw [← byte_small hs]; exact ho

set_option maxHeartbeats 4000000 in
set_option maxRecDepth 100000 in
theorem refBits_any {w : World} {v : Value} {l : List Nat} (h : Src w v (l.map uV)) (hl : U64s l) (hlen : l.length ≤ 1048576) (k : Nat) (hk : k ≤ 64) : Calls Try.prog 13 #[v, .int .i64 (k : Int)] w (BytesPost w (bitsP l k)) := by
  obtain ⟨ao, cap, rfl⟩ := h.len
  rw [List.length_map] at h ⊢
  have H := Lib.hid h
  have HL := Lib.hid hl
  obtain ⟨n, hn⟩ : ∃ n, n = l.length := ⟨_, rfl⟩
  rw [← hn] at H hlen ⊢
  have HN := Lib.hid hn
  have hle : (n : Int) ≤ 1048576 := by omega
  have hk1 : decide ((k : Int) < 0) = false := decide_eq_false (by omega)
  have hk2 : decide ((64 : Int) < (k : Int)) = false := decide_eq_false (by omega)
  have hk3 : decide (64 < k) = false := decide_eq_false (by omega)
  clear h hl hn
  go_enter Try.func13, Try.ntmps13
  go_wp2
  go_loopg [5, 6, 7] n (fun g s5 s6 s7 wx => ∃ i nb : Nat, i + g = n ∧ s7 = .int .i64 i ∧ s6 = .int .i64 ((k * i : Nat) : Int) ∧ nb = (k * i + 7) / 8 ∧ wx.ownsRow w.heap.size 5 1 s5 nb ((bytesOf nb (upN2 k l i 0 0)).map bV) ∧ BW w wx)
  case atStart => exact ⟨0, 0, by omega, rfl, rfl, by simp, World.ownsRow_nil _ _ _ _, BW.refl w⟩
  case round =>
    obtain ⟨i, nb, hig, rfl, rfl, hnb, hrow, hbx⟩ := hrel
    have HROW := Lib.hid hrow
    have HBX := Lib.hid hbx
    have HNB := Lib.hid hnb
    clear hrow hbx hnb
    cases gk with
    | zero =>
      have hge : (n : Int) ≤ (i : Int) := by omega
      have hin : i = n := by omega
      have HFIN : Hid (nb = (bitsP l k).length ∧ bytesOf nb (upN2 k l i 0 0) = bitsP l k) := by
        unfold Hid
        have h1 : nb = packed l.length k := by rw [HNB.out, hin, HN.out]; unfold packed; rw [Nat.mul_comm]
        refine ⟨by rw [bitsP_len]; exact h1, ?_⟩
        unfold bitsP upN2
        rw [h1, List.take_of_length_le (by have := HN.out; omega)]
        simp
      clear hin
      obtain ⟨o5, n5, c5, rfl⟩ := row_form HROW.out
      go_wp2
      go_ret
      refine ⟨_, rfl, ?_, HBX.out⟩
      rw [← HFIN.out.1, ← HFIN.out.2]; exact HROW.out
    | succ g =>
      have hi : (i : Int) < (n : Int) := by omega
      have hi0 : (0 : Int) ≤ (i : Int) := by omega
      have hil : i < l.length := by have := HN.out; omega
      obtain ⟨x, hx⟩ : ∃ x, l[i]? = some x := ⟨_, List.getElem?_eq_getElem hil⟩
      have hx64 : x < 18446744073709551616 := HL.out x (List.mem_of_getElem? hx)
      obtain ⟨b0, o0, rfl, hc0⟩ := (H.out.below HBX.out).get (i := i) (u := .int .u64 (x : Int)) (by rw [List.getElem?_map, hx]; rfl)
      obtain ⟨ki, hki⟩ : ∃ ki, ki = k * i := ⟨_, rfl⟩
      have hkb : (ki : Int) + (k : Int) ≤ 67108864 := by
        have h1 : k * (i + 1) ≤ 64 * 1048576 := Nat.mul_le_mul hk (by omega)
        rw [Nat.mul_succ, ← hki] at h1
        omega
      have HKI := Lib.hid hki; have HX := Lib.hid hx; have HX64 := Lib.hid hx64
      rw [← hki]
      clear hx hx64 hki hil hc0
      go_wp2
      obtain ⟨wo, rfl⟩ : ∃ wo : World, wo = wr := ⟨_, rfl⟩
      go_loopg [5, 6, 8] k (fun g2 s5 s6 s8 wy => ∃ d nb : Nat, d + g2 = k ∧ s8 = .int .i64 (d : Int) ∧ s6 = .int .i64 ((ki + d : Nat) : Int) ∧ nb = (ki + d + 7) / 8 ∧ wy.ownsRow w.heap.size 5 1 s5 nb ((bytesOf nb (upN2 k l i d x)).map bV) ∧ BW w wy)
      case atStart => exact ⟨0, nb, by omega, rfl, rfl, by first | (rw [HNB.out, HKI.out]; done) | (rw [HNB.out, HKI.out]; rfl), by rw [upN2_any k i x 0]; exact HROW.out, HBX.out⟩
      case round =>
        obtain ⟨d, nb2, hdg, rfl, rfl, hnb2, hrow2, hbx2⟩ := hrel
        have HROW2 := Lib.hid hrow2
        have HBX2 := Lib.hid hbx2
        have HNB2 := Lib.hid hnb2
        clear hrow2 hbx2 hnb2
        cases gk with
        | zero =>
          have hdk : d = k := by omega
          have HDK := Lib.hid hdk
          have hge : (k : Int) ≤ (d : Int) := by omega
          clear hdk
          go_wp2
          go_roundg g
          case measure => omega
          case rel => exact ⟨i + 1, nb2, by omega, by first | rfl | simp, by rw [Nat.mul_succ, ← HKI.out, HDK.out], by rw [HNB2.out, Nat.mul_succ, ← HKI.out, HDK.out], by rw [← upN2_next HX.out]; have := HROW2.out; rw [HDK.out] at this; exact this, HBX2.out⟩
        | succ g2 =>
          have hlt : (d : Int) < (k : Int) := by omega
          have hd0 : 0 ≤ (d : Int) := by omega
          obtain ⟨t, ht⟩ : ∃ t, t = ki + d := ⟨_, rfl⟩
          obtain ⟨q, hq⟩ : ∃ q, q = t / 8 := ⟨_, rfl⟩
          obtain ⟨r, hr⟩ : ∃ r, r = t % 8 := ⟨_, rfl⟩
          obtain ⟨z, hz⟩ : ∃ z, z = x / 2 ^ d := ⟨_, rfl⟩
          obtain ⟨y, hy⟩ : ∃ y, y = z % 2 := ⟨_, rfl⟩
          have hzi : (x : Int) / 2 ^ d = (z : Int) := by rw [hz]; push_cast; try rfl
          have hz64 : z < 18446744073709551616 := by rw [hz]; exact Nat.lt_of_le_of_lt (Nat.div_le_self _ _) HX64.out
          have hand : bits .and .u64 (z : Int) 1 = (y : Int) := by rw [show (1 : Int) = ((1 : Nat) : Int) from rfl, u64_and_nat _ _ hz64 (by decide), nat_mask1, hy]
          have hwd : IntKind.u64.wrap (d : Int) = (d : Int) := by rw [IntKind.wrap_u64]; omega
          have hq1 : (t : Int) / 8 = (q : Int) := by omega
          have hr1 : (t : Int) % 8 = (r : Int) := by omega
          have ht0 : 0 ≤ (t : Int) := by omega
          have ht1 : (t : Int) ≤ 67108864 := by omega
          have htm : (t : Int).tmod 8 = (r : Int) := by rw [Int.tmod_eq_emod_of_nonneg ht0]; exact hr1
          have hr0 : 0 ≤ (r : Int) := by omega
          have hr8 : (r : Int) < 8 := by omega
          have hq0 : 0 ≤ (q : Int) := by omega
          have hwq : IntKind.i64.wrap (q : Int) = (q : Int) := IntWalk.i64_in _ (by omega)
          have hwr : IntKind.i64.wrap (r : Int) = (r : Int) := IntWalk.i64_in _ (by omega)
          have hwr2 : IntKind.u64.wrap (r : Int) = (r : Int) := by rw [IntKind.wrap_u64]; omega
          have hNlt : upN2 k l i d x < 2 ^ t := by rw [ht, HKI.out]; exact upN2_lt (by have := HN.out; omega)
          have HST : Hid (upN2 k l i (d + 1) x = upN2 k l i d x + 2 ^ t * y) := by unfold Hid; rw [upN2_step, hy, hz, ht, HKI.out]
          have hx0 : 0 ≤ (x : Int) := by omega
          rw [← ht]
          have HT := Lib.hid ht; have HQ := Lib.hid hq; have HR := Lib.hid hr; have HLT := Lib.hid hNlt
          have hy2 : y < 2 := by omega
          obtain ⟨b9, o9, e9, hc9⟩ := (H.out.below HBX2.out).get (i := i) (u := .int .u64 (x : Int)) (by rw [List.getElem?_map, HX.out]; rfl)
          cases e9
          clear ht hq hr hz hz64 hNlt hy
          obtain ⟨o5, n5, c5, rfl⟩ := row_form HROW2.out
          have HY2 := Lib.hid hy2
          have HDG := Lib.hid hdg
          clear hy2 hdg
          by_cases hrz : r = 0
          · have hd0 : ((r : Int) == 0) = true := by simp; omega
            have HNQ : Hid (nb2 = q) := by unfold Hid; have h1 := HNB2.out; have h2 := HT.out; have h3 := HQ.out; have h4 := HR.out; omega
            have HN0 : Hid (upN2 k l i d x < 256 ^ nb2) := by
              unfold Hid
              have h1 := HLT.out
              rw [HNQ.out, show 256 = 2 ^ 8 from rfl, ← Nat.pow_mul]
              have h3 := HQ.out; have h4 := HR.out
              rw [show 8 * q = t by omega]; exact h1
            clear hrz
            go_wp2_with (at_builtin; refine append_bytes rfl (.tmp 30) (.tmp 31) rfl w.heap.size _ nb2 (bytesOf nb2 (upN2 k l i d x)) rfl (HROW2.out.alloc _) (.slice (some ⟨wr.heap.size, 0, none⟩) 1 1) rfl [0] (src_byte (y := 0) (m := 0) rfl (by decide)) ?_ ?_ ?_)
            · have := HNQ.out; simp; omega
            · have := HBX2.out.size; simp; omega
            intro v4 w4 ho4 hg4
            have HO4 : Hid (w4.ownsRow w.heap.size 5 1 v4 (nb2 + 1) ((bytesOf (nb2 + 1) (upN2 k l i d x)).map bV)) := by
              unfold Hid
              rw [bytesOf_more HN0.out, List.map_append]; exact ho4
            have HB4 := Lib.hid (bw_grown (HBX2.out.alloc _) hg4 (row_own HROW2.out))
            have HNB4 : Hid (nb2 + 1 = q + 1) := by unfold Hid; rw [HNQ.out]
            obtain ⟨b8, o8, e8, hc8⟩ := (H.out.below HB4.out).get (i := i) (u := .int .u64 (x : Int)) (by rw [List.getElem?_map, HX.out]; rfl)
            cases e8
            obtain ⟨o4, n4, c4, rfl⟩ := row_form HO4.out
            clear ho4 hg4 hc9 hd0
            have hwi : 0 ≤ (d : Int) + 1 := by omega
            obtain hy0 | hy1 : y = 0 ∨ y = 1 := by have := HY2.out; omega
            · have hyd : ((y : Int) == 1) = false := by simp; omega
              have HY := Lib.hid hy0
              clear hy0
              go_wp2
              go_roundg g2
              case measure => omega
              case rel => exact ⟨d + 1, nb2 + 1, by have := HDG.out; omega, by first | rfl | simp, by rw [HT.out]; first | rfl | simp, by have := HNB4.out; have := HT.out; have := HQ.out; have := HR.out; omega, by rw [HST.out, HY.out, Nat.mul_zero, Nat.add_zero]; exact HO4.out, HB4.out⟩
            · obtain ⟨gb, cp, c, hv5, hgb, hc1, hc2, hcell, hfr, hrow3⟩ := bit_set (q := q) (r := r) rfl HO4.out HLT.out HQ.out HR.out (by have := HNB4.out; omega)
              cases hv5
              have hyd : ((y : Int) == 1) = true := by simp; omega
              have HY := Lib.hid hy1
              obtain ⟨y2, hy2⟩ : ∃ y2, y2 = c + 2 ^ r := ⟨_, rfl⟩
              rw [← hy2] at hc2 hrow3
              have hr8n : 2 ^ r ≤ 2 ^ 7 := Nat.pow_le_pow_right (by decide) (by omega)
              have hor : bits .or .u8 (c : Int) (2 ^ r % 256) = (y2 : Int) := by
                have h1 : (2 : Int) ^ r = ((2 ^ r * 1 : Nat) : Int) := by push_cast; omega
                rw [h1, show ((2 ^ r * 1 : Nat) : Int) % 256 = ((2 ^ r * 1 : Nat) : Int) by omega, u8_or_nat _ _ (by omega) (by omega), hy2, Nat.or_comm, ← Nat.two_pow_add_eq_or_of_lt hc1 1, Nat.mul_one, Nat.add_comm]
              have hq2 : (q : Int) < (nb2 + 1 : Int) := by have := HNB4.out; omega
              have HBS : Hid (BW w (w4.setCell ⟨gb, q, none⟩ (.int .u8 (y2 : Int)))) := (HB4.out).setCell hgb _
              have HROW3 := Lib.hid hrow3
              clear hy1 hy2 hc1 hrow3 hgb hr8n
              go_wp2
              go_roundg g2
              case measure => omega
              case rel => exact ⟨d + 1, nb2 + 1, by have := HDG.out; omega, by first | rfl | simp, by rw [HT.out]; first | rfl | simp, by have := HNB4.out; have := HT.out; have := HQ.out; have := HR.out; omega, by rw [HST.out, HY.out, Nat.mul_one]; exact HROW3.out, HBS.out⟩
          · have hd0 : ((r : Int) == 0) = false := by simp; omega
            have HNQ : Hid (nb2 = q + 1) := by unfold Hid; have h1 := HNB2.out; have h2 := HT.out; have h3 := HQ.out; have h4 := HR.out; omega
            clear hrz
            have hwi : 0 ≤ (d : Int) + 1 := by omega
            obtain hy0 | hy1 : y = 0 ∨ y = 1 := by have := HY2.out; omega
            · have hyd : ((y : Int) == 1) = false := by simp; omega
              have HY := Lib.hid hy0
              clear hy0
              go_wp2
              go_roundg g2
              case measure => omega
              case rel => exact ⟨d + 1, nb2, by have := HDG.out; omega, by first | rfl | simp, by rw [HT.out]; first | rfl | simp, by have := HNQ.out; have := HT.out; have := HQ.out; have := HR.out; omega, by rw [HST.out, HY.out, Nat.mul_zero, Nat.add_zero]; exact HROW2.out, HBX2.out⟩
            · obtain ⟨gb, cp, c, hv5, hgb, hc1, hc2, hcell, hfr, hrow3⟩ := bit_set (q := q) (r := r) rfl HROW2.out HLT.out HQ.out HR.out (by have := HNQ.out; omega)
              cases hv5
              have hyd : ((y : Int) == 1) = true := by simp; omega
              have HY := Lib.hid hy1
              obtain ⟨y2, hy2⟩ : ∃ y2, y2 = c + 2 ^ r := ⟨_, rfl⟩
              rw [← hy2] at hc2 hrow3
              have hr8n : 2 ^ r ≤ 2 ^ 7 := Nat.pow_le_pow_right (by decide) (by omega)
              have hor : bits .or .u8 (c : Int) (2 ^ r % 256) = (y2 : Int) := by
                have h1 : (2 : Int) ^ r = ((2 ^ r * 1 : Nat) : Int) := by push_cast; omega
                rw [h1, show ((2 ^ r * 1 : Nat) : Int) % 256 = ((2 ^ r * 1 : Nat) : Int) by omega, u8_or_nat _ _ (by omega) (by omega), hy2, Nat.or_comm, ← Nat.two_pow_add_eq_or_of_lt hc1 1, Nat.mul_one, Nat.add_comm]
              have hq2 : (q : Int) < (nb2 : Int) := by have := HNQ.out; omega
              have HBS : Hid (BW w (wr.setCell ⟨gb, q, none⟩ (.int .u8 (y2 : Int)))) := (HBX2.out).setCell hgb _
              have HROW3 := Lib.hid hrow3
              clear hy1 hy2 hc1 hrow3 hgb hr8n
              go_wp2
              go_roundg g2
              case measure => omega
              case rel => exact ⟨d + 1, nb2, by have := HDG.out; omega, by first | rfl | simp, by rw [HT.out]; first | rfl | simp, by have := HNQ.out; have := HT.out; have := HQ.out; have := HR.out; omega, by rw [HST.out, HY.out, Nat.mul_one]; exact HROW3.out, HBS.out⟩

theorem append_u64 {w : World} {ops : Array Oper} {rest : List Oper} {o : Oper} {a : Act} {Q : Exit → Act → World → Prop} (hgd : o.guard = none) (s x : Operand)
    (ho : o.op = .call { callee := .builtin .append, args := #[s, x], argTypes := #[22, 22] }) (base : Nat) (v : Value) (n : Nat) (xs : List Nat) (hs : a.eval s = v) (hown : w.ownsRow base 52 1 v n (xs.map uV))
    (xv : Value) (hx : a.eval x = xv) (bs : List Nat) (hsrc : Src w xv (bs.map uV)) (hb : n + bs.length ≤ 1000000000) (hbase : base ≤ w.heap.size)
    (h : ∀ v' w', w'.ownsRow base 52 1 v' (n + bs.length) ((xs ++ bs).map uV) → w.grownBy w' v.ownBlock → wpList Try.prog ops Q rest (a.put o.dst v') w') : wpList Try.prog ops Q (o :: rest) a w := by
  obtain ⟨i0, hi, hz0, hz1, hz2⟩ := infoOf info_u64
  have hb1 : n + bs.length ≤ maxLen := by unfold maxLen; omega
  have hone : ∀ u ∈ bs.map uV, u.oneCell' = true := by
    intro u hu
    obtain ⟨c, _, rfl⟩ := List.mem_map.1 hu
    rfl
  rcases hsrc with ⟨ao, cap, hv, hxs, hz, _⟩ | ⟨b, off, cap, hv, _, _, _, h4⟩
  · have hbs : bs = [] := by simpa using hxs
    subst hbs
    cases ao with
    | none =>
      obtain rfl := hz rfl
      rw [hv] at hx
      refine wpList_append_own_none hgd s x 22 ho base 52 i0 1 Try.underlying22 hi v n _ hs hown hx ?_
      exact h v w (by simpa using hown) (grown_refl _ _)
    | some ad =>
      rw [hv] at hx
      refine wpList_append_own w hgd s x 22 ho base 52 i0 (.int .u64 0) 1 8 Try.underlying22 hi hz0 hz1 hz2 rfl (by decide) v n _ hs hown ad 0 cap [] hx rfl (fun j u hu => by simp at hu) (fun u hu => by simp at hu) hb1 (by simp at hb; omega) hbase ?_
      intro v' w' g1 g2 _
      exact h v' w' (by simpa using g1) g2
  · rw [hv, List.length_map] at hx
    refine wpList_append_own w hgd s x 22 ho base 52 i0 (.int .u64 0) 1 8 Try.underlying22 hi hz0 hz1 hz2 rfl (by decide) v n _ hs hown ⟨b, off, none⟩ bs.length cap (bs.map uV) hx (by simp) (fun j u hu => by rw [addOff]; exact h4 j u hu) hone hb1 (by omega) hbase ?_
    intro v' w' g1 g2 _
    exact h v' w' (by simpa using g1) g2
theorem append_i64 {w : World} {ops : Array Oper} {rest : List Oper} {o : Oper} {a : Act} {Q : Exit → Act → World → Prop} (hgd : o.guard = none) (s x : Operand)
    (ho : o.op = .call { callee := .builtin .append, args := #[s, x], argTypes := #[41, 41] }) (base : Nat) (v : Value) (n : Nat) (xs : List Int) (hs : a.eval s = v) (hown : w.ownsRow base 2 1 v n (xs.map iV))
    (xv : Value) (hx : a.eval x = xv) (bs : List Int) (hsrc : Src w xv (bs.map iV)) (hb : n + bs.length ≤ 1000000000) (hbase : base ≤ w.heap.size)
    (h : ∀ v' w', w'.ownsRow base 2 1 v' (n + bs.length) ((xs ++ bs).map iV) → w.grownBy w' v.ownBlock → wpList Try.prog ops Q rest (a.put o.dst v') w') : wpList Try.prog ops Q (o :: rest) a w := by
  obtain ⟨i0, hi, hz0, hz1, hz2⟩ := infoOf info_i64
  have hb1 : n + bs.length ≤ maxLen := by unfold maxLen; omega
  have hone : ∀ u ∈ bs.map iV, u.oneCell' = true := by
    intro u hu
    obtain ⟨c, _, rfl⟩ := List.mem_map.1 hu
    rfl
  rcases hsrc with ⟨ao, cap, hv, hxs, hz, _⟩ | ⟨b, off, cap, hv, _, _, _, h4⟩
  · have hbs : bs = [] := by simpa using hxs
    subst hbs
    cases ao with
    | none =>
      obtain rfl := hz rfl
      rw [hv] at hx
      refine wpList_append_own_none hgd s x 41 ho base 2 i0 1 Try.underlying41 hi v n _ hs hown hx ?_
      exact h v w (by simpa using hown) (grown_refl _ _)
    | some ad =>
      rw [hv] at hx
      refine wpList_append_own w hgd s x 41 ho base 2 i0 (.int .i64 0) 1 8 Try.underlying41 hi hz0 hz1 hz2 rfl (by decide) v n _ hs hown ad 0 cap [] hx rfl (fun j u hu => by simp at hu) (fun u hu => by simp at hu) hb1 (by simp at hb; omega) hbase ?_
      intro v' w' g1 g2 _
      exact h v' w' (by simpa using g1) g2
  · rw [hv, List.length_map] at hx
    refine wpList_append_own w hgd s x 41 ho base 2 i0 (.int .i64 0) 1 8 Try.underlying41 hi hz0 hz1 hz2 rfl (by decide) v n _ hs hown ⟨b, off, none⟩ bs.length cap (bs.map iV) hx (by simp) (fun j u hu => by rw [addOff]; exact h4 j u hu) hone hb1 (by omega) hbase ?_
    intro v' w' g1 g2 _
    exact h v' w' (by simpa using g1) g2

theorem refUnbits_arg {w : World} {v : Value} {k n : Int} (hn : ¬ (0 ≤ k ∧ k ≤ 64) ∨ ¬ (0 ≤ n ∧ n ≤ 1048576)) : Calls Try.prog 15 #[v, .int .i64 k, .int .i64 n] w (ArgPost w) := by
  by_cases h1 : k < 0
  · have hd : decide (k < 0) = true := decide_eq_true h1
    clear hn h1
    go_enter Try.func15, Try.ntmps15
    go_wp2
    go_ret2
    exact ⟨rfl, rfl⟩
  · have hd : decide (k < 0) = false := decide_eq_false h1
    by_cases h2 : 64 < k
    · have hd2 : decide (64 < k) = true := decide_eq_true h2
      clear hn h1 h2
      go_enter Try.func15, Try.ntmps15
      go_wp2
      go_ret2
      exact ⟨rfl, rfl⟩
    · have hd2 : decide (64 < k) = false := decide_eq_false h2
      by_cases h3 : n < 0
      · have hd3 : decide (n < 0) = true := decide_eq_true h3
        clear hn h1 h2 h3
        go_enter Try.func15, Try.ntmps15
        go_wp2
        go_ret2
        exact ⟨rfl, rfl⟩
      · have hd3 : decide (n < 0) = false := decide_eq_false h3
        have hd4 : decide (1048576 < n) = true := decide_eq_true (by omega)
        clear hn h1 h2 h3
        go_enter Try.func15, Try.ntmps15
        go_wp2
        go_ret2
        exact ⟨rfl, rfl⟩

theorem refUnbits_len {w : World} {ao : Option Addr} {cap : Nat} {bs : List UInt8} {k n : Nat} (hk : k ≤ 64) (hn : n ≤ 1048576) (hb : (bs.length : Int) ≤ 9223372036854775807) (hl : bs.length ≠ packed n k) : Calls Try.prog 15 #[.slice ao bs.length cap, .int .i64 (k : Int), .int .i64 (n : Int)] w (UnbPost w bs k n) := by
  have HN : Hid (unbitsP bs k n = none) := by unfold Hid unbitsP; rw [if_neg fun h => hl h.1]
  obtain ⟨kn, hkn⟩ : ∃ kn, kn = k * n := ⟨_, rfl⟩
  have hkn2 : kn ≤ 67108864 := by rw [hkn]; exact Nat.le_trans (Nat.mul_le_mul hk hn) (by decide)
  have hki : (k : Int) * (n : Int) = (kn : Int) := by rw [hkn]; push_cast; rfl
  have hpd : packed n k = (kn + 7) / 8 := by rw [hkn]; unfold packed; rw [Nat.mul_comm]
  obtain ⟨pn, hpn⟩ : ∃ pn, pn = packed n k := ⟨_, rfl⟩
  rw [← hpn] at hpd hl
  have hkp : ((kn : Int) + 7) / 8 = (pn : Int) := by omega
  have hkp2 : ((kn : Int) + 7).tdiv 8 = (pn : Int) := by rw [Int.tdiv_eq_ediv_of_nonneg (by omega)]; exact hkp
  generalize bs.length = bn at *
  have hne : ((bn : Int) != (pn : Int)) = true := by simp; omega
  have hk1 : decide ((k : Int) < 0) = false := decide_eq_false (by omega)
  have hk2 : decide ((64 : Int) < (k : Int)) = false := decide_eq_false (by omega)
  have hk3 : decide (64 < k) = false := decide_eq_false (by omega)
  have hn1 : decide ((n : Int) < 0) = false := decide_eq_false (by omega)
  have hn2 : decide ((1048576 : Int) < (n : Int)) = false := decide_eq_false (by omega)
  have hn3 : decide (1048576 < n) = false := decide_eq_false (by omega)
  have hpb : (kn : Int) ≤ 67108864 := by omega
  have hp0 : 0 ≤ (kn : Int) := by omega
  have hwp : IntKind.i64.wrap (pn : Int) = (pn : Int) := IntWalk.i64_in _ (by omega)
  clear hl hk hn hkn hkn2 hpd hpn
  go_enter Try.func15, Try.ntmps15
  go_wp2
  go_ret2
  exact unb_bad HN.out (BW.refl _)

theorem rowU_own {w : World} {base n t : Nat} {v : Value} {xs : List Value} (h : w.ownsRow base t 1 v n xs) : ∀ k, v.ownBlock = some k → base ≤ k := by
  intro k hk
  obtain ⟨a, n', c, e1, e2⟩ := own_some hk
  have := row_base' h a n' c e1
  omega
theorem left_bits {N a b : Nat} (hk : a ≤ b) (h : N / 2 ^ a % 2 ^ (b - a) = 0) : (N / 2 ^ b % 2 = 0 → N / 2 ^ a % 2 ^ (b + 1 - a) = 0) ∧ (N / 2 ^ b % 2 ≠ 0 → ¬ N < 2 ^ a) := by
  have h1 := digit_grows N a (b - a) 1
  rw [h, show a + (b - a) = b by omega, show b - a + 1 = b + 1 - a by omega] at h1
  constructor
  · intro h2
    rw [h1, show (2 : Nat) ^ 1 = 2 from rfl, h2]; simp
  · intro h2 h3
    have h4 : N < 2 ^ b := Nat.lt_of_lt_of_le h3 (Nat.pow_le_pow_right (by decide) hk)
    rw [Nat.div_eq_of_lt h4] at h2
    exact h2 rfl
theorem left_end {bs : List UInt8} {a b : Nat} (hk : a ≤ b) (hb : b = 8 * bs.length) (h : n256 bs / 2 ^ a % 2 ^ (b - a) = 0) : n256 bs < 2 ^ a := by
  have h1 : n256 bs < 2 ^ b := by
    have := n256_lt bs
    rw [show (256 : Nat) = 2 ^ 8 from rfl, ← Nat.pow_mul, ← hb] at this
    exact this
  have h2 : n256 bs / 2 ^ a < 2 ^ (b - a) := by
    refine Nat.div_lt_of_lt_mul ?_
    rw [← Nat.pow_add, show a + (b - a) = b by omega]; exact h1
  rw [Nat.mod_eq_of_lt h2] at h
  exact (Nat.div_eq_zero_iff.1 h).resolve_left (by have := two_pos a; omega)

set_option maxRecDepth 100000 in
set_option maxHeartbeats 4000000 in
theorem refUnbits_walk {w : World} {v : Value} {bs : List UInt8} (h : Src w v (bs.map bV)) (k n : Nat) (hk : k ≤ 64) (hn : n ≤ 1048576) (hl : bs.length = packed n k) : Calls Try.prog 15 #[v, .int .i64 (k : Int), .int .i64 (n : Int)] w (UnbPost w bs k n) := by
  obtain ⟨ao, cap, rfl⟩ := h.len
  rw [List.length_map, hl] at h ⊢
  obtain ⟨N, hN⟩ : ∃ N, N = n256 bs := ⟨_, rfl⟩
  obtain ⟨pn, hpn⟩ : ∃ pn, pn = packed n k := ⟨_, rfl⟩
  obtain ⟨kn, hkn⟩ : ∃ kn, kn = k * n := ⟨_, rfl⟩
  have hkn2 : kn ≤ 67108864 := by rw [hkn]; exact Nat.le_trans (Nat.mul_le_mul hk hn) (by decide)
  have hki : (k : Int) * (n : Int) = (kn : Int) := by rw [hkn]; push_cast; rfl
  have hpd : pn = (kn + 7) / 8 := by rw [hpn, hkn]; unfold packed; rw [Nat.mul_comm]
  rw [← hpn] at h hl ⊢
  have hkp : ((kn : Int) + 7) / 8 = (pn : Int) := by omega
  have hkp2 : ((kn : Int) + 7).tdiv 8 = (pn : Int) := by rw [Int.tdiv_eq_ediv_of_nonneg (by omega)]; exact hkp
  have hne : ((pn : Int) != (pn : Int)) = false := by simp
  have hk1 : decide ((k : Int) < 0) = false := decide_eq_false (by omega)
  have hk2 : decide ((64 : Int) < (k : Int)) = false := decide_eq_false (by omega)
  have hk3 : decide (64 < k) = false := decide_eq_false (by omega)
  have hn1 : decide ((n : Int) < 0) = false := decide_eq_false (by omega)
  have hn2 : decide ((1048576 : Int) < (n : Int)) = false := decide_eq_false (by omega)
  have hn3 : decide (1048576 < n) = false := decide_eq_false (by omega)
  have hpb : (kn : Int) ≤ 67108864 := by omega
  have hp0 : 0 ≤ (kn : Int) := by omega
  have hpb2 : (pn : Int) ≤ 8388608 := by omega
  have hwp : IntKind.i64.wrap (pn : Int) = (pn : Int) := IntWalk.i64_in _ (by omega)
  have hnb : (n : Int) ≤ 1048576 := by omega
  have H := Lib.hid h; have HN := Lib.hid hN; have HKN := Lib.hid hkn; have HPD := Lib.hid hpd; have HL := Lib.hid hl; have HP := Lib.hid hpn
  have HBIT : Hid (∀ w' : World, BW w w' → ∀ t, t < 8 * pn → Calls Try.prog 37 #[.slice ao pn cap, .int .i64 (t : Int)] w' (BitPost w' N t)) := by
    unfold Hid
    intro w' hb t ht
    have := refBit_any (h.below hb) hl.symm t ht (by omega)
    rw [← hN] at this; exact this
  clear h hN hkn hpd hl hpn
  go_enter Try.func15, Try.ntmps15
  go_wp2
  clear hne
  go_loopg [8, 9, 10] n (fun g s8 s9 s10 wx => ∃ i : Nat, i + g = n ∧ s10 = .int .i64 i ∧ s9 = .int .i64 ((k * i : Nat) : Int) ∧ wx.ownsRow w.heap.size 52 1 s8 i ((digs k i N).map uV) ∧ BW w wx)
  case atStart => exact ⟨0, by omega, rfl, rfl, World.ownsRow_nil _ _ _ _, BW.refl w⟩
  case round =>
    obtain ⟨i, hig, rfl, rfl, hrow, hbx⟩ := hrel
    have HROW := Lib.hid hrow
    have HBX := Lib.hid hbx
    clear hrow hbx
    cases gk with
    | zero =>
      have hge : (n : Int) ≤ (i : Int) := by omega
      have hin : i = n := by omega
      have HIN := Lib.hid hin
      have hkin : k * i = kn := by rw [HKN.out, hin]
      rw [hkin]
      have hd0 : decide (i < n) = false := decide_eq_false (by omega)
      have hd1 : decide ((i : Int) < (n : Int)) = false := decide_eq_false (by omega)
      clear hkin hin
      go_wp2
      obtain ⟨wo, rfl⟩ : ∃ wo : World, wo = wr := ⟨_, rfl⟩
      go_loopg [9] (8 * pn - kn) (fun g2 s9 wy => ∃ t : Nat, t + g2 = 8 * pn ∧ s9 = .int .i64 (t : Int) ∧ kn ≤ t ∧ N / 2 ^ kn % 2 ^ (t - kn) = 0 ∧ wo = wy)
      case atStart => exact ⟨kn, by have := HPD.out; omega, rfl, Nat.le_refl _, by rw [Nat.sub_self]; simp [Nat.mod_one], rfl⟩
      case round =>
        obtain ⟨t, htg, rfl, hkt, hz, rfl⟩ := hrel
        have HLB := Lib.hid (left_bits hkt hz)
        have HKT := Lib.hid hkt
        have HZ := Lib.hid hz
        have ht0 : 0 ≤ (t : Int) := by omega
        clear hz hkt
        cases gk with
        | zero =>
          have hge2 : 8 * (pn : Int) ≤ (t : Int) := by omega
          have HT : Hid (t = 8 * pn) := by unfold Hid; omega
          have HOK : Hid (unbitsP bs k n = some (digs k n N)) := by
            unfold Hid unbitsP
            have h1 := HZ.out
            rw [HN.out] at h1
            have h2 := left_end HKT.out (by rw [HT.out, HL.out]) h1
            rw [if_pos ⟨by rw [HL.out, ← HP.out], by rw [← HKN.out]; exact h2⟩, HN.out]
          clear htg
          go_wp2
          go_ret2
          refine unb_ok HOK.out HBX.out ?_
          rw [digs_len, ← HIN.out]; exact HROW.out
        | succ g2 =>
          have hlt2 : (t : Int) < 8 * (pn : Int) := by omega
          have HB := Lib.hid (HBIT.out wo HBX.out t (by omega))
          obtain ⟨y, hy⟩ : ∃ y, y = N / 2 ^ t % 2 := ⟨_, rfl⟩
          unfold BitPost at HB
          rw [← hy] at HLB HB
          have HTG := Lib.hid htg
          clear htg
          by_cases hy0 : y = 0
          · have hd : ((y : Int) != 0) = false := by simp [hy0]
            have HZ2 := Lib.hid (HLB.out.1 hy0)
            clear hy hy0
            go_wp2_with (go_at_call 37; refine HB.out.mono ?_; rintro e w' ⟨rfl, rfl⟩)
            go_roundg g2
            case measure => omega
            case rel => exact ⟨t + 1, by have := HTG.out; omega, by first | rfl | simp, by have := HKT.out; omega, HZ2.out, rfl⟩
          · have hd : ((y : Int) != 0) = true := by simp [hy0]
            have HZ2 := Lib.hid (HLB.out.2 hy0)
            have HBAD : Hid (unbitsP bs k n = none) := by
              unfold Hid unbitsP
              have h1 := HZ2.out
              rw [HN.out, HKN.out] at h1
              rw [if_neg fun h => h1 h.2]
            clear hy hy0
            go_wp2_with (go_at_call 37; refine HB.out.mono ?_; rintro e w' ⟨rfl, rfl⟩)
            go_ret2
            exact unb_bad HBAD.out HBX.out
    | succ g =>
      have hi : (i : Int) < (n : Int) := by omega
      have hi0 : (0 : Int) ≤ (i : Int) := by omega
      obtain ⟨ki, hki2⟩ : ∃ ki, ki = k * i := ⟨_, rfl⟩
      have hkb : (ki : Int) + (k : Int) ≤ (kn : Int) := by
        have h1 : k * (i + 1) ≤ k * n := Nat.mul_le_mul_left _ (by omega)
        rw [Nat.mul_succ, ← hki2, ← HKN.out] at h1
        omega
      have HKI := Lib.hid hki2
      rw [← hki2]
      clear hki2
      have hig' := Lib.hid hig
      clear hig
      go_wp2
      obtain ⟨wo, rfl⟩ : ∃ wo : World, wo = wr := ⟨_, rfl⟩
      go_loopg [9, 11, 12] k (fun g2 s9 s11 s12 wy => ∃ d : Nat, d + g2 = k ∧ s12 = .int .i64 (d : Int) ∧ s9 = .int .i64 ((ki + d : Nat) : Int) ∧ s11 = .int .u64 ((N / 2 ^ ki % 2 ^ d : Nat) : Int) ∧ wo = wy)
      case atStart => exact ⟨0, by omega, rfl, rfl, by simp [Nat.mod_one], rfl⟩
      case round =>
        obtain ⟨d, hdg, rfl, rfl, rfl, rfl⟩ := hrel
        cases gk with
        | zero =>
          have hdk : d = k := by omega
          have HDK := Lib.hid hdk
          have hge : (k : Int) ≤ (d : Int) := by omega
          obtain ⟨u, hu⟩ : ∃ u, u = N / 2 ^ ki % 2 ^ d := ⟨_, rfl⟩
          have hu64 : u < 18446744073709551616 := by rw [hu]; exact mod_lt64 (by omega)
          rw [← hu]
          have HU : Hid (digs k (i + 1) N = digs k i N ++ [u]) := by unfold Hid; rw [digs_snoc, hu, HDK.out, HKI.out]
          clear hdk hu
          go_wp2_with (at_builtin; refine append_u64 rfl (.tmp 55) (.tmp 57) rfl w.heap.size _ i (digs k i N) rfl (HROW.out.alloc _) (.slice (some ⟨wo.heap.size, 0, none⟩) 1 1) rfl [u] (src_newU _ _ 1 [u] rfl (by decide) rfl) ?_ ?_ ?_)
          · have := hig'.out; simp; omega
          · have := HBX.out.size; simp; omega
          intro v4 w4 ho4 hg4
          have HO4 : Hid (w4.ownsRow w.heap.size 52 1 v4 (i + 1) ((digs k (i + 1) N).map uV)) := by
            unfold Hid
            rw [HU.out, List.map_append]; exact ho4
          have HB4 := Lib.hid (bw_grown (HBX.out.alloc _) hg4 (rowU_own HROW.out))
          clear ho4 hg4
          go_wp2
          go_roundg g
          case measure => omega
          case rel => exact ⟨i + 1, by have := hig'.out; omega, by first | rfl | simp, by rw [HKI.out, HDK.out, Nat.mul_succ]; first | rfl | simp, HO4.out, HB4.out⟩
        | succ g2 =>
          have hlt : (d : Int) < (k : Int) := by omega
          have hd0 : 0 ≤ (d : Int) := by omega
          obtain ⟨t, ht⟩ : ∃ t, t = ki + d := ⟨_, rfl⟩
          have hgr := digit_grows N ki d 1
          rw [← ht] at hgr ⊢
          obtain ⟨u, hu⟩ : ∃ u, u = N / 2 ^ ki % 2 ^ d := ⟨_, rfl⟩
          have hu64 : u < 18446744073709551616 := by rw [hu]; exact mod_lt64 (by omega)
          have hul : u < 2 ^ d := by rw [hu]; exact Nat.mod_lt _ (two_pos d)
          have hlt3 : t < 8 * pn := by have := HPD.out; omega
          have HB := Lib.hid (HBIT.out wo HBX.out t hlt3)
          obtain ⟨y, hy⟩ : ∃ y, y = N / 2 ^ t % 2 := ⟨_, rfl⟩
          unfold BitPost at HB
          rw [← hy] at HB
          rw [show (2 : Nat) ^ 1 = 2 from rfl, ← hu, ← hy] at hgr
          rw [← hu]
          have hy2 : y < 2 := by omega
          obtain ⟨z, hz⟩ : ∃ z, z = u + 2 ^ d * y := ⟨_, rfl⟩
          rw [← hz] at hgr
          have hz64 : z < 18446744073709551616 := by rw [← hgr]; exact mod_lt64 (by omega)
          have hwd : IntKind.u64.wrap (d : Int) = (d : Int) := by rw [IntKind.wrap_u64]; omega
          have hor : bits .or .u64 (u : Int) (IntKind.u64.wrap ((y : Int) * 2 ^ d)) = (z : Int) := by
            have h1 : (y : Int) * 2 ^ d = ((2 ^ d * y : Nat) : Int) := by push_cast; rw [Int.mul_comm]
            rw [h1, IntKind.wrap_u64, show ((2 ^ d * y : Nat) : Int) % 18446744073709551616 = ((2 ^ d * y : Nat) : Int) by omega, u64_or_nat _ _ hu64 (by omega), hz, Nat.or_comm, ← Nat.two_pow_add_eq_or_of_lt hul y, Nat.add_comm]
          have HT := Lib.hid ht; have HG := Lib.hid hgr
          have htb : (t : Int) ≤ 67108864 := by omega
          have ht0 : 0 ≤ (t : Int) := by omega
          have hdg' := Lib.hid hdg
          clear ht hgr hu hu64 hul hz hz64 hy hlt3 hdg
          go_wp2_with (go_at_call 37; refine HB.out.mono ?_; rintro e w' ⟨rfl, rfl⟩)
          go_roundg g2
          case measure => omega
          case rel => exact ⟨d + 1, by have := hdg'.out; omega, by first | rfl | simp, by rw [HT.out]; first | rfl | simp, by first | rw [HG.out] | rw [HG.out, hor], rfl⟩

/-- the document's Unbits, whatever it is asked -/
theorem refUnbits_any {w : World} {v : Value} {bs : List UInt8} (h : Src w v (bs.map bV)) (hb : (bs.length : Int) ≤ 9223372036854775807) (k n : Nat) (hk : k ≤ 64) (hn : n ≤ 1048576) : Calls Try.prog 15 #[v, .int .i64 (k : Int), .int .i64 (n : Int)] w (UnbPost w bs k n) := by
  by_cases hl : bs.length = packed n k
  · exact refUnbits_walk h k n hk hn hl
  · obtain ⟨ao, cap, rfl⟩ := h.len
    rw [List.length_map]
    exact refUnbits_len hk hn hb hl
end Go.Proofs.Ytdoliejihinpkaa
