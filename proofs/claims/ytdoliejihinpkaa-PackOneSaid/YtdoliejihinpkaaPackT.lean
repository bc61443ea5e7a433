/- PackOne: the walk. -/
import Derived.Test.YtdoliejihinpkaaPackR
import Derived.Deep.RegionHeld3
namespace Go.Proofs.Ytdoliejihinpkaa
open Go.RowKit Go.Maps

theorem one_far {w : World} {v : Value} {n t : Int} (h : (1000 : Int) < n) : Calls Try.prog 7 #[v, .int .i64 n, .int .i64 t] w (TruePost w) := by
  have hd2 : decide ((1000 : Int) < n) = true := decide_eq_true h
  go_enter Try.func7, Try.ntmps7
  go_wp2_with (first | (go_at_call 9; refine (awake_any _).mono ?_; rintro e w' ⟨rfl, hb⟩))
  go_ret
  exact ⟨rfl, hb⟩
set_option maxHeartbeats 1000000 in
theorem one_neg {w : World} {v : Value} {n t : Int} (h : n < 0) (h2 : -9223372036854775808 ≤ n) : Calls Try.prog 7 #[v, .int .i64 n, .int .i64 t] w (TruePost w) := by
  have hd2 : decide ((1000 : Int) < n) = false := decide_eq_false (by omega)
  have HA := Lib.hid (fun w => get_arg (w := w) (v := v) (n := n) h2 (by omega) (by omega))
  clear h h2
  go_enter Try.func7, Try.ntmps7
  go_wp2_with fail
  refine (awake_any _).mono ?_
  rintro e w1 ⟨rfl, hb1⟩
  have HB1 := Lib.hid hb1
  clear hb1
  go_wp2_with fail
  refine (HA.out _).mono ?_
  rintro e w2 ⟨rfl, hb2⟩
  have HB2 := Lib.hid (HB1.out.trans hb2)
  clear hb2
  go_wp2
  go_ret
  exact ⟨rfl, HB2.out⟩

set_option maxHeartbeats 4000000 in
set_option maxRecDepth 100000 in
theorem one_any {w : World} {v : Value} {bs : List UInt8} (h : Src w v (bs.map bV)) (n t : Int) (hn : I64 n) (ht : I64 t) : Calls Try.prog 7 #[v, .int .i64 n, .int .i64 t] w (TruePost w) := by
  by_cases hf : (1000 : Int) < n
  · exact one_far hf
  by_cases hg : n < 0
  · exact one_neg hg hn.1
  obtain ⟨nn, rfl⟩ := Int.eq_ofNat_of_zero_le (show 0 ≤ n by omega)
  obtain ⟨ao, cap, rfl⟩ := h.len
  rw [List.length_map] at h ⊢
  have hd2 : decide ((1000 : Int) < (nn : Int)) = false := decide_eq_false hf
  have hd1 : decide (1000 < nn) = false := decide_eq_false (by omega)
  have hcap : bs.length ≤ cap := by
    rcases h with ⟨ao', c', e, e2, h5, h6⟩ | ⟨b', off', c, hv, h1, h2, h3, h4⟩
    · injection e with _ e1 e3; omega
    · injection hv with _ e1 e3; omega
  have H := Lib.hid h
  have hnn : nn ≤ 1000 := by omega
  obtain ⟨bl, hbl⟩ : ∃ bl, bl = bs.length := ⟨_, rfl⟩
  rw [← hbl] at H hcap ⊢
  have HBL := Lib.hid hbl
  have HT := Lib.hid ht
  clear h hf hg hn ht hbl
  go_enter Try.func7, Try.ntmps7
  go_wp2_with fail
  refine (awake_any _).mono ?_
  rintro e w1 ⟨rfl, hb1⟩
  have HB1 := Lib.hid hb1
  have HGET := Lib.hid (get_any (H.out.below hb1) nn (by omega))
  clear hb1
  go_wp2_with fail
  refine HGET.out.mono ?_
  rintro e w2 hh
  cases hgp : getP bs nn with
  | none =>
    obtain ⟨rfl, hb2⟩ := get_no hh hgp
    have HB2 := Lib.hid (HB1.out.trans hb2)
    clear hh hb2 hgp
    go_wp2
    go_ret
    exact ⟨rfl, HB2.out⟩
  | some p =>
    obtain ⟨l, m⟩ := p
    obtain ⟨v2, rfl, hb2, ho2⟩ := get_yes hh hgp
    obtain ⟨g1, g2, g3, g4⟩ := (get_iff nn bs l m).1 hgp
    have hmb : m ≤ bl := by have := g3.length_le; rw [← g4, ← HBL.out] at this; exact this
    have hpt : putP l = bs.take m := by rw [g4]; exact List.prefix_iff_eq_take.1 g3
    rw [g1] at ho2
    obtain ⟨o2, n2, c2, rfl⟩ := row_form ho2
    obtain rfl := row_len ho2 rfl
    have HB2 := Lib.hid (HB1.out.trans hb2)
    have HPUT := Lib.hid (fun W (hb : BW w2 W) => put_any ((Src.of_row ho2).below hb) g2 (by omega))
    have HFRONT : Hid (∀ W, BW w W → Src W (.slice ao m cap) ((putP l).map bV)) := by
      intro W hb
      rw [hpt, List.map_take]
      exact (H.out.below hb).front hmb
    have HG := Lib.hid hgp
    have HPT := Lib.hid hpt
    have hne : ((n2 : Int) != (n2 : Int)) = false := by simp
    have hmb1 : (m : Int) ≤ (bl : Int) := by omega
    have hmc : (m : Int) ≤ (cap : Int) := by omega
    have hmc2 : m ≤ cap := by omega
    have hd3 : decide ((bl : Int) < (m : Int)) = false := decide_eq_false (by omega)
    have hd4 : decide (bl < m) = false := decide_eq_false (by omega)
    clear hh hb2 hgp g1 g2 g3 g4 hpt ho2
    go_wp2
    have HD : Hid (BW w2 w2.drew) := drewN_below w2 1
    go_region_held3 (fun _ => True) (first | trivial) (first | (go_at_call 25; refine (HPUT.out _ HD.out).mono ?_; rintro e w3 ⟨v3, rfl, ho3, hb3⟩; have HO3 := Lib.hid (Src.of_row ho3); have HB3 := Lib.hid (HB2.out.trans (HD.out.trans hb3)); clear ho3 hb3) | (go_at_call 18; refine (bytes_b HO3.out (HFRONT.out _ HB3.out)).mono ?_; rintro e w4 ⟨rfl, hb4⟩; have HB4 := Lib.hid (HB3.out.trans hb4); clear hb4))
    by_cases hm0 : m = 0
    · have hb1 : ((m : Int) == 0) = true := by simp [hm0]
      have hb2 : (m == 0) = true := by simp [hm0]
      clear hm0
      go_wp2
      go_ret
      exact ⟨rfl, HB4.out⟩
    · have hb1 : ((m : Int) == 0) = false := by simp; omega
      have hb2 : (m == 0) = false := by simp [hm0]
      by_cases ht0 : t < 0
      · have hd5 : decide (t < 0) = true := decide_eq_true ht0
        clear hm0 ht0
        go_wp2
        go_ret
        exact ⟨rfl, HB4.out⟩
      · have hd5 : decide (t < 0) = false := decide_eq_false ht0
        obtain ⟨tn, rfl⟩ := Int.eq_ofNat_of_zero_le (show 0 ≤ t by omega)
        obtain ⟨q, hq⟩ : ∃ q, q = tn % m := ⟨_, rfl⟩
        have hqm : q < m := by rw [hq]; exact Nat.mod_lt _ (by omega)
        have htm : (tn : Int).tmod (m : Int) = (q : Int) := by rw [Int.tmod_eq_emod_of_nonneg (by omega), hq]; rfl
        have htm2 : (tn : Int) % (m : Int) = (q : Int) := by rw [hq]; rfl
        have hmne : (m : Int) ≠ 0 := by omega
        have hq0 : 0 ≤ (q : Int) := by omega
        have hqc : (q : Int) ≤ (cap : Int) := by omega
        have hqc2 : q ≤ cap := by omega
        have HGQ := Lib.hid (fun W (hb : BW w W) => get_any (w := W) (v := .slice ao q cap) (bs := bs.take q) (by rw [List.map_take]; exact (H.out.below hb).front (by omega)) n2 (by omega))
        have HNO := Lib.hid (get_short HG.out hqm)
        have HGQ2 := Lib.hid (HGQ.out _ HB4.out)
        have hqt : q ≤ tn := by rw [hq]; exact Nat.mod_le _ _
        have htt := HT.out.2
        have hwq : IntKind.i64.wrap (q : Int) = (q : Int) := IntWalk.i64_in _ (by omega)
        clear hqt htt
        clear hm0 ht0 hq
        go_wp2_with fail
        refine HGQ2.out.mono ?_
        rintro e w5 hh
        obtain ⟨rfl, hb5⟩ := get_no hh HNO.out
        have HB5 := Lib.hid (HB4.out.trans hb5)
        clear hh hb5
        go_wp2
        go_ret
        exact ⟨rfl, HB5.out⟩
end Go.Proofs.Ytdoliejihinpkaa
