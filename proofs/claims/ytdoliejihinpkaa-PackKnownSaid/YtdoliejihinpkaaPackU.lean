/- PackBack: the walk. -/
import Derived.Test.YtdoliejihinpkaaPackS
namespace Go.Proofs.Ytdoliejihinpkaa
open Go.RowKit Go.Maps

theorem back_far {w : World} {v0 v1 v3 : Value} {a0 a1 a3 : Option Addr} {l0 l1 l3 c0 c1 c3 : Nat} {t : Int} (h : 1000 < l0 ∨ 1000 < l1 ∨ 1000 < l3) : Calls Try.prog 6 #[.slice a0 l0 c0, .slice a1 l1 c1, .int .i64 t, .slice a3 l3 c3] w (TruePost w) := by
  by_cases h0 : 1000 < l0
  · have hd : decide (1000 < l0) = true := decide_eq_true h0
    have hd' : decide ((1000 : Int) < (l0 : Int)) = true := decide_eq_true (by omega)
    clear h h0
    go_enter Try.func6, Try.ntmps6
    go_wp2_with (first | (go_at_call 9; refine (awake_any _).mono ?_; rintro e w' ⟨rfl, hb⟩))
    go_ret
    exact ⟨rfl, hb⟩
  have hd : decide (1000 < l0) = false := decide_eq_false h0
  have hd' : decide ((1000 : Int) < (l0 : Int)) = false := decide_eq_false (by omega)
  by_cases h1 : 1000 < l1
  · have he : decide (1000 < l1) = true := decide_eq_true h1
    have he' : decide ((1000 : Int) < (l1 : Int)) = true := decide_eq_true (by omega)
    clear h h0 h1
    go_enter Try.func6, Try.ntmps6
    go_wp2_with (first | (go_at_call 9; refine (awake_any _).mono ?_; rintro e w' ⟨rfl, hb⟩))
    go_ret
    exact ⟨rfl, hb⟩
  have he : decide (1000 < l1) = false := decide_eq_false h1
  have he' : decide ((1000 : Int) < (l1 : Int)) = false := decide_eq_false (by omega)
  have hf : decide (1000 < l3) = true := decide_eq_true (by omega)
  have hf' : decide ((1000 : Int) < (l3 : Int)) = true := decide_eq_true (by omega)
  clear h h0 h1
  go_enter Try.func6, Try.ntmps6
  go_wp2_with (first | (go_at_call 9; refine (awake_any _).mono ?_; rintro e w' ⟨rfl, hb⟩))
  go_ret
  exact ⟨rfl, hb⟩
theorem unb_yes {w w' : World} {bs : List UInt8} {k n : Nat} {e : Ending} (h : UnbPost w bs k n e w') {l : List Nat} (hu : unbitsP bs k n = some l) : ∃ v, e = .returned (.tuple #[v, .int .i64 0]) ∧ BW w w' ∧ w'.ownsRow w.heap.size 52 1 v l.length (l.map uV) := by
  obtain ⟨v, er, rfl, hb, ⟨l', h1, rfl, h2⟩ | ⟨h1, _⟩⟩ := h
  · rw [hu] at h1; cases h1; exact ⟨v, rfl, hb, h2⟩
  · rw [hu] at h1; cases h1

set_option maxHeartbeats 4000000 in
set_option maxRecDepth 100000 in
theorem back_any {w : World} {v0 v1 v3 : Value} {l : List Int} {us : List Nat} {bh : List UInt8} (h0 : Src w v0 (l.map iV)) (hl : I64s l) (h1 : Src w v1 (us.map uV)) (hu : U64s us) (t : Int) (h3 : Src w v3 (bh.map bV)) : Calls Try.prog 6 #[v0, v1, .int .i64 t, v3] w (TruePost w) := by
  obtain ⟨a0, c0, rfl⟩ := h0.len
  obtain ⟨a1, c1, rfl⟩ := h1.len
  obtain ⟨a3, c3, rfl⟩ := h3.len
  simp only [List.length_map] at h0 h1 h3 ⊢
  by_cases hf : 1000 < l.length ∨ 1000 < us.length ∨ 1000 < bh.length
  · exact back_far (v0 := .bool true) (v1 := .bool true) (v3 := .bool true) hf
  obtain ⟨ll, hll⟩ : ∃ ll, ll = l.length := ⟨_, rfl⟩
  obtain ⟨lu, hlu⟩ : ∃ lu, lu = us.length := ⟨_, rfl⟩
  obtain ⟨lb, hlb⟩ : ∃ lb, lb = bh.length := ⟨_, rfl⟩
  rw [← hll, ← hlu, ← hlb] at hf
  rw [← hll] at h0 ⊢
  rw [← hlu] at h1 ⊢
  rw [← hlb] at h3 ⊢
  have hd : decide (1000 < ll) = false := decide_eq_false (by omega)
  have hd' : decide ((1000 : Int) < (ll : Int)) = false := decide_eq_false (by omega)
  have he : decide (1000 < lu) = false := decide_eq_false (by omega)
  have he' : decide ((1000 : Int) < (lu : Int)) = false := decide_eq_false (by omega)
  have hg : decide (1000 < lb) = false := decide_eq_false (by omega)
  have hg' : decide ((1000 : Int) < (lb : Int)) = false := decide_eq_false (by omega)
  have hb1 : (ll : Int) ≤ 1000 := by omega
  have hb2 : (lu : Int) ≤ 1000 := by omega
  have hb4 : (lb : Int) ≤ 1000 := by omega
  have HL := Lib.hid hl; have HU := Lib.hid hu
  have H0 := Lib.hid h0; have H1 := Lib.hid h1; have H3 := Lib.hid h3
  have HLL := Lib.hid hll; have HLU := Lib.hid hlu; have HLB := Lib.hid hlb
  obtain ⟨wd, hwd⟩ : ∃ wd, wd = widP us := ⟨_, rfl⟩
  have hw64 : wd ≤ 64 := by rw [hwd]; exact widP_64 us
  obtain ⟨k, hk, hand⟩ := and_mask t 63 (by decide)
  have hand' : bits .and .i64 t 63 = (k : Int) := hand
  have HWD := Lib.hid hwd
  have hk0 : 0 ≤ (k : Int) := by omega
  have hk1 : (k : Int) ≤ 63 := by omega
  have hwd1 : (wd : Int) ≤ 64 := by omega
  have hwd0 : 0 ≤ (wd : Int) := by omega
  obtain ⟨pl, hpl⟩ : ∃ pl, pl = (putP l).length := ⟨_, rfl⟩
  have hpb : pl ≤ 1035 * 1000 := by
    have := put_most l.length l rfl hl
    omega
  have HPL := Lib.hid hpl
  have hpb1 : (pl : Int) ≤ 1035000 := by omega
  clear hl hu h0 h1 h3 hll hlu hlb hf hwd hand hpl
  go_enter Try.func6, Try.ntmps6
  go_wp2_with fail
  refine (awake_any _).mono ?_
  rintro e w1 ⟨rfl, hb1'⟩
  have HB1 := Lib.hid hb1'
  have HPUT := Lib.hid (put_any (H0.out.below hb1') HL.out (by have := HLL.out; omega))
  clear hb1'
  go_wp2_with fail
  refine HPUT.out.mono ?_
  rintro e w2 ⟨v2, rfl, ho2, hb2'⟩
  have HB2 := Lib.hid (HB1.out.trans hb2')
  rw [← HPL.out] at ho2
  obtain ⟨o2, n2, c2, rfl⟩ := row_form ho2
  obtain rfl := row_len ho2 rfl
  have HPUT2 := Lib.hid (put_any (H0.out.below HB2.out) HL.out (by have := HLL.out; omega))
  clear ho2 hb2'
  go_wp2_with fail
  refine HPUT2.out.mono ?_
  rintro e w3 ⟨v3', rfl, ho3, hb3'⟩
  have HB3 := Lib.hid (HB2.out.trans hb3')
  have HO3 := Lib.hid (row_base ho3 HB2.out.size)
  obtain ⟨o3, n3, cc3, rfl⟩ := row_form ho3
  clear ho3 hb3'
  go_wp2_with (at_builtin; refine append_bytes rfl (.tmp 41) (.tmp 42) rfl w.heap.size _ (putP l).length (putP l) rfl HO3.out _ rfl bh (H3.out.below HB3.out) ?_ ?_ ?_)
  · rw [← HPL.out, ← HLB.out]; omega
  · exact HB3.out.size
  intro v4 w4 ho4 hg4
  have HB4 := Lib.hid (bw_grown HB3.out hg4 (row_own HO3.out))
  have HO4 : Hid (Src w4 v4 ((putP l ++ bh).map bV)) := by
    unfold Hid
    have : w4.ownsRow w.heap.size 5 1 v4 ((putP l).length + bh.length) ((putP l ++ bh).map bV) := by simpa using ho4
    exact Src.of_row this
  have HGET := Lib.hid (get_any HO4.out ll (by omega))
  have HGP : Hid (getP (putP l ++ bh) ll = some (l, n2)) := by unfold Hid; rw [HLL.out, HPL.out]; exact get_put HL.out bh
  obtain ⟨o4, n4, cc4, rfl⟩ := row_form ho4
  clear ho4 hg4
  go_wp2_with fail
  refine HGET.out.mono ?_
  rintro e w5 hh
  obtain ⟨v5, rfl, hb5, ho5⟩ := get_yes hh HGP.out
  have HB5 := Lib.hid (HB4.out.trans hb5)
  have HI := Lib.hid (ints_true (Src.of_row ho5) (H0.out.below HB5.out))
  have hne : ((n2 : Int) != (n2 : Int)) = false := by simp
  clear hh hb5 ho5
  go_wp2_with fail
  refine HI.out.mono ?_
  rintro e w6 ⟨rfl, m6, hw6⟩
  have HB6 : Hid (BW w w6) := by rw [hw6]; exact bw_drew HB5.out m6
  have HWID := Lib.hid (width_any (H1.out.below HB6.out) HU.out)
  unfold WidPost at HWID
  rw [← HWD.out] at HWID
  clear hw6
  go_wp2_with fail
  refine HWID.out.mono ?_
  rintro e w7 ⟨rfl, m7, hw7⟩
  have HB7 : Hid (BW w w7) := by rw [hw7]; exact bw_drew HB6.out m7
  clear hw7
  have hlt : ∀ x ∈ us, x < 2 ^ wd := by rw [HWD.out]; exact (widP_le HU.out).1 (Nat.le_refl _)
  obtain ⟨q, hq64, hq1, hq2⟩ : ∃ q, q ≤ 64 ∧ (∀ x ∈ us, x < 2 ^ q) ∧ (if 64 < wd + k then q = 64 else q = wd + k) := by
    by_cases hc : 64 < wd + k
    · exact ⟨64, Nat.le_refl _, fun x hx => HU.out x hx, by rw [if_pos hc]⟩
    · exact ⟨wd + k, by omega, fun x hx => Nat.lt_of_lt_of_le (hlt x hx) (Nat.pow_le_pow_right (by decide) (by omega)), by rw [if_neg hc]⟩
  have HBITS := Lib.hid (bits_any (H1.out.below HB7.out) HU.out (by have := HLU.out; omega) q hq64)
  have HUB : Hid (unbitsP (bitsP us q) q lu = some us) := by unfold Hid; rw [HLU.out]; exact unbits_bits hq1
  have HFIN : Hid (∀ (W : World) (v : Value), BW w W → Src W v ((bitsP us q).map bV) → Calls Try.prog 14 #[v, .int .i64 (q : Int), .int .i64 (lu : Int)] W (UnbPost W (bitsP us q) q lu)) := fun W v hb hs => unbits_any hs q lu hq64 (by omega)
  clear hlt hq1
  by_cases hc : 64 < wd + k
  · rw [if_pos hc] at hq2
    have hdc : decide ((64 : Int) < (wd : Int) + (k : Int)) = true := decide_eq_true (by omega)
    have hdc2 : decide (64 < wd + k) = true := decide_eq_true hc
    have hxq : (q : Int) = 64 := by omega
    rw [hxq] at HBITS HFIN
    clear hc hq2 hxq
    go_wp2_with fail
    refine HBITS.out.mono ?_
    rintro e w8 ⟨v8, rfl, ho8, hb8⟩
    have HB8 := Lib.hid (HB7.out.trans hb8)
    have HUN := Lib.hid (HFIN.out w8 v8 HB8.out (Src.of_row ho8))
    clear ho8 hb8
    go_wp2_with fail
    refine HUN.out.mono ?_
    rintro e w9 hh
    obtain ⟨v9, rfl, hb9, ho9⟩ := unb_yes hh HUB.out
    have HB9 := Lib.hid (HB8.out.trans hb9)
    have HIU := Lib.hid (uints_true (Src.of_row ho9) (H1.out.below HB9.out))
    clear hh hb9 ho9
    go_wp2_with fail
    refine HIU.out.mono ?_
    rintro e w10 ⟨rfl, m10, hw10⟩
    have HB10 : Hid (BW w w10) := by rw [hw10]; exact bw_drew HB9.out m10
    clear hw10
    go_wp2
    go_ret
    exact ⟨rfl, HB10.out⟩
  · rw [if_neg hc] at hq2
    have hdc : decide ((64 : Int) < (wd : Int) + (k : Int)) = false := decide_eq_false (by omega)
    have hdc2 : decide (64 < wd + k) = false := decide_eq_false hc
    have hxq : (q : Int) = (wd : Int) + (k : Int) := by omega
    rw [hxq] at HBITS HFIN
    clear hc hq2 hxq
    go_wp2_with fail
    refine HBITS.out.mono ?_
    rintro e w8 ⟨v8, rfl, ho8, hb8⟩
    have HB8 := Lib.hid (HB7.out.trans hb8)
    have HUN := Lib.hid (HFIN.out w8 v8 HB8.out (Src.of_row ho8))
    clear ho8 hb8
    go_wp2_with fail
    refine HUN.out.mono ?_
    rintro e w9 hh
    obtain ⟨v9, rfl, hb9, ho9⟩ := unb_yes hh HUB.out
    have HB9 := Lib.hid (HB8.out.trans hb9)
    have HIU := Lib.hid (uints_true (Src.of_row ho9) (H1.out.below HB9.out))
    clear hh hb9 ho9
    go_wp2_with fail
    refine HIU.out.mono ?_
    rintro e w10 ⟨rfl, m10, hw10⟩
    have HB10 : Hid (BW w w10) := by rw [hw10]; exact bw_drew HB9.out m10
    clear hw10
    go_wp2
    go_ret
    exact ⟨rfl, HB10.out⟩
end Go.Proofs.Ytdoliejihinpkaa
