/- Stage 7, the laws: OrderWritten. -/
import Derived.Test.YtghghekdheeknaaDoorOrdI
namespace Go.Proofs.YtghghekdheeknaaDoor
open Go.RowKit Go.Maps Odr Go.Shelf
attribute [local go_sem] Oper.semAt_some

theorem textN_len (n : Int) (sc : Nat) (h : n.natAbs ≤ 9223372036854775808) (hs : sc ≤ 9) : (textN n sc).length ≤ 40 := by
  have hd : (dec (n.natAbs / 10 ^ sc)).length ≤ 20 := dec_len 20 _ (by omega) (Nat.lt_of_le_of_lt (Nat.div_le_self _ _) (by omega))
  unfold textN
  rw [List.length_append, List.length_append]
  have h1 : (if n < 0 then ([45] : List UInt8) else []).length ≤ 1 := by split <;> simp
  have h2 : (if sc = 0 then ([] : List UInt8) else 46 :: fixd sc (n.natAbs % 10 ^ sc)).length ≤ 10 := by
    split
    · simp
    · rw [List.length_cons, fixd_len]; omega
  omega
set_option maxRecDepth 100000 in
set_option maxHeartbeats 2000000 in
theorem written_bad (a b sc : Int) (ha : i64 a) (hb : i64 b) (hsc : ¬ (0 ≤ sc ∧ sc ≤ 9)) (w : World) (hE : Env w) : Calls Tryd.prog 6 #[.int .i64 a, .int .i64 b, .int .i64 sc] w (TrueB w) := by
  have T1 : Hid (∀ W, Env W → Calls Tryd.prog 11 #[.int .i64 a, .int .i64 sc] W fun e w' => e = .returned (.tuple #[.string ⟨#[]⟩, .int .i64 1]) ∧ BW W w') := fun W h => by
    have := text_any a sc ha.1 ha.2 W h
    rw [show textR a sc = ([], 1) by unfold textR; rw [if_neg hsc]] at this; exact this
  have T2 : Hid (∀ W, Env W → Calls Tryd.prog 11 #[.int .i64 b, .int .i64 sc] W fun e w' => e = .returned (.tuple #[.string ⟨#[]⟩, .int .i64 1]) ∧ BW W w') := fun W h => by
    have := text_any b sc hb.1 hb.2 W h
    rw [show textR b sc = ([], 1) by unfold textR; rw [if_neg hsc]] at this; exact this
  have HE := Lib.hid hE
  have hc : sc < 0 ∨ (0 ≤ sc ∧ 9 < sc) := by omega
  clear hE hsc ha hb
  rcases hc with h | ⟨h, h'⟩
  · go_enter Tryd.func6, Tryd.ntmps6
    go_wp2_with fail
    refine (T1.out _ HE.out).mono ?_
    rintro e W2 ⟨rfl, h2⟩
    have H2 := Lib.hid h2
    clear h2 T1
    go_wp2_with fail
    refine (T2.out _ (HE.out.bw H2.out)).mono ?_
    rintro e W3 ⟨rfl, h3⟩
    have H3 := Lib.hid (H2.out.trans h3)
    clear h3 H2 T2
    have HA := Lib.hid (awake_any W3 (HE.out.bw H3.out))
    go_wp2_with fail
    refine HA.out.mono ?_
    rintro e W4 ⟨rfl, h4⟩
    have H4 := Lib.hid (H3.out.trans h4)
    clear h4 HA H3
    go_wp2
    go_ret
    exact ⟨ret_bool (by simp), H4.out⟩
  · have d9 : decide (sc ≤ 9) = false := decide_eq_false (by omega)
    go_enter Tryd.func6, Tryd.ntmps6
    go_wp2_with fail
    refine (T1.out _ HE.out).mono ?_
    rintro e W2 ⟨rfl, h2⟩
    have H2 := Lib.hid h2
    clear h2 T1
    go_wp2_with fail
    refine (T2.out _ (HE.out.bw H2.out)).mono ?_
    rintro e W3 ⟨rfl, h3⟩
    have H3 := Lib.hid (H2.out.trans h3)
    clear h3 H2 T2
    have HA := Lib.hid (awake_any W3 (HE.out.bw H3.out))
    go_wp2_with fail
    refine HA.out.mono ?_
    rintro e W4 ⟨rfl, h4⟩
    have H4 := Lib.hid (H3.out.trans h4)
    clear h4 HA H3
    go_wp2
    go_ret
    exact ⟨ret_bool (by simp), H4.out⟩
set_option maxRecDepth 100000 in
set_option maxHeartbeats 2000000 in
theorem written_good (a b : Int) (k : Nat) (ha : i64 a) (hb : i64 b) (hk : k ≤ 9) (w : World) (hE : Env w) : Calls Tryd.prog 6 #[.int .i64 a, .int .i64 b, .int .i64 k] w (TrueB w) := by
  have hsc : 0 ≤ (k : Int) ∧ (k : Int) ≤ 9 := by omega
  obtain ⟨sa, hsa⟩ : ∃ s, s = textN a k := ⟨_, rfl⟩
  obtain ⟨sb, hsb⟩ : ∃ s, s = textN b k := ⟨_, rfl⟩
  have la : sa.length ≤ 40 := by rw [hsa]; exact textN_len a k (by have := ha.1; have := ha.2; omega) hk
  have lb : sb.length ≤ 40 := by rw [hsb]; exact textN_len b k (by have := hb.1; have := hb.2; omega) hk
  obtain ⟨ta, hta⟩ : ∃ t, t = ByteArray.mk sa.toArray := ⟨_, rfl⟩
  obtain ⟨tb, htb⟩ : ∃ t, t = ByteArray.mk sb.toArray := ⟨_, rfl⟩
  have va : textV sa = .string ta := by rw [hta]; rfl
  have vb : textV sb = .string tb := by rw [htb]; rfl
  have T1 : Hid (∀ W, Env W → Calls Tryd.prog 11 #[.int .i64 a, .int .i64 (k : Int)] W fun e w' => e = .returned (.tuple #[.string ta, .int .i64 0]) ∧ BW W w') := fun W h => by
    have := text_any a k ha.1 ha.2 W h
    rw [show textR a (k : Int) = (sa, 0) by unfold textR; rw [if_pos hsc, Int.toNat_natCast, hsa]] at this
    rw [← va]; exact this
  have T2 : Hid (∀ W, Env W → Calls Tryd.prog 11 #[.int .i64 b, .int .i64 (k : Int)] W fun e w' => e = .returned (.tuple #[.string tb, .int .i64 0]) ∧ BW W w') := fun W h => by
    have := text_any b k hb.1 hb.2 W h
    rw [show textR b (k : Int) = (sb, 0) by unfold textR; rw [if_pos hsc, Int.toNat_natCast, hsb]] at this
    rw [← vb]; exact this
  have D1 : Hid (∀ W, Env W → Calls Tryd.prog 9 #[.string ta, .int .i64 (k : Int)] W fun e w' => e = .returned (.tuple #[.int .i64 a, .int .i64 0]) ∧ BW W w') := fun W h => by
    have := decimal_any sa k (by omega) W h
    rw [show decR sa (k : Int) = (a, 0) by unfold decR; rw [if_pos hsc, Int.toNat_natCast, hsa, read_written ha.1 ha.2 hk]] at this
    rw [← va]; exact this
  have D2 : Hid (∀ W, Env W → Calls Tryd.prog 9 #[.string tb, .int .i64 (k : Int)] W fun e w' => e = .returned (.tuple #[.int .i64 b, .int .i64 0]) ∧ BW W w') := fun W h => by
    have := decimal_any sb k (by omega) W h
    rw [show decR sb (k : Int) = (b, 0) by unfold decR; rw [if_pos hsc, Int.toNat_natCast, hsb, read_written hb.1 hb.2 hk]] at this
    rw [← vb]; exact this
  have hst : ta.size = sa.length := by rw [hta]; exact text_size sa
  have hsi : (ta.size : Int) ≤ 40 := by omega
  obtain ⟨c, t, hct, hc45⟩ := text_head (n := a) (sc := k)
  rw [← hsa] at hct
  have hpos : 0 < ta.size := by rw [hst, hct]; simp
  have hpi : (0 : Int) < (ta.size : Int) := by omega
  have hx0 : ((ta[0]'hpos).toNat : Int) = (c.toNat : Int) := by
    have h := hta
    rw [hct] at h
    subst h; rfl
  have HPT : Hid (pointF ta.size 0 sa 0 = k) := by unfold Hid; rw [hst, hsa]; exact point_text a k
  have HST := Lib.hid hst
  have HTA := Lib.hid hta
  have hc2 : ((c.toNat : Int) == 45) = decide (a < 0) := by
    by_cases e : a < 0
    · rw [decide_eq_true e, hc45.2 e]; rfl
    · rw [decide_eq_false e]
      have : c ≠ 45 := fun h => e (hc45.1 h)
      have h2 : c.toNat ≠ 45 := fun h => this (UInt8.toNat_inj.1 h)
      simp; omega
  have heq : (ta.toList == tb.toList) = (a == b) := by
    rw [hta, htb, text_list, text_list]
    by_cases e : a = b
    · rw [hsa, hsb, e]; simp
    · have : sa ≠ sb := fun h => e ((text_inj ha hb hk).1 (by rw [← hsa, ← hsb]; exact h))
      rw [beq_eq_false_iff_ne.2 this, beq_eq_false_iff_ne.2 e]
  have HE := Lib.hid hE
  have hk0 : 0 ≤ (k : Int) := hsc.1
  have hk9 : (k : Int) ≤ 9 := hsc.2
  generalize c.toNat = x at hx0 hc2
  obtain ⟨q, hq⟩ : ∃ q : Bool, (a == b) = q := ⟨_, rfl⟩
  rw [hq] at heq
  have HQ := Lib.hid heq; have HQ2 := Lib.hid hq; have HX := Lib.hid hc2; have HX0 := Lib.hid hx0
  clear hsa hsb la lb hta htb va vb hst hct hc45 heq hq hc2 hE hsc hk ha hb hx0
  go_enter Tryd.func6, Tryd.ntmps6
  go_wp2_with fail
  refine (T1.out _ HE.out).mono ?_
  rintro e W2 ⟨rfl, h2⟩
  have H2 := Lib.hid h2
  clear h2 T1
  go_wp2_with fail
  refine (T2.out _ (HE.out.bw H2.out)).mono ?_
  rintro e W3 ⟨rfl, h3⟩
  have H3 := Lib.hid (H2.out.trans h3)
  clear h3 H2 T2
  go_wp2_with fail
  refine (D1.out _ (HE.out.bw H3.out)).mono ?_
  rintro e W4 ⟨rfl, h4⟩
  have H4 := Lib.hid (H3.out.trans h4)
  clear h4 H3 D1
  go_wp2_with fail
  refine (D2.out _ (HE.out.bw H4.out)).mono ?_
  rintro e W5 ⟨rfl, h5⟩
  have H5 := Lib.hid (H4.out.trans h5)
  clear h5 H4 D2
  have HA := Lib.hid (awake_any W5 (HE.out.bw H5.out))
  go_wp2
  go_loopw [15, 16] (fun s15 s16 wr => ∃ (i p : Nat), wr = W5 ∧ i ≤ ta.size ∧ p ≤ 40 ∧ s16 = .int .i64 (i : Int) ∧ s15 = .int .i64 (p : Int) ∧ pointF ta.size i (sa.drop i) p = k) (fun _ s16 _ => ta.size - (intOf s16).toNat)
  case atStart => exact ⟨0, 0, rfl, Nat.zero_le _, Nat.zero_le _, rfl, rfl, HPT.out⟩
  case round =>
    obtain ⟨i, p, rfl, hi, hp, rfl, rfl, hpt⟩ := hrel
    have HPI := Lib.hid hpt
    clear hpt
    have hi0 : 0 ≤ (i : Int) := by omega
    by_cases hlt : i < ta.size
    · have hli : (i : Int) < (ta.size : Int) := by omega
      have hil : i < sa.length := by rw [← HST.out]; exact hlt
      obtain ⟨d, hd⟩ : ∃ d, d = sa[i] := ⟨_, rfl⟩
      have hxi : ((ta[i]'hlt).toNat : Int) = (d.toNat : Int) := by
        rw [hd]; have := HTA.out; subst this; rfl
      have HN : Hid (pointF ta.size (i + 1) (sa.drop (i + 1)) (if d.toNat = 46 then ta.size - i - 1 else p) = k) := by
        have := HPI.out
        rw [List.drop_eq_getElem_cons hil, pointF, ← hd] at this; exact this
      have HLT := Lib.hid hlt
      have hsub : (ta.size : Int) - (i : Int) = ((ta.size - i : Nat) : Int) := by omega
      have hsub2 : ((ta.size - i : Nat) : Int) - 1 = ((ta.size - i - 1 : Nat) : Int) := by omega
      have hpp : ta.size - i - 1 ≤ 40 := by omega
      have HPP := Lib.hid hpp
      generalize ta.size - i - 1 = p2 at HN hsub2 HPP
      generalize ta.size - i = p1 at hsub hsub2
      clear hpp hil hd hi
      by_cases h46 : d.toNat = 46
      · have HN2 : Hid (pointF ta.size (i + 1) (sa.drop (i + 1)) p2 = k) := by have := HN.out; rwa [if_pos h46] at this
        rw [h46] at hxi
        have hxi2 : ((ta[i]'hlt).toNat : Int) = 46 := hxi
        clear hxi h46 HN
        go_wp2
        go_roundw
        case rel => exact ⟨i + 1, p2, by first | rfl | trivial, HLT.out, HPP.out, by first | rfl | go_num, by first | rfl | go_num, HN2.out⟩
        case measure => simp [intOf]; have := HLT.out; omega
      · have HN2 : Hid (pointF ta.size (i + 1) (sa.drop (i + 1)) p = k) := by have := HN.out; rwa [if_neg h46] at this
        have hne : ((d.toNat : Int) == 46) = false := by simp; omega
        clear h46 HN
        have HP := Lib.hid hp
        go_wp2
        go_roundw
        case rel => exact ⟨i + 1, p, by first | rfl | trivial, HLT.out, HP.out, by first | rfl | go_num, by first | rfl | go_num, HN2.out⟩
        case measure => simp [intOf]; have := HLT.out; omega
    · have hli : (ta.size : Int) ≤ (i : Int) := by omega
      obtain rfl : p = k := by
        have := HPI.out
        rw [List.drop_eq_nil_of_le (by have := HST.out; omega), pointF] at this; exact this
      have hx0 := HX0.out
      have hc2 := HX.out
      have hqa := HQ.out
      have hqb := HQ2.out
      clear hlt hi HPI HX0 HX HQ HQ2
      by_cases hneg : a < 0
      · rw [decide_eq_true hneg] at hc2
        cases q with
        | true =>
          go_wp2_with fail
          refine HA.out.mono ?_
          rintro e W6 ⟨rfl, h6⟩
          have H6 := Lib.hid (H5.out.trans h6)
          clear h6 HA
          go_wp2
          go_ret
          exact ⟨ret_bool (by simp), H6.out⟩
        | false =>
          go_wp2_with fail
          refine HA.out.mono ?_
          rintro e W6 ⟨rfl, h6⟩
          have H6 := Lib.hid (H5.out.trans h6)
          clear h6 HA
          go_wp2
          go_ret
          exact ⟨ret_bool (by simp), H6.out⟩
      · rw [decide_eq_false hneg] at hc2
        have hneg2 : 0 ≤ a := by omega
        have da : decide (a < 0) = false := decide_eq_false (by omega)
        clear hneg
        cases q with
        | true =>
          go_wp2_with fail
          refine HA.out.mono ?_
          rintro e W6 ⟨rfl, h6⟩
          have H6 := Lib.hid (H5.out.trans h6)
          clear h6 HA
          go_wp2
          go_ret
          exact ⟨ret_bool (by simp), H6.out⟩
        | false =>
          go_wp2_with fail
          refine HA.out.mono ?_
          rintro e W6 ⟨rfl, h6⟩
          have H6 := Lib.hid (H5.out.trans h6)
          clear h6 HA
          go_wp2
          go_ret
          exact ⟨ret_bool (by simp), H6.out⟩
theorem written_any (a b sc : Int) (ha : i64 a) (hb : i64 b) (w : World) (hE : Env w) : Calls Tryd.prog 6 #[.int .i64 a, .int .i64 b, .int .i64 sc] w (TrueB w) := by
  by_cases h : 0 ≤ sc ∧ sc ≤ 9
  · obtain ⟨k, rfl⟩ : ∃ k : Nat, sc = (k : Int) := ⟨sc.toNat, by omega⟩
    exact written_good a b k ha hb (by omega) w hE
  · exact written_bad a b sc ha hb h w hE
end Go.Proofs.YtghghekdheeknaaDoor
