/- The program's Open. -/
import Derived.Test.YtaaeaaahllicbaaFrPF
import Derived.Deep.RegionHeld3
namespace Go.Proofs.Ytaaeaaahllicbaa
open Go.RowKit Go.Maps Crc

theorem open_kind {kind : UInt8} {bs : List UInt8} (h : kindP bs ≠ some kind) : openP kind bs = none := open_bad fun hc => h (by
  obtain ⟨h1, h2, _⟩ := hc
  obtain ⟨x0, x1, x2, x3, r, rfl⟩ := four_of bs (by omega)
  simp only [List.take_succ_cons, List.take_zero] at h2
  injection h2 with e0 h2
  injection h2 with e1 h2
  injection h2 with e2 h2
  injection h2 with e3 _
  rw [kindP_cons, if_pos ⟨e0, e1, e2⟩, e3])
theorem open_go {kind : UInt8} {bs : List UInt8} {m : Nat} (h : bs.length = m + 4) (hm : 4 ≤ m) (hk : kindP bs = some kind) (he : bs.drop m = le4 (crcP (bs.take m))) : openP kind bs = restP ((bs.take m).drop 4) := by
  obtain ⟨x0, x1, x2, x3, r, rfl⟩ := four_of bs (by omega)
  rw [kindP_cons] at hk
  split at hk
  · rename_i hx
    injection hk with hk
    obtain ⟨rfl, rfl, rfl⟩ := hx
    subst hk
    obtain ⟨y0, y1, y2, y3, hy⟩ := last4 h
    exact open_yes h hm hy (by rw [← hy]; exact he)
  · cases hk
theorem open_wrong {kind : UInt8} {bs : List UInt8} {m : Nat} (h : bs.length = m + 4) (he : bs.drop m ≠ le4 (crcP (bs.take m))) : openP kind bs = none := by
  obtain ⟨y0, y1, y2, y3, hy⟩ := last4 h
  exact open_check h hy (by rw [← hy]; exact he)
theorem rows_one {W : World} {x : Value} {s : List UInt8} (h : Src W x (s.map bV)) : SrcRows (W.alloc (.cells #[x] 23)) (.slice (some ⟨W.heap.size, 0, none⟩) 1 1) [s] := by
  refine rows_mk (vs := [x]) (src_new W #[x] 23 1 rfl (by decide)) rfl fun i y t hy ht => ?_
  cases i with
  | zero => simp at hy ht; subst hy; subst ht; exact h.below (bw_alloc _ _)
  | succ i => simp at hy

set_option maxHeartbeats 8000000 in
set_option maxRecDepth 100000 in
theorem open_any {w : World} {kind : UInt8} {v : Value} {bs : List UInt8} (h : Src w v (bs.map bV)) (hb : (bs.length : Int) ≤ 140737488351232) : Calls Try.prog 17 #[bV kind, v] w (OpenPost w kind bs) := by
  obtain ⟨ao, cap, rfl⟩ := h.len
  rw [List.length_map] at h ⊢
  obtain ⟨n, hn⟩ : ∃ n, n = bs.length := ⟨_, rfl⟩
  rw [← hn] at h hb ⊢
  have hcap : n ≤ cap := by
    rcases h with ⟨ao', c', e, e2, h5, h6⟩ | ⟨b', off', c', hv, h1, h2, h3, h4⟩
    · injection e with _ e1 _; omega
    · injection hv with _ e1 e2; subst e2; rw [List.length_map] at h1; omega
  have hcapi : (n : Int) ≤ (cap : Int) := by omega
  by_cases hlong : 16777216 < n
  · have hd : decide (16777216 < n) = true := decide_eq_true hlong
    have hd' : decide ((16777216 : Int) < (n : Int)) = true := decide_eq_true (by omega)
    have HL : Hid (16777216 < bs.length) := by unfold Hid; omega
    clear h hn hlong hcap
    go_enter Try.func17, Try.ntmps17
    go_wp2
    go_ret2
    exact ⟨_, _, rfl, BW.refl _, .inl ⟨HL.out, rfl, rfl⟩⟩
  have hd : decide (16777216 < n) = false := decide_eq_false hlong
  have hd' : decide ((16777216 : Int) < (n : Int)) = false := decide_eq_false (by omega)
  have HLE : Hid (bs.length ≤ 16777216) := by unfold Hid; omega
  have hn24 : (n : Int) ≤ 16777216 := by omega
  have HKIND := Lib.hid (kind_w h (by omega))
  have HN := Lib.hid hn
  have H := Lib.hid h
  have HCAP := Lib.hid hcap
  by_cases hkd : kindP bs = some kind
  case neg =>
    have HNO := Lib.hid (open_kind hkd)
    clear h hn hlong hcap
    go_enter Try.func17, Try.ntmps17
    go_wp2_with fail
    refine HKIND.out.mono ?_
    rintro e w' ⟨rfl, ⟨x, hx, rfl⟩ | ⟨hx, rfl⟩⟩
    · have hne := byte_ne (a := x) (b := kind) (fun e => hkd (by rw [hx, e]))
      unfold bV
      clear hkd hx HKIND
      go_wp2
      go_ret2
      exact ⟨_, _, rfl, BW.refl _, .inr (.inl ⟨HLE.out, HNO.out, rfl, rfl⟩)⟩
    · clear hkd hx HKIND
      go_wp2
      go_ret2
      exact ⟨_, _, rfl, BW.refl _, .inr (.inl ⟨HLE.out, HNO.out, rfl, rfl⟩)⟩
  case pos =>
    have hn4 : 4 ≤ n := by
      rcases Nat.lt_or_ge n 4 with h4 | h4
      · rw [kindP_short bs (by omega)] at hkd; cases hkd
      · exact h4
    obtain ⟨m, hm⟩ : ∃ m, m = n - 4 := ⟨_, rfl⟩
    have hmi : (n : Int) - 4 = (m : Int) := by omega
    have hmn : (m : Int) + 4 ≤ (n : Int) := by omega
    have HLM : Hid (bs.length = m + 4) := by unfold Hid; omega
    have HKD := Lib.hid hkd
    have heq := byte_eq kind
    by_cases hsh : m ≤ 3
    · have hs1 : decide ((m : Int) ≤ 3) = true := decide_eq_true (by omega)
      have hs2 : decide (m ≤ 3) = true := decide_eq_true (by omega)
      have HNO : Hid (openP kind bs = none) := open_short (by omega)
      clear h hn hlong hsh hcap hkd hm
      go_enter Try.func17, Try.ntmps17
      go_wp2_with fail
      refine HKIND.out.mono ?_
      rintro e w' ⟨rfl, ⟨x, hx, rfl⟩ | ⟨hx, rfl⟩⟩
      case inr => rw [HKD.out] at hx; cases hx
      rw [HKD.out] at hx
      injection hx with hx
      subst hx
      unfold bV
      clear HKIND
      go_wp2
      go_quiet (fail)
      go_wp2
      go_ret2
      exact ⟨_, _, rfl, bw_drew (BW.refl _) _, .inr (.inl ⟨HLE.out, HNO.out, rfl, rfl⟩)⟩
    have hs1 : decide ((m : Int) ≤ 3) = false := decide_eq_false (by omega)
    have hs2 : decide (m ≤ 3) = false := decide_eq_false (by omega)
    have hm4 : (4 : Int) ≤ (m : Int) := by omega
    have HM4 : Hid (4 ≤ m) := by unfold Hid; omega
    obtain ⟨b0, o0, rfl, hcl⟩ : ∃ b0 o0, ao = some ⟨b0, o0, none⟩ ∧ True := by
      obtain ⟨x0, x1, x2, x3, r, hbs⟩ := four_of bs (by omega)
      obtain ⟨b0, o0, e, _⟩ := h.get (i := 0) (u := bV x0) (by rw [hbs]; rfl)
      exact ⟨b0, o0, e, trivial⟩
    have hcm : ¬ cap = m := by omega
    have hmci : (m : Int) ≤ (cap : Int) := by omega
    have hm0 : (0 : Int) ≤ (m : Int) := by omega
    have hmni : (m : Int) ≤ (n : Int) := by omega
    have HTAIL : Hid (Src w (.slice (some ⟨b0, o0 + m, none⟩) (n - m) (cap - m)) ((bs.drop m).map bV)) := by
      have h1 := h.mid (i := m) (j := n) (by rw [List.length_map]; omega) (by omega)
      rw [List.take_of_length_le (by rw [List.length_drop, List.length_map]; omega), ← List.map_drop] at h1
      exact h1
    have HHEAD : Hid (Src w (.slice (some ⟨b0, o0, none⟩) m cap) ((bs.take m).map bV)) := by
      have h1 := h.mid (i := 0) (j := m) (by rw [List.length_map]; omega) (by omega)
      rw [List.drop_zero, Nat.add_zero, Nat.sub_zero, Nat.sub_zero, ← List.map_take] at h1
      exact h1
    have HMID : Hid (Src w (.slice (some ⟨b0, o0 + 4, none⟩) (m - 4) (cap - 4)) (((bs.take m).drop 4).map bV)) := by
      have h1 := h.mid (i := 4) (j := m) (by rw [List.length_map]; omega) (by omega)
      rw [← List.map_drop, ← List.map_take, ← List.drop_take] at h1
      exact h1
    have hcap4 : ¬ cap = 4 := by omega
    have hcap4i : (4 : Int) ≤ (cap : Int) := by omega
    clear hn hlong hsh hcap hkd hm h hcl
    go_enter Try.func17, Try.ntmps17
    go_wp2_with fail
    refine HKIND.out.mono ?_
    rintro e w' ⟨rfl, ⟨x, hx, rfl⟩ | ⟨hx, rfl⟩⟩
    case inr => rw [HKD.out] at hx; cases hx
    rw [HKD.out] at hx
    injection hx with hx
    subst hx
    unfold bV
    clear HKIND
    go_wp2
    have HSUM : Hid (∀ W, BW w W → Calls Try.prog 13 #[.slice (some ⟨W.heap.size, 0, none⟩) 1 1] (W.alloc (.cells #[.slice (some ⟨b0, o0, none⟩) m cap] 23)) (SumPost (W.alloc (.cells #[.slice (some ⟨b0, o0, none⟩) m cap] 23)) [bs.take m].flatten)) := fun W hW =>
      sum_any (rows_one (HHEAD.out.below hW)) (fun s hs => by
        rw [List.mem_singleton.1 hs, List.length_take]; have := HLM.out; have := HLE.out; omega) (by rw [List.length_singleton]; decide)
    have hc32 := crcP_lt [bs.take m].flatten
    obtain ⟨c, hc⟩ : ∃ c, c = crcP [bs.take m].flatten := ⟨_, rfl⟩
    rw [← hc] at hc32
    have HC : Hid (c = crcP (bs.take m)) := by unfold Hid; rw [hc]; simp
    have HC0 := Lib.hid hc
    have HCF := Lib.hid (fun w => checkForm_any c hc32 w)
    clear hc hc32
    by_cases hck : bs.drop m = le4 c
    case neg =>
      have HCK : Hid ((bs.drop m == le4 c) = false) := by unfold Hid; simpa using hck
      have HNO : Hid (openP kind bs = none) := open_wrong (kind := kind) HLM.out (by rw [← HC.out]; exact hck)
      clear hck
      go_region_held3 (fun _ => True) (first | trivial) (first
        | (go_at_call 13; refine (HSUM.out _ (bw_drew (BW.refl w) 1)).mono ?_; rintro e w3 ⟨rfl, hb3⟩; rw [← HC0.out]; have HB3 : Hid (BW w w3) := ((bw_drew (BW.refl w) 1).alloc _).trans hb3; clear hb3)
        | (go_at_call 26; refine (HCF.out _).mono ?_; rintro e w4 ⟨v4, rfl, ho4, hb4⟩; have HB4 : Hid (BW w w4) := HB3.out.trans hb4; have HS4 := Lib.hid (Src.of_row ho4); obtain ⟨o4, n4, c4, rfl⟩ := row_form ho4; clear ho4 hb4)
        | (go_at_call 31; (refine (equal_any (HTAIL.out.below HB4.out) HS4.out false HCK.out).mono ?_); rintro e w5 ⟨rfl, rfl⟩))
      all_goals
        go_wp2
        go_ret2
        exact ⟨_, _, rfl, HB4.out, .inr (.inl ⟨HLE.out, HNO.out, rfl, rfl⟩)⟩
    case pos =>
      have HCK : Hid ((bs.drop m == le4 c) = true) := by unfold Hid; simpa using hck
      have HYES : Hid (openP kind bs = restP ((bs.take m).drop 4)) := open_go HLM.out HM4.out HKD.out (by rw [← HC.out]; exact hck)
      have HREAD : Hid (∀ W, BW w W → Calls Try.prog 32 #[.slice (some ⟨b0, o0 + 4, none⟩) (m - 4) (cap - 4)] W (SecPost W ((bs.take m).drop 4))) := fun W hW => readSections_any (HMID.out.below hW) (by rw [List.length_drop, List.length_take]; have := HLM.out; have := HLE.out; omega)
      clear hck
      go_region_held3 (fun _ => True) (first | trivial) (first
        | (go_at_call 13; refine (HSUM.out _ (bw_drew (BW.refl w) 1)).mono ?_; rintro e w3 ⟨rfl, hb3⟩; rw [← HC0.out]; have HB3 : Hid (BW w w3) := ((bw_drew (BW.refl w) 1).alloc _).trans hb3; clear hb3)
        | (go_at_call 26; refine (HCF.out _).mono ?_; rintro e w4 ⟨v4, rfl, ho4, hb4⟩; have HB4 : Hid (BW w w4) := HB3.out.trans hb4; have HS4 := Lib.hid (Src.of_row ho4); obtain ⟨o4, n4, c4, rfl⟩ := row_form ho4; clear ho4 hb4)
        | (go_at_call 31; (refine (equal_any (HTAIL.out.below HB4.out) HS4.out true HCK.out).mono ?_); rintro e w5 ⟨rfl, rfl⟩))
      all_goals
        go_wp2_with fail
        refine (HREAD.out _ HB4.out).mono ?_
        rintro e w6 ⟨v6, b6, rfl, hb6, ⟨rfl, ss, vs, hr, hbag⟩ | ⟨rfl, hr⟩⟩
        · have HR := Lib.hid (HYES.out.trans hr)
          have HB6 := Lib.hid (HB4.out.trans hb6)
          have HBAG := Lib.hid (hbag.base HB4.out.size)
          obtain ⟨o6, n6, c6, rfl⟩ := row_form hbag.out
          clear hr hb6 hbag HREAD
          go_wp2
          go_ret2
          exact ⟨_, _, rfl, HB6.out, .inr (.inr ⟨HLE.out, ss, vs, HR.out, rfl, HBAG.out⟩)⟩
        · have HR := Lib.hid (HYES.out.trans hr)
          have HB6 := Lib.hid (HB4.out.trans hb6)
          clear hr hb6 HREAD
          go_wp2
          go_ret2
          exact ⟨_, _, rfl, HB6.out, .inr (.inl ⟨HLE.out, HR.out, rfl, rfl⟩)⟩
end Go.Proofs.Ytaaeaaahllicbaa
