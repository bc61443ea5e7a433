/- pack.readBlock. -/
import Derived.Test.YtdoliejihinpkaaPackK
import Derived.Test.YtdoliejihinpkaaCodL
namespace Go.Proofs.Ytdoliejihinpkaa
open Go.RowKit Go.Maps

def ReadBP (w : World) (r c : Nat) (bs : List UInt8) (n : Nat) (e : Ending) (w' : World) : Prop :=
  ∃ (v : Value) (ok : Bool), e = .returned (.tuple #[v, .bool ok]) ∧ Moves (fun b => b = r) w w' ∧
    ((∃ x m, readP bs n = some (x, m) ∧ ok = true ∧ w'.ownsRow w.heap.size 2 1 v x.length (x.map iV) ∧ Rd w' r c (bs.drop m) 0) ∨ (readP bs n = none ∧ ok = false))
theorem readB_bad {w w' : World} {r c : Nat} {bs : List UInt8} {n : Nat} {v : Value} (h : readP bs n = none) (hm : Moves (fun b => b = r) w w') : ReadBP w r c bs n (.returned (.tuple #[v, .bool false])) w' := ⟨_, _, rfl, hm, .inr ⟨h, rfl⟩⟩

/-- what is left of a block, as its parts are read -/
theorem readP_deco {bs : List UInt8} {n : Nat} (h : deco bs = none) : readP bs n = none := by unfold readP; rw [h]
theorem readP_end {bs : List UInt8} {n u k : Nat} (h : deco bs = some (u, k)) (h2 : bs.drop k = []) : readP bs n = none := by unfold readP; simp only [h, h2]
theorem readP_wide {bs : List UInt8} {n u k : Nat} {c : UInt8} {t : List UInt8} (h : deco bs = some (u, k)) (h2 : bs.drop k = c :: t) (h3 : 64 < c.toNat) : readP bs n = none := by unfold readP; simp only [h, h2]; rw [if_pos (.inl h3)]
theorem readP_short {bs : List UInt8} {n u k : Nat} {c : UInt8} {t : List UInt8} (h : deco bs = some (u, k)) (h2 : bs.drop k = c :: t) (h3 : t.length < packed n c.toNat) : readP bs n = none := by unfold readP; simp only [h, h2]; rw [if_pos (.inr h3)]
theorem readP_bits {bs : List UInt8} {n u k : Nat} {c : UInt8} {t : List UInt8} (h : deco bs = some (u, k)) (h2 : bs.drop k = c :: t) (h3 : unbitsP (t.take (packed n c.toNat)) c.toNat n = none) : readP bs n = none := by
  unfold readP; simp only [h, h2]
  split
  · rfl
  · simp only [h3]
theorem readP_cand {bs : List UInt8} {n u k : Nat} {c : UInt8} {t : List UInt8} {a : List Nat} (h : deco bs = some (u, k)) (h2 : bs.drop k = c :: t) (h3 : ¬ 64 < c.toNat) (h4 : ¬ t.length < packed n c.toNat) (h5 : unbitsP (t.take (packed n c.toNat)) c.toNat n = some a) :
    readP bs n = if minL (candP (back u) a) = back u ∧ widP a = c.toNat then some (candP (back u) a, k + 1 + packed n c.toNat) else none := by
  unfold readP; simp only [h, h2]
  rw [if_neg (by rintro (h | h); exact h3 h; exact h4 h)]
  simp only [h5]

theorem cand_wrap {m : Int} {a : Nat} : IntKind.i64.wrap (IntKind.u64.wrap (IntKind.u64.wrap m + (a : Int))) = w64 (m + (a : Int)) := by
  unfold w64
  rw [IntKind.wrap_i64, IntKind.wrap_u64, IntKind.wrap_u64]
  omega
theorem cand_i64 (m : Int) (a : List Nat) : I64s (candP m a) := by
  intro x hx
  obtain ⟨n, _, rfl⟩ := List.mem_map.1 hx
  exact w64_i64 _
theorem one_row {w : World} {base : Nat} {v : Value} {k : Nat} {l : List UInt8} {ch : UInt8} {t : List UInt8} (hl : l = ch :: t) (hk : (k : Int) = 1) (h : w.ownsRow base 5 1 v k ((l.take k).map bV)) : ∃ g c, v = .slice (some ⟨g, 0, none⟩) 1 c ∧ w.cell? ⟨g, 0, none⟩ = some (.int .u8 (ch.toNat : Int)) := by
  have hk1 : k = 1 := by omega
  subst hk1; subst hl
  obtain ⟨h1, h2 | ⟨g, cp, cur, hv', hg, hh, hn', hc', hcs', htk⟩⟩ := id h
  · exact absurd h2.2 (by decide)
  · exact ⟨g, cp, hv', (row_cell h hv' (i := 0) (by simp)).1⟩

set_option maxRecDepth 100000 in
set_option maxHeartbeats 8000000 in
theorem readBlock_any {w : World} {r c : Nat} {bs : List UInt8} (h : Rd w r c bs 0) (n : Nat) (hn0 : 0 < n) (hn : n ≤ 1048576) : Calls Try.prog 44 #[.pointer (some ⟨r, 0, none⟩), .int .i64 (n : Int)] w (ReadBP w r c bs n) := by
  have HI := Lib.hid (call_I h)
  have hle : (n : Int) ≤ 1048576 := by omega
  have HLT := Lib.hid h.ltr
  have HC := Lib.hid h.lt
  clear h
  go_enter Try.func44, Try.ntmps44
  go_wp2_with fail
  refine HI.out.mono ?_
  rintro e w1 ⟨v1, rfl, hm1, ⟨k1, hq1, hr1⟩ | ⟨hn1, rfl, hr1⟩⟩
  · obtain ⟨u, hd, rfl⟩ : ∃ u, deco bs = some (u, k1) ∧ v1 = .int .i64 (back u) := by
      unfold QD dI at hq1
      cases hd : deco bs with
      | none => rw [hd] at hq1; cases hq1
      | some p => rw [hd] at hq1; cases hq1; exact ⟨p.1, rfl, rfl⟩
    have HD := Lib.hid hd
    obtain ⟨m, hm⟩ : ∃ m, m = back u := ⟨_, rfl⟩
    have HM := Lib.hid hm
    rw [← hm]
    have HM1 := Lib.hid hm1
    have HR1 := Lib.hid hr1
    have HB := Lib.hid (call_B hr1 1 (by decide) (by decide))
    clear hq1 hd hm hm1 hr1
    go_wp2_with fail
    refine HB.out.mono ?_
    rintro e w2 ⟨v2, rfl, hm2, ⟨k2, ⟨hok2, hk2, ho2⟩, hr2⟩ | ⟨hn2, rfl, hr2⟩⟩
    · obtain ⟨ch, t, ht⟩ : ∃ ch t, bs.drop k1 = ch :: t := by
        cases hb : bs.drop k1 with
        | nil => unfold BytesOk at hok2; rw [hb] at hok2; simp at hok2
        | cons ch t => exact ⟨ch, t, rfl⟩
      obtain ⟨g2, c2, rfl, hc2⟩ := one_row ht hk2 ho2
      have hr2' : Rd w2 r c t 0 := by rw [ht, show k2 = 1 by omega] at hr2; exact hr2
      obtain ⟨x2, hx2, _⟩ := hr2'.ex
      have HE := Lib.hid (err_c hx2)
      obtain ⟨wd, hwd⟩ : ∃ wd, wd = ch.toNat := ⟨_, rfl⟩
      rw [← hwd] at hc2
      have HWD := Lib.hid hwd
      have HT := Lib.hid ht
      have HR2 := Lib.hid hr2'
      have HM2 : Hid (Moves (fun b => b = r) w w2) := HM1.out.trans hm2 (fun _ _ h => h)
      clear hok2 hk2 ho2 hr2 hr2' hx2 hwd ht hm2
      by_cases h64 : 64 < wd
      · have hd64 : decide (64 < wd) = true := decide_eq_true h64
        have HN : Hid (readP bs n = none) := readP_wide HD.out HT.out (by rw [← HWD.out]; exact h64)
        go_wp2_with (go_at_call 56; refine HE.out.mono ?_; rintro e w' ⟨rfl, rfl⟩)
        go_ret2
        exact readB_bad HN.out HM2.out
      · have hd64 : decide (64 < wd) = false := decide_eq_false h64
        have hd64i : decide ((64 : Int) < (wd : Int)) = false := decide_eq_false (by omega)
        have hw64 : (wd : Int) ≤ 64 := by omega
        have HP := Lib.hid (packedBytes_any n wd w2 (by omega) (by omega))
        obtain ⟨pn, hpn⟩ : ∃ pn, pn = packed n wd := ⟨_, rfl⟩
        rw [← hpn] at HP
        have hpk : (pn : Int) ≤ 8388608 := by have := packed_le (k := n) (w := wd) (by omega); omega
        have HPN := Lib.hid hpn
        have HB2 := Lib.hid (call_B HR2.out (pn : Int) (by omega) (by omega))
        clear hpn
        go_wp2_with (first | (go_at_call 56; refine HE.out.mono ?_; rintro e w' ⟨rfl, rfl⟩) | (go_at_call 34; refine HP.out.mono ?_; rintro e w' ⟨rfl, rfl⟩))
        refine HB2.out.mono ?_
        rintro e w3 ⟨v3, rfl, hm3, ⟨k3, ⟨hok3, hk3, ho3⟩, hr3⟩ | ⟨hn3, rfl, hr3⟩⟩
        · obtain rfl : k3 = pn := by omega
          have HLO : Hid (¬ t.length < k3) := by unfold Hid; unfold BytesOk at hok3; omega
          have HM3 : Hid (Moves (fun b => b = r) w w3) := HM2.out.trans hm3 (fun _ _ h => h)
          have HR3 := Lib.hid hr3
          have HUB := Lib.hid (unbits_any (Src.of_row ho3) wd n (by omega) hn)
          clear hok3 hk3 ho3 hr3 hm3
          go_wp2_with fail
          refine HUB.out.mono ?_
          rintro e w4 ⟨v4, er, rfl, hb4, ⟨a, ha, rfl, ho4⟩ | ⟨hn4, rfl, rfl⟩⟩
          · have hal := bits_unbits ha
            have HAL := Lib.hid hal.2
            have HCAND := Lib.hid (readP_cand (n := n) HD.out HT.out (by rw [← HWD.out]; omega) (by rw [← HWD.out, ← HPN.out]; exact HLO.out) (by rw [← HWD.out, ← HPN.out]; exact ha))
            have HM4 : Hid (Moves (fun b => b = r) w w4) := HM3.out.trans (Moves.of_below hb4 _) (fun _ _ h => h)
            have HR4 := Lib.hid (HR3.out.below hb4)
            rw [hal.2.1] at ho4
            obtain ⟨g4, c4, rfl⟩ : ∃ g4 c4, v4 = .slice (some ⟨g4, 0, none⟩) n c4 := by
              rcases ho4.2 with ⟨_, h2⟩ | ⟨g, cp, cur, hv', _⟩
              · omega
              · exact ⟨g, cp, hv'⟩
            have HS4 := Lib.hid (Src.of_row ho4)
            have HU64 : Hid (U64s a) := fun x hx => Nat.lt_of_lt_of_le (hal.2.2 x hx) (Nat.pow_le_pow_right (n := 2) (by decide) (show wd ≤ 64 by omega))
            obtain ⟨w5, hrun, hown, hbw⟩ := make_zero (t := 41) (z := .int .i64 0) (bytes := 8) Try.underlying41 info_i64 rfl n (by omega) (by omega) w4
            have HOWN := Lib.hid hown
            have HBW := Lib.hid hbw
            clear ha hal hb4 ho4 hown hbw
            go_wp2
            clear hrun hd64 hd64i
            go_loopg [48] n (fun g s48 wx => ∃ i : Nat, i + g = n ∧ s48 = .int .i64 i ∧ wx.ownsRow w4.heap.size 2 1 (.slice (some ⟨w4.heap.size, 0, none⟩) n n) n ((candP m (a.take i) ++ List.replicate (n - i) 0).map iV) ∧ BW w4 wx)
            case atStart => exact ⟨0, by omega, rfl, by have := HOWN.out; simpa [iV, candP] using this, HBW.out⟩
            case round =>
              obtain ⟨i, hig, rfl, hrow, hbx⟩ := hrel
              have HROW := Lib.hid hrow
              have HBX := Lib.hid hbx
              clear hrow hbx
              cases gk with
              | zero =>
                have hge : (n : Int) ≤ (i : Int) := by omega
                have hin : i = n := by omega
                have HFULL : Hid (wr.ownsRow w4.heap.size 2 1 (.slice (some ⟨w4.heap.size, 0, none⟩) n n) n ((candP m a).map iV)) := by
                  unfold Hid
                  have h1 := HROW.out
                  rw [hin, Nat.sub_self, List.replicate_zero, List.append_nil, List.take_of_length_le (by rw [HAL.out.1]; exact Nat.le_refl _)] at h1
                  exact h1
                have HLEN : Hid ((candP m a).length = n) := by unfold Hid; rw [cand_len]; exact HAL.out.1
                have HMIN := Lib.hid (min_any (Src.of_row HFULL.out) (by intro e; have := HLEN.out; rw [e] at this; simp at this; omega) (cand_i64 m a))
                have HWID := Lib.hid (width_any (HS4.out.below HBX.out) HU64.out)
                have HMV : Hid (∀ nn, Moves (fun b => b = r) w (wr.drewN nn)) := fun nn => moves_drewN (HM4.out.trans (Moves.of_below HBX.out _) (fun _ _ h => h)) nn
                have HMV0 : Hid (Moves (fun b => b = r) w wr) := HM4.out.trans (Moves.of_below HBX.out _) (fun _ _ h => h)
                obtain ⟨ml, hml⟩ : ∃ ml, ml = minL (candP m a) := ⟨_, rfl⟩
                obtain ⟨wl, hwl⟩ : ∃ wl, wl = widP a := ⟨_, rfl⟩
                have HML := Lib.hid hml
                have HWL := Lib.hid hwl
                rw [← hml] at HMIN
                unfold WidPost at HWID
                rw [← hwl] at HWID
                clear hin hml hwl
                by_cases hmm : ml = m
                · have hb1 : (ml == m) = true := by simp [hmm]
                  by_cases hww : wl = wd
                  · have hb2 : ((wl : Int) == (wd : Int)) = true := by simp [hww]
                    have hb3 : (wl == wd) = true := by simp [hww]
                    have HYES : Hid (readP bs n = some (candP m a, k1 + 1 + k3)) := by
                      unfold Hid
                      rw [HCAND.out, ← HM.out, ← HML.out, ← HWL.out, ← HWD.out, ← HPN.out, if_pos ⟨hmm, hww⟩]
                    clear hmm hww
                    go_wp2_with (first | (go_at_call 49; refine HMIN.out.mono ?_; rintro e w' ⟨rfl, rfl⟩) | (go_at_call 16; refine HWID.out.mono ?_; rintro e w' ⟨rfl, nn, rfl⟩))
                    go_ret2
                    refine ⟨_, true, rfl, HMV.out nn, .inl ⟨candP m a, _, HYES.out, rfl, ?_, ?_⟩⟩
                    · rw [HLEN.out]
                      exact row_base (w := wr.drewN nn) HFULL.out HM4.out.size
                    · have h1 := (HR4.out.below HBX.out).below (w' := wr.drewN nn) (drewN_below wr nn)
                      have e1 : bs.drop (k1 + 1 + k3) = t.drop k3 := by
                        rw [Nat.add_assoc, ← List.drop_drop, HT.out, Nat.add_comm 1 k3, List.drop_succ_cons]
                      rw [e1]; exact h1
                  · have hb2 : ((wl : Int) == (wd : Int)) = false := by simp; omega
                    have hb3 : (wl == wd) = false := by simp [hww]
                    have HNO : Hid (readP bs n = none) := by
                      unfold Hid
                      rw [HCAND.out, ← HWL.out, ← HWD.out, if_neg (fun h => hww h.2)]
                    clear hmm hww
                    go_wp2_with (first | (go_at_call 49; refine HMIN.out.mono ?_; rintro e w' ⟨rfl, rfl⟩) | (go_at_call 16; refine HWID.out.mono ?_; rintro e w' ⟨rfl, nn, rfl⟩))
                    go_ret2
                    exact readB_bad HNO.out (HMV.out nn)
                · have hb1 : (ml == m) = false := by simp [hmm]
                  have HNO : Hid (readP bs n = none) := by
                    unfold Hid
                    rw [HCAND.out, ← HM.out, ← HML.out, if_neg (fun h => hmm h.1)]
                  clear hmm
                  go_wp2_with (first | (go_at_call 49; refine HMIN.out.mono ?_; rintro e w' ⟨rfl, rfl⟩))
                  go_ret2
                  exact readB_bad HNO.out HMV0.out
              | succ g =>
                have hi : (i : Int) < (n : Int) := by omega
                have hi0 : (0 : Int) ≤ (i : Int) := by omega
                have hia : i < a.length := by have := HAL.out.1; omega
                obtain ⟨x, hxe⟩ : ∃ x, x = a[i] := ⟨_, rfl⟩
                have hx : a[i]? = some x := by rw [hxe]; exact List.getElem?_eq_getElem hia
                obtain ⟨b0, o0, eb, hc0⟩ := (HS4.out.below HBX.out).get (i := i) (u := .int .u64 (x : Int)) (by rw [List.getElem?_map, hx]; rfl)
                cases eb
                rw [Nat.zero_add] at hc0
                obtain ⟨y, hy⟩ : ∃ y, y = w64 (m + (x : Int)) := ⟨_, rfl⟩
                have hup : IntKind.i64.wrap (IntKind.u64.wrap (IntKind.u64.wrap m + (x : Int))) = y := by rw [cand_wrap, hy]
                obtain ⟨g0, eg, _, _, ⟨x0, hx1, hx2⟩, hfr, hrow3⟩ := own_set (y := .int .i64 y) HROW.out (show i < n by omega) rfl
                cases eg
                have HROW3 : Hid ((wr.setCell ⟨w4.heap.size, i, none⟩ (.int .i64 y)).ownsRow w4.heap.size 2 1 (.slice (some ⟨w4.heap.size, 0, none⟩) n n) n ((candP m (a.take (i + 1)) ++ List.replicate (n - (i + 1)) 0).map iV)) := by
                  unfold Hid
                  rw [show Value.int .i64 y = iV y from rfl, ← List.map_set, fill_set _ _ _ _ _ (by rw [cand_len, List.length_take]; omega) (by omega)] at hrow3
                  have e : candP m (a.take (i + 1)) = candP m (a.take i) ++ [y] := by
                    rw [List.take_succ_eq_append_getElem hia, ← hxe, hy]; unfold candP; rw [List.map_append]; rfl
                  rw [e]; exact hrow3
                have HBX3 : Hid (BW w4 (wr.setCell ⟨w4.heap.size, i, none⟩ (.int .i64 y))) := HBX.out.setCell (Nat.le_refl _) _
                have hx0 : 0 ≤ (x : Int) := by omega
                clear hrow3 hx1 hxe hy hx hia
                go_wp2
                go_roundg g
                case measure => omega
                case rel => exact ⟨i + 1, by omega, by first | rfl | simp, HROW3.out, HBX3.out⟩
          · have HN : Hid (readP bs n = none) := readP_bits HD.out HT.out (by rw [← HWD.out, ← HPN.out]; exact hn4)
            have HM4 : Hid (Moves (fun b => b = r) w w4) := HM3.out.trans (Moves.of_below hb4 _) (fun _ _ h => h)
            clear hb4 hn4
            go_wp2
            go_ret2
            exact readB_bad HN.out HM4.out
        · have HSH : Hid (t.length < pn) := by unfold Hid; unfold BytesOk at hn3; omega
          have HN : Hid (readP bs n = none) := readP_short HD.out HT.out (by rw [← HWD.out, ← HPN.out]; exact HSH.out)
          have HUB := Lib.hid (unbits_any (w := w3) (v := .slice none 0 0) (bs := []) (Src.nil w3) wd n (by omega) hn)
          have HM3 : Hid (Moves (fun b => b = r) w w3) := HM2.out.trans hm3 (fun _ _ h => h)
          clear hn3 hr3 hm3
          go_wp2_with fail
          refine HUB.out.mono ?_
          rintro e w4 ⟨v4, er, rfl, hb4, ⟨a, ha, rfl, ho4⟩ | ⟨hn4, rfl, rfl⟩⟩
          · have h1 := bits_unbits ha
            have h2 := congrArg List.length h1.1
            rw [bitsP_len, h1.2.1] at h2
            have := HPN.out; have := HSH.out
            simp at h2; omega
          · have HM4 : Hid (Moves (fun b => b = r) w w4) := HM3.out.trans (Moves.of_below hb4 _) (fun _ _ h => h)
            clear hb4 hn4
            go_wp2
            go_ret2
            exact readB_bad HN.out HM4.out
    · have HN : Hid (readP bs n = none) := by
        unfold Hid
        refine readP_end HD.out ?_
        unfold BytesOk at hn2
        cases hb : bs.drop k1 with
        | nil => rfl
        | cons ch t => rw [hb] at hn2; exact absurd ⟨by decide, by simp; omega⟩ hn2
      obtain ⟨x2, hx2, _⟩ := hr2.ex
      have HE := Lib.hid (err_c hx2)
      have HM2 : Hid (Moves (fun b => b = r) w w2) := HM1.out.trans hm2 (fun _ _ h => h)
      clear hn2 hr2 hx2 hm2
      go_wp2_with (go_at_call 56; refine HE.out.mono ?_; rintro e w' ⟨rfl, rfl⟩)
      go_ret2
      exact readB_bad HN.out HM2.out
  · have HN : Hid (readP bs n = none) := by
      unfold Hid
      refine readP_deco ?_
      cases hd : deco bs with
      | none => rfl
      | some p => unfold dI at hn1; rw [hd] at hn1; cases hn1
    obtain ⟨x1, hx1, _⟩ := hr1.ex
    have HX1 := Lib.hid hx1
    have HM1 := Lib.hid hm1
    have HB := Lib.hid (call_B_bad hx1 (by decide) 1)
    clear hr1 hn1 hm1 hx1
    go_wp2_with fail
    refine HB.out.mono ?_
    rintro e w2 ⟨rfl, hb2⟩
    have HX2 : Hid (RdC w2 r x1 20) := (hb2.block r (Nat.lt_of_lt_of_le HLT.out HM1.out.size)).trans HX1.out
    have HE := Lib.hid (err_c HX2.out)
    have HM2 : Hid (Moves (fun b => b = r) w w2) := HM1.out.trans (Moves.of_below hb2 _) (fun _ _ h => h)
    clear hb2
    go_wp2_with (go_at_call 56; refine HE.out.mono ?_; rintro e w' ⟨rfl, rfl⟩)
    go_ret2
    exact readB_bad HN.out HM2.out
end Go.Proofs.Ytdoliejihinpkaa
