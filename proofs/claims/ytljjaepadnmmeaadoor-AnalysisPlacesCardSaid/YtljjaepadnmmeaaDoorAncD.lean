/- Stage 6, the laws: the tokens' places. -/
import Derived.Test.YtljjaepadnmmeaaDoorAncC
import Derived.Deep.QuietTactic
import Derived.BigQuiet
namespace Go.Proofs.YtljjaepadnmmeaaDoor
open Go.RowKit Go.Maps Fld Ana Go.Shelf
attribute [local go_sem] Oper.semAt_some

/-- what the law asks of one token, the one before it and its number -/
def placeOk (one : Bool) (s : List UInt8) (T : List Tok) : Prop :=
  (∀ i (h : i < T.length), 0 ≤ T[i].fr ∧ T[i].fr < T[i].en ∧ T[i].en ≤ (s.length : Int) ∧ (one = true → T[i].pos = (i : Int) ∧ T[i].text = (s.drop T[i].fr.toNat).take (T[i].en.toNat - T[i].fr.toNat))) ∧
    ∀ i (h : i + 1 < T.length), T[i].pos ≤ T[i + 1].pos ∧ T[i].fr ≤ T[i + 1].fr
theorem run_places {c : List Int} {s : List UInt8} : placeOk (decide (c.length = 1)) s (runL c s).1 := by
  have hp := run_placed c s
  refine ⟨fun i h => ?_, fun i h => ?_⟩
  · have h1 := hp.1 _ (List.getElem_mem h)
    refine ⟨h1.1, h1.2.1, h1.2.2, fun h2 => ?_⟩
    have hc := of_decide_eq_true h2
    obtain ⟨m, rfl⟩ : ∃ m, c = [m] := by
      match c, hc with
      | [m], _ => exact ⟨m, rfl⟩
    by_cases hk : checkL [m] = 0
    · have hr := run_ok hk s
      have hx : (runL [m] s).1[i]? = some (runL [m] s).1[i] := List.getElem?_eq_getElem h
      generalize (runL [m] s).1[i] = t at hx
      rw [hr] at hx
      split at hx
      · cases hx
      · split at hx
        · cases hx
        · exact toks_own hx
    · have : (runL [m] s).1 = [] := by unfold runL; rw [if_pos hk]
      rw [this] at h; cases h
  · exact List.pairwise_iff_getElem.1 hp.2 i (i + 1) (by omega) h (by omega)
/-- the bools of the two tests, in one token -/
theorem cut_text {s t : List UInt8} {f e : Int} (h0 : 0 ≤ f) (h1 : f ≤ e) (h2 : e ≤ (s.length : Int)) (ht : t = (s.drop f.toNat).take (e.toNat - f.toNat)) (tx : ByteArray) (htx : textV s = .string tx) :
    textV t = .string (tx.extract f.toNat e.toNat) := by
  unfold textV at htx ⊢
  injection htx with htx
  subst htx
  rw [ht]
  congr 1
  apply ByteArray.ext
  apply Array.ext'
  simp [List.take_drop]
set_option maxRecDepth 100000 in
set_option maxHeartbeats 4000000 in
theorem places_any (w : World) (ao : Option Addr) (cap : Nat) (c : List Int) (h : ISrc w ao cap c) (s : List UInt8) (hN : NextOk w) : Calls Tryd.prog 5 #[.slice ao c.length cap, textV s] w (TrueP w) := by
  obtain ⟨n, hn⟩ : ∃ n, n = c.length := ⟨_, rfl⟩
  obtain ⟨tx, htx⟩ : ∃ tx, textV s = .string tx := ⟨_, rfl⟩
  obtain ⟨sl, hsl⟩ : ∃ sl : Nat, sl = s.length := ⟨_, rfl⟩
  have hts : tx.size = sl := by unfold textV at htx; injection htx with e; rw [← e, hsl]; exact text_size s
  have HKN := Lib.hid (known_any w hN)
  obtain ⟨r, hr⟩ : ∃ r, runL c s = r := ⟨_, rfl⟩
  have HRN := Lib.hid (fun W (hW : BW w W) => run_row h hN s n hn hr W hW)
  have hpl := run_places (c := c) (s := s)
  have hln := run_len c s
  have her := run_err (c := c) (s := s)
  rw [hr] at hpl hln her
  rw [htx] at HRN ⊢
  rw [← hn] at hpl ⊢
  have HSL := Lib.hid hsl; have HTX := Lib.hid htx; have HTS := Lib.hid hts
  obtain ⟨T, er⟩ := r
  simp only at hpl hln her
  obtain ⟨m, hm⟩ : ∃ m, m = T.length := ⟨_, rfl⟩
  have hm4 : (m : Int) ≤ 4096 := by omega
  have HM := Lib.hid hm; have HPL := Lib.hid hpl; have HER := Lib.hid her
  unfold Hid at HRN
  simp only [← hm] at HRN
  replace HRN := Lib.hid HRN
  clear h hn htx hr hN hpl hln her hm hsl hts
  go_enter Tryd.func5, Tryd.ntmps5
  go_wp2_with fail
  refine HKN.out.mono ?_
  rintro e w1 ⟨rfl, hq1⟩
  have HQ1 := Lib.hid hq1
  clear hq1
  go_wp2_with fail
  refine (HRN.out _ HQ1.out).mono ?_
  rintro e w2 ⟨ao2, cp2, rfl, hrow2, hq2⟩
  have HQ2 := Lib.hid (HQ1.out.trans hq2)
  have HT2 : Hid (TokSrc w2 (.slice ao2 m cp2) T) := by
    have := HM.out
    unfold Hid; rw [this] at hrow2 ⊢; exact tokSrc_of_row hrow2
  clear hq2 hrow2
  by_cases he : er = 0
  · subst he
    go_wp2
    go_loopw [7] (fun s7 wr => ∃ (k i : Nat), wr = w2.drewN k ∧ i ≤ m ∧ s7 = .int .i64 (i : Int)) (fun s7 _ => m - (intOf s7).toNat)
    case atStart => exact ⟨0, 0, rfl, Nat.zero_le _, rfl⟩
    case round =>
      obtain ⟨k, i, rfl, hi, rfl⟩ := hrel
      by_cases hlt : i < m
      · have hlti : (i : Int) < (m : Int) := by omega
        have hi0 : 0 ≤ (i : Int) := by omega
        have h1 : i < T.length := by rw [← HM.out]; exact hlt
        have HLT := Lib.hid hlt
        have HPI := Lib.hid (HPL.out.1 i h1)
        obtain ⟨b, o, e1, a0, a1, a2, a3⟩ := HT2.out.cells h1
        subst e1
        obtain ⟨xt, hxt⟩ : ∃ z, textV T[i].text = .string z := ⟨_, rfl⟩
        obtain ⟨xp, hxp⟩ : ∃ z, z = T[i].pos := ⟨_, rfl⟩
        obtain ⟨xf, hxf⟩ : ∃ z, z = T[i].fr := ⟨_, rfl⟩
        obtain ⟨xe, hxe⟩ : ∃ z, z = T[i].en := ⟨_, rfl⟩
        rw [hxt] at a0
        rw [← hxp] at a1
        rw [← hxf] at a2
        rw [← hxe] at a3
        have f1 : 0 ≤ xf := by rw [hxf]; exact HPI.out.1
        have f2 : xf < xe := by rw [hxf, hxe]; exact HPI.out.2.1
        have f3 : xe ≤ (tx.size : Int) := by rw [hxe, HTS.out, HSL.out]; exact HPI.out.2.2.1
        have t1 : decide (xf < 0) = false := decide_eq_false (by omega)
        have t2 : decide (xe ≤ xf) = false := decide_eq_false (by omega)
        have t3 : decide ((tx.size : Int) < xe) = false := decide_eq_false (by omega)
        have hf0 : 0 ≤ xe := by omega
        have HXT := Lib.hid hxt; have HXP := Lib.hid hxp; have HXF := Lib.hid hxf; have HXE := Lib.hid hxe
        have HW : Hid (∀ mm, (w2.drewN k).drewN mm = w2.drewN (k + mm)) := fun mm => drewN_drewN w2 k mm
        have HF1 := Lib.hid f1; have HF2 := Lib.hid f2; have HF3 := Lib.hid f3
        have HW2 : Hid (∀ m1 m2, ((w2.drewN k).drewN m1).drewN m2 = w2.drewN (k + m1 + m2)) := fun m1 m2 => by rw [drewN_drewN, drewN_drewN, Nat.add_assoc]
        obtain ⟨q, hq⟩ : ∃ q, q = ((n : Int) == 1) := ⟨_, rfl⟩
        obtain ⟨pe, hpe⟩ : ∃ pe : Bool, pe = (xp != (i : Int)) := ⟨_, rfl⟩
        have hx1 : q = true → pe = false ∧ xt = tx.extract xf.toNat xe.toNat := fun h => by
          have hn1 : decide (n = 1) = true := by
            rw [hq] at h
            have h3 : (n : Int) = 1 := by simpa using h
            exact decide_eq_true (by omega)
          have h5 := HPI.out.2.2.2 hn1
          refine ⟨by rw [hpe, hxp, h5.1]; simp, ?_⟩
          have h6 := cut_text (t := T[i].text) (e := xe) f1 (by omega) (by rw [hxe]; exact HPI.out.2.2.1) (by rw [hxf, hxe]; exact h5.2) tx HTX.out
          rw [hxt] at h6
          exact Value.string.inj h6
        have HQB := Lib.hid hq; have HPE := Lib.hid hpe; have HX1 := Lib.hid hx1
        by_cases h0 : i = 0
        · subst h0
          clear HXT HXP HXF HXE
          clear hxt hxp hxf hxe hlt hi HPI hi0 hlti h1 hq hpe hx1 f1 f2 f3 hf0
          have hlti : (0 : Int) < (m : Int) := by have := HLT.out; omega
          simp only [Nat.zero_mul, Nat.add_zero] at a0 a1 a2 a3
          go_wp2
          go_big_quiet (fail)
          go_wp2
          cases q with
          | false =>
            have q1 : ((n : Int) == 1) = false := HQB.out.symm
            go_big_quiet (fail)
            go_wp2
            go_roundw
            case rel => exact ⟨_, 1, by first | rfl | exact HW.out _ | exact (HW2.out _ _), HLT.out, by first | rfl | go_num⟩
            case measure => simp [intOf]; have := HLT.out; omega
          | true =>
            have q1 : ((n : Int) == 1) = true := HQB.out.symm
            obtain ⟨hpe1, hxt1⟩ := HX1.out rfl
            have d9 : (xt.toList == (tx.extract xf.toNat xe.toNat).toList) = true := by rw [hxt1]; exact beq_self_eq_true _
            clear hxt1
            have hpe2 : (xp != 0) = false := HPE.out.symm.trans hpe1
            clear hpe1
            have f1 := HF1.out
            have f2 := HF2.out
            have f3 := HF3.out
            have f4 : xf ≤ xe := by omega
            have f5 : 0 ≤ xe := by omega
            clear f2
            go_big_quiet (fail)
            go_wp2
            go_roundw
            case rel => exact ⟨_, 1, by first | rfl | exact HW.out _ | exact (HW2.out _ _), HLT.out, by first | rfl | go_num⟩
            case measure => simp [intOf]; have := HLT.out; omega
        · obtain ⟨j, hj⟩ : ∃ j, j + 1 = i := ⟨i - 1, by omega⟩
          have h2 : j < T.length := by omega
          have hpp : T[j].pos ≤ T[i].pos ∧ T[j].fr ≤ T[i].fr := by
            have : ∀ i' (h : i' < T.length), j + 1 = i' → T[j].pos ≤ T[i'].pos ∧ T[j].fr ≤ T[i'].fr := by
              rintro i' h rfl; exact HPL.out.2 j h
            exact this i h1 hj
          obtain ⟨b', o', e1, c0, c1, c2, c3⟩ := HT2.out.cells h2
          injection e1 with e1; injection e1 with e1 e2
          subst e1; subst e2
          obtain ⟨yp, hyp⟩ : ∃ z, z = T[j].pos := ⟨_, rfl⟩
          obtain ⟨yf, hyf⟩ : ∃ z, z = T[j].fr := ⟨_, rfl⟩
          rw [← hyp] at c1 hpp
          rw [← hyf] at c2 hpp
          rw [← hxp, ← hxf] at hpp
          have hi1 : (0 : Int) < (i : Int) := by omega
          have hij : (i : Int) - 1 = (j : Int) := by omega
          have hj0 : 0 ≤ (j : Int) := by omega
          have hjm : (j : Int) < (m : Int) := by omega
          have hwr : IntKind.i64.wrap (j : Int) = (j : Int) := wrap_small _ hj0 (by omega)
          have t4 : decide (0 < i) = true := decide_eq_true (by omega)
          have t5 : decide (xp < yp) = false := decide_eq_false (by omega)
          have t6 : decide (xf < yf) = false := decide_eq_false (by omega)
          clear hpp hyp hyf h2 hj h0 c0 c3
          clear HXT HXP HXF HXE
          clear hxt hxp hxf hxe hlt hi HPI h1 hq hpe hx1 f1 f2 f3 hf0
          go_wp2
          go_big_quiet (fail)
          go_wp2
          cases q with
          | false =>
            have q1 : ((n : Int) == 1) = false := HQB.out.symm
            go_big_quiet (fail)
            go_wp2
            go_roundw
            case rel => exact ⟨_, i + 1, by first | rfl | exact HW.out _ | exact (HW2.out _ _), HLT.out, by first | rfl | go_num⟩
            case measure => simp [intOf]; have := HLT.out; omega
          | true =>
            have q1 : ((n : Int) == 1) = true := HQB.out.symm
            obtain ⟨hpe1, hxt1⟩ := HX1.out rfl
            have d9 : (xt.toList == (tx.extract xf.toNat xe.toNat).toList) = true := by rw [hxt1]; exact beq_self_eq_true _
            clear hxt1
            have hpe2 : (xp != (i : Int)) = false := HPE.out.symm.trans hpe1
            clear hpe1
            have f1 := HF1.out
            have f2 := HF2.out
            have f3 := HF3.out
            have f4 : xf ≤ xe := by omega
            have f5 : 0 ≤ xe := by omega
            clear f2
            go_big_quiet (fail)
            go_wp2
            go_roundw
            case rel => exact ⟨_, i + 1, by first | rfl | exact HW.out _ | exact (HW2.out _ _), HLT.out, by first | rfl | go_num⟩
            case measure => simp [intOf]; have := HLT.out; omega
      · have hle : (m : Int) ≤ (i : Int) := by omega
        have t4 : decide ((m : Int) ≤ 4096) = true := decide_eq_true hm4
        clear hlt
        go_wp2
        go_ret
        exact ⟨rfl, bw_drew HQ2.out k⟩
  · have t1 : (er != 0) = true := by simpa using he
    have hm0 : m = 0 := by have := HM.out; rw [HER.out he] at this; simpa using this
    subst hm0
    go_wp2
    go_ret
    exact ⟨rfl, HQ2.out⟩
end Go.Proofs.YtljjaepadnmmeaaDoor
