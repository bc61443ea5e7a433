/- VfsBegins: the walk. -/
import Derived.Test.YtjiklpoggpdngaaLawH
namespace Go.Proofs.Ytjiklpoggpdngaa
open Go.RowKit Go.Maps Go.Sort

theorem bw_drewN {w w' : World} (h : BW w w') (n : Nat) : BW w (w'.drewN n) := ⟨h.os, h.tape, h.output, h.size, h.block⟩

set_option maxHeartbeats 20000000 in
set_option maxRecDepth 100000 in
theorem begins_law {w : World} {v1 v2 : Value} {l1 : List Stp} {cs : List Int} (h1 : Steps (fun b => b < w.heap.size) w v1 l1) (h3 : Src w v2 (cs.map iV)) (hcs : ∀ c ∈ cs, -9223372036854775808 ≤ c ∧ c ≤ 9223372036854775807)
    (hl1 : (l1.length : Int) ≤ 140737488351232) : Calls Try.prog 6 #[v1, v2] w fun e w' => e = .returned (.bool true) ∧ BW w w' := by
  obtain ⟨o1, c1, rfl⟩ := h1.len
  obtain ⟨o3, c3, rfl⟩ := h3.len
  have HS1 := Lib.hid h1; have HS3 := Lib.hid h3; have HCS := Lib.hid hcs
  obtain ⟨n3, hn3⟩ : ∃ n, (cs.map iV).length = n := ⟨_, rfl⟩
  rw [hn3] at HS3 ⊢
  obtain ⟨n1, hn1⟩ : ∃ n, l1.length = n := ⟨_, rfl⟩
  rw [hn1] at HS1 hl1 ⊢
  have HN1 := Lib.hid hn1
  clear h1 h3 hcs hn1 hn3
  by_cases hsum : (n1 : Int) > 300
  · go_enter Try.func6, Try.ntmps6
    go_wp2_with fail
    refine (awake_any _).mono ?_
    rintro e w1 ⟨rfl, hb1⟩
    have HB1 : Hid (BW w w1) := hb1
    clear hb1
    go_wp2_with fail
    go_ret
    exact ⟨rfl, HB1.out⟩
  · go_enter Try.func6, Try.ntmps6
    go_wp2_with fail
    refine (awake_any _).mono ?_
    rintro e w1 ⟨rfl, hb1⟩
    have HB1 : Hid (BW w w1) := hb1
    clear hb1
    go_wp2
    go_loopw [5] (fun i wr => ∃ k : Nat, k ≤ n1 ∧ i = .int .i64 k ∧ (∀ j (h : j < l1.length), j < k → l1[j].kind ≠ 4 ∧ l1[j].kind ≠ 5) ∧ wr = w1) (fun i _ => n1 - (intOf i).toNat)
    case atStart => exact ⟨0, Nat.zero_le _, rfl, fun j _ h => absurd h (Nat.not_lt_zero _), rfl⟩
    case round =>
      obtain ⟨k, hk, rfl, hkinds, rfl⟩ := hrel
      by_cases hlt : k < n1
      · have hkl : k < l1.length := by rw [HN1.out]; exact hlt
        obtain ⟨b2, off2, rfl, hc2⟩ : ∃ b2 off2, o1 = some ⟨b2, off2, none⟩ ∧ wr.cell? ⟨b2, off2 + k * 9, none⟩ = some (.int .i64 l1[k].kind) := by
          rcases HS1.out with ⟨ao, cap, hv, h0⟩ | ⟨b, off, cap, hv, hb, _, _, hst⟩
          · rw [h0] at hkl; simp at hkl
          · injection hv with e1 e2 e3
            refine ⟨b, off, e1, ?_⟩
            exact (World.cell?_of_block (w := w) (a := ⟨b, off + k * 9, none⟩) (HB1.out.block b hb)).trans ((hst k hkl).2 0 _ rfl)
        obtain ⟨kd, hkd⟩ : ∃ kd, kd = l1[k].kind := ⟨_, rfl⟩
        rw [← hkd] at hc2
        have HK := Lib.hid hkinds; have HKD := Lib.hid hkd
        clear hkinds hkd
        by_cases g2 : kd = 4
        · have e2 : (kd == 4) = true := by rw [g2]; rfl
          clear g2
          go_wp2_with fail
          go_ret
          exact ⟨rfl, HB1.out⟩
        by_cases g3 : kd = 5
        · have e2 : (kd == 4) = false := by rw [g3]; rfl
          have e3 : (kd == 5) = true := by rw [g3]; rfl
          clear g2 g3
          go_wp2_with fail
          go_ret
          exact ⟨rfl, HB1.out⟩
        have e2 : (kd == 4) = false := by simpa using g2
        have e3 : (kd == 5) = false := by simpa using g3
        have HG2 := Lib.hid g2; have HG3' := Lib.hid g3
        clear g2 g3
        go_wp2_with fail
        go_roundw
        case rel =>
          refine ⟨k + 1, by omega, by go_num, fun j h hj => ?_, trivial⟩
          by_cases hjk : j < k
          · exact HK.out j h hjk
          · have : j = k := by omega
            subst this
            rw [← HKD.out]; exact ⟨HG2.out, HG3'.out⟩
        case measure => simp [intOf]; omega
      · have hk2 : n1 = k := by omega
        subst hk2
        have HKS : Hid (∀ s ∈ l1, s.kind ≠ 4 ∧ s.kind ≠ 5) := by
          intro s hs
          obtain ⟨j, hj, rfl⟩ := List.getElem_of_mem hs
          exact hkinds j hj (by have := HN1.out; omega)
        clear hkinds
        go_wp2_with fail
        refine (new_h _).mono ?_
        rintro e w2 ⟨d, rfl, _, hh2⟩
        have H2 := Lib.hid hh2
        clear hh2
        unfold ptr
        go_wp2_with fail
        refine (sure_any (W := w) H2.out (by decide) (U := fun b => b < w.heap.size) (fun b hb => ⟨Nat.lt_of_lt_of_le hb HB1.out.size, HB1.out.block b hb⟩) HB1.out.size HS1.out (by rw [HN1.out]; omega)).mono ?_
        rintro e w3 ⟨rfl, S3, hsr, hh3⟩
        have H3 := Lib.hid hh3
        have HC3 := Lib.hid (hsr.calm calm0)
        have HG3 := Lib.hid (hsr.good calm0 good0)
        have HK3 := Lib.hid (hsr.kept HKS.out kept0)
        have hcnt := hsr.count
        rw [HN1.out] at hcnt
        have HM3 : Hid (S3.calls ≤ 300 ∧ S3.bd ≤ 300) := by
          have e1 : DS0.calls = 0 := rfl
          have e2 : DS0.bd = 0 := rfl
          unfold Hid; omega
        have HB3 : Hid (BW w w3) := HB1.out.holds hh3
        clear hh3 hsr hcnt H2 HKS
        go_wp2_with fail
        refine (crash_h (cs := cs) H3.out (by have := HM3.out; exact ⟨by omega, by omega⟩) (HS3.out.below HB3.out) HCS.out).mono ?_
        rintro e w4 ⟨dc, Sc, rfl, hh4, hcr⟩
        have HDC := Lib.hid hh4
        have HCR := Lib.hid hcr
        have HCC := Lib.hid (crashed_calm hcr)
        have HMC : Hid (Sc.calls ≤ 300 ∧ Sc.bd ≤ 300) := by
          have e1 := hcr.1.calls; have e2 := hcr.1.bd; have := HM3.out; unfold Hid; omega
        have HD4 : Hid (Holds (fun b => b < wr.heap.size) wr w4 d S3) := H3.out.across hh4
        have HB4 : Hid (BW w w4) := HB3.out.holds hh4
        have hrs := crash_reads HK3.out H3.out.synle hcr HC3.out HG3.out.now H3.out.asc hh4.asc
        have HRG := Lib.hid hrs.1
        have HRD := Lib.hid hrs.2
        have HSL := Lib.hid H3.out.synle
        clear hh4 hcr H3 hrs
        unfold ptr
        go_wp2_with fail
        refine (list_h HDC.out HCC.out (by have := HMC.out; omega)).mono ?_
        rintro e w5 ⟨v8, rfl, hrow, hbl⟩
        obtain ⟨no, nn, nc, rfl⟩ := row_form hrow
        obtain ⟨N, hN⟩ : ∃ N, Sc.now.length = N := ⟨_, rfl⟩
        have hnn := row_len hrow rfl
        rw [hN] at hnn
        subst hnn
        have HEN := Lib.hid hN
        have HN5 : Hid (Src w5 (.slice no nn nc) ((Sc.now.map (·.1)).map encStr)) := Src.of_row hrow
        have HDC5 := Lib.hid (HDC.out.moved hbl)
        have HD5 := Lib.hid (HD4.out.moved hbl)
        have HB5 : Hid (BW w w5) := HB4.out.trans hbl
        have HNL := Lib.hid HDC.out.nl
        have HASC := Lib.hid HDC.out.asc
        have hNI : (nn : Int) ≤ 300 := by have := HDC.out.nowle; have := HMC.out; have := HEN.out; omega
        clear hrow hbl hN HD4 HDC
        go_wp2
        go_loopw [9, 10, 11, 12, 13] (fun i _ _ _ _ wr => ∃ k : Nat, k ≤ nn ∧ i = .int .i64 k ∧ BW w5 wr) (fun i _ _ _ _ _ => nn - (intOf i).toNat)
        case atStart => exact ⟨0, Nat.zero_le _, rfl, BW.refl _⟩
        case round =>
          obtain ⟨k, hk, rfl, hB⟩ := hrel
          by_cases hlt : k < nn
          · have hkn : k < Sc.now.length := by rw [HEN.out]; exact hlt
            obtain ⟨nb, noff, rfl, hcn⟩ : ∃ nb noff, no = some ⟨nb, noff, none⟩ ∧ wr.cell? ⟨nb, noff + k, none⟩ = some (.string ⟨Sc.now[k].1.toArray⟩) := by
              obtain ⟨b, off, c, hv, h4⟩ := names_at (HN5.out.below hB) hkn
              injection hv with e1 e2 e3
              exact ⟨b, off, e1, h4⟩
            have hs : (⟨Sc.now[k].1.toArray⟩ : ByteArray).size ≤ maxLen := by
              rw [← ByteArray.size_data, ← Array.length_toList]; exact HNL.out _ (List.getElem_mem hkn)
            obtain ⟨l, m, hr1, hr2⟩ := HRD.out k hkn
            have hreadc := read_is (HDC5.out.moved hB) (nm := ⟨Sc.now[k].1.toArray⟩) rfl hs hr2
            have hreadd : ∀ wa, BW wr wa → _ := fun wa hba => read_is ((HD5.out.moved hB).moved hba) (nm := ⟨Sc.now[k].1.toArray⟩) rfl hs hr1
            obtain ⟨nm, hnm⟩ : ∃ nm : ByteArray, nm = ⟨Sc.now[k].1.toArray⟩ := ⟨_, rfl⟩
            rw [← hnm] at hreadc hreadd hcn
            have hcl : nb < wr.heap.size := cell_lt hcn
            have HRC := Lib.hid hreadc; have HRDD := Lib.hid hreadd; have HBR := Lib.hid hB; have HCN := Lib.hid hcn
            clear hs hreadc hreadd hnm hB hkn hr1 hr2
            go_wp2_with fail
            refine HRC.out.mono ?_
            rintro e wa ⟨va, rfl, hsa, hba⟩
            have hcna : wa.cell? ⟨nb, noff + k, none⟩ = some (.string nm) := (World.cell?_of_block (w := wr) (a := ⟨nb, noff + k, none⟩) (hba.block nb hcl)).trans HCN.out
            have HSA := Lib.hid hsa; have HBA := Lib.hid hba
            clear hsa hba
            go_wp2_with fail
            refine (HRDD.out wa HBA.out).mono ?_
            rintro e wb ⟨vb, rfl, hsb, hbb⟩
            have HSB := Lib.hid hsb; have HBB : Hid (BW wr wb) := HBA.out.trans hbb
            have HSA2 := Lib.hid (HSA.out.below hbb)
            clear hsb hbb
            go_wp2_with fail
            refine (begins_true HSA2.out HSB.out (take_self l m)).mono ?_
            rintro e w' ⟨rfl, n4, rfl⟩
            go_wp2
            go_roundw
            case rel => exact ⟨k + 1, by omega, by go_num, HBR.out.trans (bw_drewN HBB.out n4)⟩
            case measure => simp [intOf]; omega
          · have hk2 : nn = k := by omega
            subst hk2
            have HDC6 := Lib.hid (HDC5.out.moved hB)
            have HB6 : Hid (BW w wr) := HB5.out.trans hB
            have HN6 := Lib.hid (HN5.out.below hB)
            clear hB HDC5 HD5
            go_wp2_with fail
            refine (crash_h (cs := cs) HDC6.out (by have := HMC.out; exact ⟨by omega, by omega⟩) (HS3.out.below HB6.out) HCS.out).mono ?_
            rintro e w7 ⟨d2, Sd, rfl, hh7, hcr2⟩
            have HDD := Lib.hid hh7
            have HDCC : Hid (Holds (fun b => b < w3.heap.size) w3 w7 dc Sc) := HDC6.out.across hh7
            have HB7 : Hid (BW w w7) := HB6.out.holds hh7
            have hb67 : BW wr w7 := hh7.below (fun _ h => h)
            have HN7 := Lib.hid (HN6.out.below hb67)
            have htw := crash_twice HK3.out HSL.out HCR.out hcr2 HRG.out HASC.out hh7.asc
            have HTN := Lib.hid htw.1; have HTR := Lib.hid htw.2
            have HC7 := Lib.hid (crashed_calm hcr2)
            have HM7 : Hid (Sd.bd ≤ 300) := by have e2 := hcr2.1.bd; have := HMC.out; unfold Hid; omega
            clear hh7 hcr2 htw hb67 HDC6
            unfold ptr
            go_wp2
            go_loopw [15, 16, 17, 18, 19] (fun i _ _ _ _ wr => ∃ k : Nat, k ≤ nn ∧ i = .int .i64 k ∧ BW w7 wr) (fun i _ _ _ _ _ => nn - (intOf i).toNat)
            case atStart => exact ⟨0, Nat.zero_le _, rfl, BW.refl _⟩
            case round =>
              obtain ⟨k, hk, rfl, hB⟩ := hrel
              by_cases hlt : k < nn
              · have hkn : k < Sc.now.length := by rw [HEN.out]; exact hlt
                obtain ⟨nb, noff, rfl, hcn⟩ : ∃ nb noff, no = some ⟨nb, noff, none⟩ ∧ wr.cell? ⟨nb, noff + k, none⟩ = some (.string ⟨Sc.now[k].1.toArray⟩) := by
                  obtain ⟨b, off, c, hv, h4⟩ := names_at (HN7.out.below hB) hkn
                  injection hv with e1 e2 e3
                  exact ⟨b, off, e1, h4⟩
                have hs : (⟨Sc.now[k].1.toArray⟩ : ByteArray).size ≤ maxLen := by
                  rw [← ByteArray.size_data, ← Array.length_toList]; exact HNL.out _ (List.getElem_mem hkn)
                obtain ⟨l, m, hr1, hr2⟩ := HRD.out k hkn
                have hr3 := (HTR.out k hkn).trans hr2
                have hreadc := read_is (HDCC.out.moved hB) (nm := ⟨Sc.now[k].1.toArray⟩) rfl hs hr2
                have hreadd : ∀ wa, BW wr wa → _ := fun wa hba => read_is ((HDD.out.moved hB).moved hba) (nm := ⟨Sc.now[k].1.toArray⟩) rfl hs hr3
                obtain ⟨nm, hnm⟩ : ∃ nm : ByteArray, nm = ⟨Sc.now[k].1.toArray⟩ := ⟨_, rfl⟩
                rw [← hnm] at hreadc hreadd hcn
                have hcl : nb < wr.heap.size := cell_lt hcn
                have HRC := Lib.hid hreadc; have HRDD := Lib.hid hreadd; have HBR := Lib.hid hB; have HCN := Lib.hid hcn
                clear hs hreadc hreadd hnm hB hkn hr1 hr2 hr3
                go_wp2_with fail
                refine HRC.out.mono ?_
                rintro e wa ⟨va, rfl, hsa, hba⟩
                have hcna : wa.cell? ⟨nb, noff + k, none⟩ = some (.string nm) := (World.cell?_of_block (w := wr) (a := ⟨nb, noff + k, none⟩) (hba.block nb hcl)).trans HCN.out
                have HSA := Lib.hid hsa; have HBA := Lib.hid hba
                clear hsa hba
                go_wp2_with fail
                refine (HRDD.out wa HBA.out).mono ?_
                rintro e wb ⟨vb, rfl, hsb, hbb⟩
                have HSB := Lib.hid hsb; have HBB : Hid (BW wr wb) := HBA.out.trans hbb
                have HSA2 := Lib.hid (HSA.out.below hbb)
                clear hsb hbb
                go_wp2_with fail
                refine (bytes_true HSA2.out HSB.out).mono ?_
                rintro e w' ⟨rfl, n4, rfl⟩
                go_wp2
                go_roundw
                case rel => exact ⟨k + 1, by omega, by go_num, HBR.out.trans (bw_drewN HBB.out n4)⟩
                case measure => simp [intOf]; omega
              · have hk2 : nn = k := by omega
                subst hk2
                have HD8 := Lib.hid (HDD.out.moved hB)
                have HB8 : Hid (BW w wr) := HB7.out.trans hB
                have HN8 := Lib.hid (HN7.out.below hB)
                clear hB HDD HDCC
                go_wp2_with fail
                refine (list_h HD8.out HC7.out (by have := HM7.out; omega)).mono ?_
                rintro e w9 ⟨v9, rfl, hrow, hbl⟩
                have HS9 : Hid (Src w9 v9 ((Sc.now.map (·.1)).map encStr)) := by
                  have := Src.of_row hrow
                  rw [HTN.out] at this
                  exact this
                have HN9 := Lib.hid (HN8.out.below hbl)
                have HB9 : Hid (BW w w9) := HB8.out.trans hbl
                clear hrow hbl
                go_wp2_with fail
                refine (strings_true HS9.out HN9.out).mono ?_
                rintro e w' ⟨rfl, n4, rfl⟩
                go_wp2_with fail
                go_ret
                exact ⟨rfl, bw_drewN HB9.out n4⟩
end Go.Proofs.Ytjiklpoggpdngaa
