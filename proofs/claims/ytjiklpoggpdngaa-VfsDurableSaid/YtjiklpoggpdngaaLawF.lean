/- VfsDurable: the walk. -/
import Derived.Test.YtjiklpoggpdngaaLawE
namespace Go.Proofs.Ytjiklpoggpdngaa
open Go.RowKit Go.Maps Go.Sort

def DurPost (w : World) (e : Ending) (w' : World) : Prop := e = .returned (.bool true) ∧ BW w w'

theorem synced0 {S : DS} (hc : Calm S) : Synced S 0 S := ⟨rfl, hc, by omega, by omega, fun _ => rfl, fun i _ h => absurd h (Nat.not_lt_zero _)⟩

set_option maxHeartbeats 20000000 in
set_option maxRecDepth 100000 in
theorem durable_any {w : World} {v1 v2 v3 : Value} {l1 l2 : List Stp} {cs : List Int} (h1 : Steps (fun b => b < w.heap.size) w v1 l1) (h2 : Steps (fun b => b < w.heap.size) w v2 l2) (h3 : Src w v3 (cs.map iV)) (hcs : ∀ c ∈ cs, -9223372036854775808 ≤ c ∧ c ≤ 9223372036854775807)
    (hl1 : (l1.length : Int) ≤ 140737488351232) (hl2 : (l2.length : Int) ≤ 140737488351232) : Calls Try.prog 5 #[v1, v2, v3] w (DurPost w) := by
  obtain ⟨o1, c1, rfl⟩ := h1.len
  obtain ⟨o2, c2, rfl⟩ := h2.len
  obtain ⟨o3, c3, rfl⟩ := h3.len
  have HS1 := Lib.hid h1; have HS2 := Lib.hid h2; have HS3 := Lib.hid h3; have HCS := Lib.hid hcs
  obtain ⟨n3, hn3⟩ : ∃ n, (cs.map iV).length = n := ⟨_, rfl⟩
  rw [hn3] at HS3 ⊢
  obtain ⟨n1, hn1⟩ : ∃ n, l1.length = n := ⟨_, rfl⟩
  obtain ⟨n2, hn2⟩ : ∃ n, l2.length = n := ⟨_, rfl⟩
  rw [hn1] at HS1 hl1 ⊢
  rw [hn2] at HS2 hl2 ⊢
  have HN1 := Lib.hid hn1; have HN2 := Lib.hid hn2
  clear h1 h2 h3 hcs hn1 hn2 hn3
  by_cases hsum : (n1 : Int) + (n2 : Int) > 300
  · go_enter Try.func5, Try.ntmps5
    go_wp2_with fail
    refine (awake_any _).mono ?_
    rintro e w1 ⟨rfl, hb1⟩
    have HB1 : Hid (BW w w1) := hb1
    clear hb1
    go_wp2_with fail
    go_ret
    exact ⟨rfl, HB1.out⟩
  · go_enter Try.func5, Try.ntmps5
    go_wp2_with fail
    refine (awake_any _).mono ?_
    rintro e w1 ⟨rfl, hb1⟩
    have HB1 : Hid (BW w w1) := hb1
    clear hb1
    go_wp2_with fail
    refine (new_h _).mono ?_
    rintro e w2 ⟨d, rfl, _, hh2⟩
    have H2 := Lib.hid hh2
    clear hh2
    unfold ptr
    go_wp2_with fail
    refine (sure_any (W := w) H2.out (by decide) (U := fun b => b < w.heap.size) (fun b hb => ⟨Nat.lt_of_lt_of_le hb HB1.out.size, HB1.out.block b hb⟩) HB1.out.size HS1.out (by rw [HN1.out]; omega)).mono ?_
    rintro e w3 ⟨rfl, S3, hsr, hh3⟩
    have H3 := Lib.hid hh3
    have HC3 := Lib.hid (hsr.calm calm0)
    have HG3 := Lib.hid (hsr.good calm0 good0)
    have hcnt := hsr.count
    rw [HN1.out] at hcnt
    have HM3 : Hid (S3.calls ≤ 300 ∧ S3.bd ≤ 300) := by
      have e1 : DS0.calls = 0 := rfl
      have e2 : DS0.bd = 0 := rfl
      unfold Hid; omega
    clear hh3 hsr hcnt
    go_wp2_with fail
    refine (list_h H3.out HC3.out (by have := HM3.out; omega)).mono ?_
    rintro e w4 ⟨v8, rfl, hrow, hbl⟩
    obtain ⟨PB4, hp1, hp2, hh4⟩ := H3.out.again hbl
    obtain ⟨no, nn, nc, rfl⟩ := row_form hrow
    obtain ⟨N, hN⟩ : ∃ N, S3.now.length = N := ⟨_, rfl⟩
    have hnn := row_len hrow rfl
    rw [hN] at hnn
    subst hnn
    have HEN := Lib.hid hN
    have HN4 : Hid (Src w4 (.slice no nn nc) ((S3.now.map (·.1)).map encStr)) := Src.of_row hrow
    have HP8 : Hid (∀ a n c, Value.slice no nn nc = .slice (some a) n c → PB4 a.block) := fun a n c e => hp2 _ (row_base' hrow a n c e) (row_lt hrow e)
    have HPB : Hid (∀ b, b < w.heap.size → PB4 b) := fun b hb => hp1 b (Nat.lt_of_lt_of_le hb HB1.out.size)
    have HB4 : Hid (BW w w4) := (HB1.out.holds H3.out).trans hbl
    have H4 := Lib.hid hh4
    have HNL := Lib.hid (H3.out.nl)
    have HAS := Lib.hid (H3.out.asc)
    have hNI : (nn : Int) ≤ 300 := by have := H3.out.nowle; have := HM3.out; have := HEN.out; omega
    clear hrow hbl hp1 hp2 hh4 hN H2 H3
    go_wp2
    go_loopw [9] (fun i wr => ∃ k : Nat, k ≤ nn ∧ i = .int .i64 k ∧ ∃ Sk, Synced S3 k Sk ∧ Holds PB4 w4 wr d Sk) (fun i _ => nn - (intOf i).toNat)
    case atStart => exact ⟨0, Nat.zero_le _, rfl, S3, synced0 HC3.out, H4.out⟩
    case round =>
      obtain ⟨k, hk, rfl, Sk, hsy, hhk⟩ := hrel
      by_cases hlt : k < nn
      · have hkn : k < S3.now.length := by rw [HEN.out]; exact hlt
        obtain ⟨nb, noff, rfl, hcn⟩ : ∃ nb noff, no = some ⟨nb, noff, none⟩ ∧ wr.cell? ⟨nb, noff + k, none⟩ = some (.string ⟨S3.now[k].1.toArray⟩) := by
          obtain ⟨b, off, c, hv, h4⟩ := names_at (HN4.out.keep hhk.size (fun _ a n c e => hhk.same _ (HP8.out a n c e))) hkn
          injection hv with e1 e2 e3
          exact ⟨b, off, e1, h4⟩
        have hs : (⟨S3.now[k].1.toArray⟩ : ByteArray).size ≤ maxLen := by
          rw [← ByteArray.size_data, ← Array.length_toList]; exact HNL.out _ (List.getElem_mem hkn)
        have hsm : Sm Sk := by have := hsy.calls; have := hsy.bd; have := HM3.out; exact ⟨by omega, by omega⟩
        have hsync := sync_h hhk hsm _ hs
        rw [show (⟨S3.now[k].1.toArray⟩ : ByteArray).data.toList = S3.now[k].1 from rfl] at hsync
        have HSY := Lib.hid (hsy.next hkn (HG3.out.now _ (List.getElem_mem hkn)) HAS.out)
        obtain ⟨nm, hnm⟩ : ∃ nm : ByteArray, nm = ⟨S3.now[k].1.toArray⟩ := ⟨_, rfl⟩
        rw [← hnm] at hsync hcn
        have HCALL := Lib.hid hsync
        clear hsy hhk hs hsm hsync hnm
        go_wp2_with fail
        refine HCALL.out.mono ?_
        rintro e w5 ⟨rfl, hh5⟩
        have HH5 := Lib.hid hh5
        clear hh5
        go_wp2
        go_roundw
        case rel => exact ⟨k + 1, by omega, by go_num, _, HSY.out, HH5.out⟩
        case measure => simp [intOf]; omega
      · have hk2 : nn = k := by omega
        subst hk2
        have HH := Lib.hid hhk
        rw [← HEN.out] at hsy
        obtain ⟨_, had, hcl, hbd⟩ := allDur hsy
        have hsm : Sm Sk := by have := hsy.calls; have := hsy.bd; have := HM3.out; have := HEN.out; exact ⟨by omega, by omega⟩
        have HM5 : Hid ((opSyncDir Sk).2.calls ≤ 700 ∧ (opSyncDir Sk).2.bd ≤ 700) := by
          have := hsy.calls; have := hsy.bd; have := HM3.out; have := HEN.out; unfold Hid; omega
        have HAD := Lib.hid had
        have HSM := Lib.hid hsm
        have hsd := syncdir_h HH.out hsm
        obtain ⟨S5, hS5⟩ : ∃ S5, S5 = (opSyncDir Sk).2 := ⟨_, rfl⟩
        obtain ⟨r5, hr5⟩ : ∃ r5, r5 = (opSyncDir Sk).1 := ⟨_, rfl⟩
        rw [← hS5] at HAD HM5 hsd
        rw [← hr5] at hsd
        have HSD := Lib.hid hsd
        clear hsy hhk had hcl hbd hsm hsd hS5 hr5 HH HSM hlt hk
        go_wp2_with fail
        refine HSD.out.mono ?_
        rintro e w5 ⟨rfl, hh5⟩
        have HH5 := Lib.hid hh5
        clear hh5 HSD
        have HB5 : Hid (BW w w5) := RowKit.Below.trans HB4.out (HH5.out.below HPB.out)
        go_wp2_with fail
        refine (crash_h (cs := cs) HH5.out (by have := HM5.out; exact ⟨by omega, by omega⟩) (HS3.out.below HB5.out) HCS.out).mono ?_
        rintro e w6 ⟨dc, Sc, rfl, hh6, hcr⟩
        have HDC := Lib.hid hh6
        have HCR := Lib.hid (crash_all HAD.out hcr)
        have HCC := Lib.hid (crashed_calm hcr)
        have HD6 : Hid (Holds PB4 w4 w6 d S5) := HH5.out.across hh6
        have HB6 : Hid (BW w w6) := HB5.out.holds hh6
        have HN6 : Hid (Src w6 (.slice no nn nc) ((S3.now.map (·.1)).map encStr)) := HN4.out.keep HD6.out.size (fun _ a n c e => HD6.out.same _ (HP8.out a n c e))
        have HRD := Lib.hid (alldur_read HD6.out HAD.out HG3.out.now)
        clear hh6 hcr HH5
        obtain ⟨i0, hi, hz0, hz1, hz2⟩ := infoOf info_bytes
        have HI := Lib.hid hi; have HZ0 := Lib.hid hz0; have HZ1 := Lib.hid hz1; have HZ2 := Lib.hid hz2
        clear hi hz0 hz1 hz2
        have H5L : Hid (S5.now.length = nn) := by unfold Hid; rw [HAD.out.now]; exact HEN.out
        unfold ptr
        go_wp2
        go_loopw [11, 12, 13, 14] (fun acc i _ _ wr => ∃ k : Nat, k ≤ nn ∧ i = .int .i64 k ∧ Coll w6.heap.size wr S5 acc k ∧ BW w6 wr) (fun _ i _ _ _ => nn - (intOf i).toNat)
        case atStart => exact ⟨0, Nat.zero_le _, rfl, Coll.start _ _ _, BW.refl _⟩
        case round =>
          obtain ⟨k, hk, rfl, hcl, hB⟩ := hrel
          by_cases hlt : k < nn
          · have hkn : k < S3.now.length := by rw [HEN.out]; exact hlt
            obtain ⟨nb, noff, rfl, hcn⟩ : ∃ nb noff, no = some ⟨nb, noff, none⟩ ∧ wr.cell? ⟨nb, noff + k, none⟩ = some (.string ⟨S3.now[k].1.toArray⟩) := by
              obtain ⟨b, off, c, hv, h4⟩ := names_at (HN6.out.below hB) hkn
              injection hv with e1 e2 e3
              exact ⟨b, off, e1, h4⟩
            have hs : (⟨S3.now[k].1.toArray⟩ : ByteArray).size ≤ maxLen := by
              rw [← ByteArray.size_data, ← Array.length_toList]; exact HNL.out _ (List.getElem_mem hkn)
            have hread := read_h (HD6.out.moved hB) _ hs
            have h5k : k < S5.now.length := by rw [H5L.out]; exact hlt
            rw [show (⟨S3.now[k].1.toArray⟩ : ByteArray).data.toList = S5.now[k].1 by simp only [HAD.out.now]] at hread
            obtain ⟨nm, hnm⟩ : ∃ nm : ByteArray, nm = ⟨S3.now[k].1.toArray⟩ := ⟨_, rfl⟩
            rw [← hnm] at hread hcn
            have HRE := Lib.hid hread; have HCL := Lib.hid hcl; have HBR := Lib.hid hB; have H5K := Lib.hid h5k
            clear hs hread hnm hcl hB
            go_wp2_with fail
            refine HRE.out.mono ?_
            rintro e wa ⟨v2, rfl, hrow2, hbl2⟩
            have hba : BW wr (wa.alloc (.cells #[v2] 30)) := (show BW wr wa from hbl2).alloc _
            obtain ⟨vs, g1, g2, g3⟩ := HCL.out.keep hba
            have G1 := Lib.hid g1; have G2 := Lib.hid g2; have G3 := Lib.hid g3
            have HB6A : Hid (BW w6 (wa.alloc (.cells #[v2] 30))) := HBR.out.trans hba
            have HR2 : Hid ((wa.alloc (.cells #[v2] 30)).ownsRow w6.heap.size 5 1 v2 (readR S5 S5.now[k].1).1.length ((readR S5 S5.now[k].1).1.map bV)) := by
              have q := row_keep (w' := wa.alloc (.cells #[v2] 30)) hrow2 (fun a n c e => (bw_alloc wa _).block _ (row_lt hrow2 e))
              obtain ⟨q1, q2 | ⟨gg, cap, cur, hv, hle, r⟩⟩ := q
              · exact ⟨q1, .inl q2⟩
              · exact ⟨q1, .inr ⟨gg, cap, cur, hv, Nat.le_trans HBR.out.size hle, r⟩⟩
            have HBA : Hid (w6.heap.size ≤ (wa.alloc (.cells #[v2] 30)).heap.size) := HB6A.out.size
            obtain ⟨a2, m2, q2, rfl⟩ := row_form hrow2
            have HX1 : Hid (k + 1 ≤ maxLen) := by unfold Hid maxLen; omega
            have HX2 : Hid ((k + 1) * 24 ≤ 140737488355328) := by unfold Hid; omega
            clear hrow2 hbl2 hba g1 g2 g3
            go_wp2_with (at_builtin; refine wpList_append_own _ rfl _ _ 62 rfl w6.heap.size 30 i0 (.slice none 0 0) 1 24 Try.underlying62 HI.out HZ0.out HZ1.out HZ2.out rfl (by decide) _ k vs rfl G2.out ⟨wa.heap.size, 0, none⟩ 1 1 [.slice a2 m2 q2] rfl rfl (cell_one_new _ _ _) (by simp [Value.oneCell']) HX1.out HX2.out HBA.out ?_; intro v' w' hown hgr _; have HOWN := Lib.hid hown; have HGR := Lib.hid hgr; clear hown hgr)
            go_wp2
            go_roundw
            case rel => exact ⟨k + 1, by omega, by go_num, coll_snoc G1.out G2.out G3.out H5K.out HR2.out HGR.out HOWN.out, HB6A.out.grown HGR.out HBA.out (fun b e => by obtain ⟨a', n', c', e3, e4⟩ := own_some e; have := row_base' G2.out a' n' c' e3; omega)⟩
            case measure => simp [intOf]; omega
          · have hk2 : nn = k := by omega
            subst hk2
            have HCL := Lib.hid hcl; have HBR := Lib.hid hB
            clear hcl hB
            have HDC7 := Lib.hid (HDC.out.moved HBR.out)
            have HD7 := Lib.hid (HD6.out.moved HBR.out)
            have HB7 : Hid (BW w wr) := HB6.out.trans HBR.out
            have HN7 := Lib.hid (HN6.out.below HBR.out)
            have hNN : Hid (S3.now.length ≤ 1000000) := by have := HEN.out; unfold Hid; omega
            have HCLN : Hid (Coll w6.heap.size wr S5 u11 S3.now.length) := by unfold Hid; rw [HEN.out]; exact HCL.out
            clear HCL
            go_wp2_with fail
            refine (held_same HDC7.out HCC.out HG3.out.now hNN.out HCR.out.1 HCR.out.2 HN7.out HCLN.out HAD.out.now HRD.out).mono ?_
            rintro e w8 ⟨rfl, hb8⟩
            have HB8 : Hid (BW wr w8) := hb8
            have HD8 := Lib.hid (HD7.out.moved hb8)
            have HCL8 := Lib.hid (HCLN.out.keep hb8)
            clear hb8 HDC7 HDC HCC HCR HD7
            go_wp2_with fail
            refine (held_same HD8.out HAD.out.calm HG3.out.now hNN.out (by rw [HAD.out.now]) (fun i h1 h2 => by rw [HAD.out.bytes]; simp only [HAD.out.now]) (HN7.out.below HB8.out) HCL8.out HAD.out.now HRD.out).mono ?_
            rintro e w9 ⟨rfl, hb9⟩
            have HB9 : Hid (BW wr w9) := HB8.out.trans hb9
            have HB69 : Hid (BW w6 w9) := HBR.out.trans HB9.out
            have HBW9 : Hid (BW w w9) := HB7.out.trans HB9.out
            have HCL9 := Lib.hid (HCL8.out.keep hb9)
            clear hb9 HD8 HCL8 HCLN HB8
            go_wp2
            go_loopw [15] (fun i wr => ∃ k : Nat, k ≤ n2 ∧ i = .int .i64 k ∧ (∀ j (h : j < l2.length), j < k → l2[j].kind ≠ 2 ∧ l2[j].kind ≠ 3) ∧ wr = w9) (fun i _ => n2 - (intOf i).toNat)
            case atStart => exact ⟨0, Nat.zero_le _, rfl, fun j _ h => absurd h (Nat.not_lt_zero _), rfl⟩
            case round =>
              obtain ⟨k, hk, rfl, hkinds, rfl⟩ := hrel
              by_cases hlt : k < n2
              · have hkl : k < l2.length := by rw [HN2.out]; exact hlt
                obtain ⟨b2, off2, rfl, hc2⟩ : ∃ b2 off2, o2 = some ⟨b2, off2, none⟩ ∧ wr.cell? ⟨b2, off2 + k * 9, none⟩ = some (.int .i64 l2[k].kind) := by
                  rcases HS2.out with ⟨ao, cap, hv, h0⟩ | ⟨b, off, cap, hv, hb, _, _, hst⟩
                  · rw [h0] at hkl; simp at hkl
                  · injection hv with e1 e2 e3
                    refine ⟨b, off, e1, ?_⟩
                    exact (World.cell?_of_block (w := w) (a := ⟨b, off + k * 9, none⟩) (HBW9.out.block b hb)).trans ((hst k hkl).2 0 _ rfl)
                obtain ⟨kd, hkd⟩ : ∃ kd, kd = l2[k].kind := ⟨_, rfl⟩
                rw [← hkd] at hc2
                have HK := Lib.hid hkinds; have HKD := Lib.hid hkd
                clear hkinds hkd
                by_cases g2 : kd = 2
                · have e2 : (kd == 2) = true := by rw [g2]; rfl
                  clear g2
                  go_wp2_with fail
                  go_ret
                  exact ⟨rfl, HBW9.out⟩
                by_cases g3 : kd = 3
                · have e2 : (kd == 2) = false := by rw [g3]; rfl
                  have e3 : (kd == 3) = true := by rw [g3]; rfl
                  clear g2 g3
                  go_wp2_with fail
                  go_ret
                  exact ⟨rfl, HBW9.out⟩
                have e2 : (kd == 2) = false := by simpa using g2
                have e3 : (kd == 3) = false := by simpa using g3
                have HG2 := Lib.hid g2; have HG3' := Lib.hid g3
                clear g2 g3
                go_wp2_with fail
                go_roundw
                case rel =>
                  refine ⟨k + 1, by omega, by go_num, fun j h hj => ?_, trivial⟩
                  by_cases hjk : j < k
                  · exact HK.out j h hjk
                  · have : j = k := by omega
                    subst this
                    rw [← HKD.out]; exact ⟨HG2.out, HG3'.out⟩
                case measure => simp [intOf]; omega
              · have hk2 : n2 = k := by omega
                subst hk2
                have HKS : Hid (∀ s ∈ l2, s.kind ≠ 2 ∧ s.kind ≠ 3) := by
                  intro s hs
                  obtain ⟨j, hj, rfl⟩ := List.getElem_of_mem hs
                  exact hkinds j hj (by have := HN2.out; omega)
                obtain ⟨PB9, hq1, hq2, hh9⟩ := HD6.out.again HB69.out
                have HQ1 := Lib.hid hq1; have HQ2 := Lib.hid hq2; have H9 := Lib.hid hh9
                clear hkinds hq1 hq2 hh9
                go_wp2_with fail
                refine (sure_any (W := w) H9.out (by have := HM5.out; exact ⟨by omega, by omega⟩) (U := fun b => b < w.heap.size) (fun b hb => ⟨HQ1.out b (HPB.out b hb), HBW9.out.block b hb⟩) HBW9.out.size HS2.out (by rw [HN2.out]; omega)).mono ?_
                rintro e w10 ⟨rfl, S10, hsr, hh10⟩
                have HNS := Lib.hid (hsr.nosync HKS.out)
                have hcnt := hsr.count
                rw [HN2.out] at hcnt
                have HM10 : Hid (Sm S10) := by have := HM5.out; exact ⟨by omega, by omega⟩
                have H10 := Lib.hid hh10
                clear hsr hh10 hcnt
                go_wp2_with fail
                refine (crash_h (cs := []) H10.out HM10.out (Src.nil _) (by simp)).mono ?_
                rintro e w11 ⟨d11, S11, rfl, hh11, hcr11⟩
                have H11 := Lib.hid hh11
                have HCR11 := Lib.hid (crash_later HAD.out HNS.out hcr11)
                have HCC11 := Lib.hid (crashed_calm hcr11)
                have HB10 : Hid (BW w w10) := RowKit.Below.trans HBW9.out (H10.out.below (fun b hb => HQ1.out b (HPB.out b hb)))
                have HB11 : Hid (BW w w11) := HB10.out.holds hh11
                have hb1011 : BW w10 w11 := hh11.below (fun _ h => h)
                have HN11 : Hid (Src w11 (.slice no nn nc) ((S3.now.map (·.1)).map encStr)) := ((HN7.out.below HB9.out).keep H10.out.size (fun _ a n c e => H10.out.same _ (HQ1.out _ (HP8.out a n c e)))).below hb1011
                have HCL11 := Lib.hid ((HCL9.out.keepB (fun b h1 h2 => H10.out.same _ (HQ2.out b h1 h2))).keep hb1011)
                clear hh11 hcr11 hb1011
                unfold ptr
                go_wp2_with fail
                refine (held_same H11.out HCC11.out HG3.out.now hNN.out HCR11.out.1 HCR11.out.2 HN11.out HCL11.out HAD.out.now HRD.out).mono ?_
                rintro e w12 ⟨rfl, hb12⟩
                have HB12 : Hid (BW w w12) := HB11.out.trans hb12
                clear hb12
                go_wp2_with fail
                go_ret
                exact ⟨rfl, HB12.out⟩
end Go.Proofs.Ytjiklpoggpdngaa
