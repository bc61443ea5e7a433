/- VfsFails: the walk. -/
import Derived.Test.YtjiklpoggpdngaaLawM
import Derived.Deep.QuietTactic
import Derived.BigQuiet
import Derived.Deep.CutRange
namespace Go.Proofs.Ytjiklpoggpdngaa
open Go.RowKit Go.Maps Go.Sort

set_option maxHeartbeats 20000000 in
set_option maxRecDepth 100000 in
theorem fails_law {w : World} {v1 : Value} {l1 : List Stp} {s : Stp} {e part : Int} (h1 : Steps (fun b => b < w.heap.size) w v1 l1) (hl1 : (l1.length : Int) ≤ 140737488351232) (hs : StpOk w s) (hp : -9223372036854775808 ≤ part ∧ part ≤ 9223372036854775807) :
    Calls Try.prog 7 #[v1, .agg (stpCells s), .int .i64 e, .int .i64 part] w fun en w' => en = .returned (.bool true) ∧ BW w w' := by
  obtain ⟨o1, c1, rfl⟩ := h1.len
  obtain ⟨n1, hn1⟩ : ∃ n, l1.length = n := ⟨_, rfl⟩
  have HS1 := Lib.hid h1; have HOK := Lib.hid hs; have HP := Lib.hid hp
  rw [hn1] at HS1 hl1 ⊢
  have HN1 := Lib.hid hn1
  clear h1 hs hp hn1
  have c0 : (w.alloc (.cells (stpCells s) 33)).cell? ⟨w.heap.size, 0, none⟩ = some (.int .i64 s.kind) := cell_of (heap_new w _) rfl
  obtain ⟨X, hX⟩ : ∃ X, X = stpCells s := ⟨_, rfl⟩
  have HX := Lib.hid hX
  rw [← hX] at c0 ⊢
  have HXI : Hid (BW w (w.alloc (.cells X 33))) := bw_alloc _ _
  clear hX
  by_cases g1 : (n1 : Int) > 200
  · go_enter Try.func7, Try.ntmps7
    go_wp2_with fail
    refine (awake_any _).mono ?_
    rintro e w1 ⟨rfl, hb1⟩
    have HB1 : Hid (BW w w1) := HXI.out.trans hb1
    clear hb1
    go_wp2_with fail
    go_ret
    exact ⟨rfl, HB1.out⟩
  by_cases g2 : e = 0
  · have e2 : (e == 0) = true := by rw [g2]; rfl
    clear g2
    go_enter Try.func7, Try.ntmps7
    go_wp2_with fail
    refine (awake_any _).mono ?_
    rintro e w1 ⟨rfl, hb1⟩
    have HB1 : Hid (BW w w1) := HXI.out.trans hb1
    clear hb1
    go_wp2_with fail
    go_ret
    exact ⟨rfl, HB1.out⟩
  have e2 : (e == 0) = false := by simpa using g2
  have HE := Lib.hid g2
  clear g2
  by_cases g3 : s.kind < 0
  · go_enter Try.func7, Try.ntmps7
    go_wp2_with fail
    refine (awake_any _).mono ?_
    rintro e w1 ⟨rfl, hb1⟩
    have HB1 : Hid (BW w w1) := HXI.out.trans hb1
    clear hb1
    go_wp2_with fail
    go_ret
    exact ⟨rfl, HB1.out⟩
  by_cases g4 : s.kind > 5
  · go_enter Try.func7, Try.ntmps7
    go_wp2_with fail
    refine (awake_any _).mono ?_
    rintro e w1 ⟨rfl, hb1⟩
    have HB1 : Hid (BW w w1) := HXI.out.trans hb1
    clear hb1
    go_wp2_with fail
    go_ret
    exact ⟨rfl, HB1.out⟩
  have HKK : Hid (0 ≤ s.kind ∧ s.kind ≤ 5) := by unfold Hid; omega
  go_enter Try.func7, Try.ntmps7
  go_wp2_with fail
  refine (awake_any _).mono ?_
  rintro en w1 ⟨rfl, hb1⟩
  have HB01 : Hid (BW (w.alloc (.cells X 33)) w1) := hb1
  have HB1 : Hid (BW w w1) := HXI.out.trans hb1
  have HBX : Hid (w1.heap[w.heap.size]? = some (.cells X 33 (0, 0))) := (hb1.block _ (by simp)).trans (heap_new w _)
  have HLX : Hid (w.heap.size < w1.heap.size) := by have := hb1.size; simp at this; unfold Hid; omega
  clear hb1 g3 g4 c0
  go_wp2_with fail
  refine (new_h _).mono ?_
  rintro en w2 ⟨d, rfl, _, hh2⟩
  have H2 := Lib.hid hh2
  clear hh2
  unfold ptr
  go_wp2_with fail
  refine (sure_any (W := w) H2.out (by decide) (U := fun b => b < w.heap.size) (fun b hb => ⟨Nat.lt_of_lt_of_le hb HB1.out.size, HB1.out.block b hb⟩) HB1.out.size HS1.out (by rw [HN1.out]; omega)).mono ?_
  rintro en w3 ⟨rfl, S3, hsr, hh3⟩
  have H3 := Lib.hid hh3
  have HC3 := Lib.hid (hsr.calm calm0)
  have HG3 := Lib.hid (hsr.good calm0 good0)
  have hcnt := hsr.count
  rw [HN1.out] at hcnt
  have HM3 : Hid (S3.calls ≤ 300 ∧ S3.bd ≤ 300) := by
    have e1 : DS0.calls = 0 := rfl
    have e2 : DS0.bd = 0 := rfl
    unfold Hid; omega
  clear hh3 hsr hcnt H2
  go_wp2_with fail
  refine (list_h H3.out HC3.out (by have := HM3.out; omega)).mono ?_
  rintro en w4 ⟨v8, rfl, hrow, hbl⟩
  obtain ⟨PB4, hp1, hp2, hh4⟩ := H3.out.again hbl
  obtain ⟨no, nn, nc, rfl⟩ := row_form hrow
  obtain ⟨N, hN⟩ : ∃ N, S3.now.length = N := ⟨_, rfl⟩
  have hnn := row_len hrow rfl
  rw [hN] at hnn
  subst hnn
  have HEN := Lib.hid hN
  have HN4 : Hid (Src w4 (.slice no nn nc) ((S3.now.map (·.1)).map encStr)) := Src.of_row hrow
  have HP8 : Hid (∀ a n c, Value.slice no nn nc = .slice (some a) n c → PB4 a.block) := fun a n c e => hp2 _ (row_base' hrow a n c e) (row_lt hrow e)
  have HPB : Hid (∀ b, b < w1.heap.size → PB4 b) := fun b hb => hp1 b hb
  have HB14 : Hid (BW w1 w4) := RowKit.Below.trans (H3.out.below (fun b hb => hb)) (RowKit.Below.mono hbl H3.out.size)
  have H4 := Lib.hid hh4
  have HNL := Lib.hid (H3.out.nl)
  have HAS := Lib.hid (H3.out.asc)
  have hNI : (nn : Int) ≤ 300 := by have := H3.out.nowle; have := HM3.out; have := HEN.out; omega
  clear hrow hbl hp1 hp2 hh4 hN H3
  obtain ⟨i0, hi, hz0, hz1, hz2⟩ := infoOf info_bytes
  have HI := Lib.hid hi; have HZ0 := Lib.hid hz0; have HZ1 := Lib.hid hz1; have HZ2 := Lib.hid hz2
  clear hi hz0 hz1 hz2
  go_wp2
  go_loopw [11, 12, 13, 14] (fun acc i _ _ wr => ∃ k : Nat, k ≤ nn ∧ i = .int .i64 k ∧ Coll w4.heap.size wr S3 acc k ∧ BW w4 wr) (fun _ i _ _ _ => nn - (intOf i).toNat)
  case atStart => exact ⟨0, Nat.zero_le _, rfl, Coll.start _ _ _, BW.refl _⟩
  case round =>
    obtain ⟨k, hk, rfl, hcl, hB⟩ := hrel
    by_cases hlt : k < nn
    · have hkn : k < S3.now.length := by rw [HEN.out]; exact hlt
      obtain ⟨nb, noff, rfl, hcn⟩ : ∃ nb noff, no = some ⟨nb, noff, none⟩ ∧ wr.cell? ⟨nb, noff + k, none⟩ = some (.string ⟨S3.now[k].1.toArray⟩) := by
        obtain ⟨b, off, c, hv, h4⟩ := names_at (HN4.out.below hB) hkn
        injection hv with e1 e2 e3
        exact ⟨b, off, e1, h4⟩
      have hs : (⟨S3.now[k].1.toArray⟩ : ByteArray).size ≤ maxLen := by
        rw [← ByteArray.size_data, ← Array.length_toList]; exact HNL.out _ (List.getElem_mem hkn)
      have hread := read_h (H4.out.moved hB) _ hs
      rw [show (⟨S3.now[k].1.toArray⟩ : ByteArray).data.toList = S3.now[k].1 from rfl] at hread
      obtain ⟨nm, hnm⟩ : ∃ nm : ByteArray, nm = ⟨S3.now[k].1.toArray⟩ := ⟨_, rfl⟩
      rw [← hnm] at hread hcn
      have HRE := Lib.hid hread; have HCL := Lib.hid hcl; have HBR := Lib.hid hB; have H5K := Lib.hid hkn
      clear hs hread hnm hcl hB
      go_wp2_with fail
      refine HRE.out.mono ?_
      rintro e wa ⟨v2, rfl, hrow2, hbl2⟩
      have hba : BW wr (wa.alloc (.cells #[v2] 30)) := (show BW wr wa from hbl2).alloc _
      obtain ⟨vs, r1, r2, r3⟩ := HCL.out.keep hba
      have G1 := Lib.hid r1; have G2 := Lib.hid r2; have G3 := Lib.hid r3
      have HB6A : Hid (BW w4 (wa.alloc (.cells #[v2] 30))) := HBR.out.trans hba
      have HR2 : Hid ((wa.alloc (.cells #[v2] 30)).ownsRow w4.heap.size 5 1 v2 (readR S3 S3.now[k].1).1.length ((readR S3 S3.now[k].1).1.map bV)) := by
        have q := row_keep (w' := wa.alloc (.cells #[v2] 30)) hrow2 (fun a n c e => (bw_alloc wa _).block _ (row_lt hrow2 e))
        obtain ⟨q1, q2 | ⟨gg, cap, cur, hv, hle, r⟩⟩ := q
        · exact ⟨q1, .inl q2⟩
        · exact ⟨q1, .inr ⟨gg, cap, cur, hv, Nat.le_trans HBR.out.size hle, r⟩⟩
      have HBA : Hid (w4.heap.size ≤ (wa.alloc (.cells #[v2] 30)).heap.size) := HB6A.out.size
      obtain ⟨a2, m2, q2, rfl⟩ := row_form hrow2
      have HX1 : Hid (k + 1 ≤ maxLen) := by unfold Hid maxLen; omega
      have HX2 : Hid ((k + 1) * 24 ≤ 140737488355328) := by unfold Hid; omega
      clear hrow2 hbl2 hba r1 r2 r3
      go_wp2_with (at_builtin; refine wpList_append_own _ rfl _ _ 62 rfl w4.heap.size 30 i0 (.slice none 0 0) 1 24 Try.underlying62 HI.out HZ0.out HZ1.out HZ2.out rfl (by decide) _ k vs rfl G2.out ⟨wa.heap.size, 0, none⟩ 1 1 [.slice a2 m2 q2] rfl rfl (cell_one_new _ _ _) (by simp [Value.oneCell']) HX1.out HX2.out HBA.out ?_; intro v' w' hown hgr _; have HOWN := Lib.hid hown; have HGR := Lib.hid hgr; clear hown hgr)
      go_wp2
      go_roundw
      case rel => exact ⟨k + 1, by omega, by go_num, coll_snoc G1.out G2.out G3.out H5K.out HR2.out HGR.out HOWN.out, HB6A.out.grown HGR.out HBA.out (fun b e => by obtain ⟨a', n', c', e3, e4⟩ := own_some e; have := row_base' G2.out a' n' c' e3; omega)⟩
      case measure => simp [intOf]; omega
    · have hk2 : nn = k := by omega
      subst hk2
      have HCL : Hid (Coll w4.heap.size wr S3 u11 S3.now.length) := by unfold Hid; rw [HEN.out]; exact hcl
      have HB5 : Hid (BW w4 wr) := hB
      obtain ⟨PB5, hp1, hp2, hh5⟩ := H4.out.again hB
      have HQ1 := Lib.hid hp1; have HQ2 := Lib.hid hp2; have H5 := Lib.hid hh5
      have HB15 : Hid (BW w1 wr) := HB14.out.trans hB
      clear hcl hB hp1 hp2 hh5
      go_wp2_with fail
      refine (fail_h H5.out 1 e part (by decide) HP.out).mono ?_
      rintro en w6 ⟨rfl, hh6⟩
      have H6 := Lib.hid hh6
      clear hh6
      have HCA := Lib.hid (calls_h H6.out)
      have hcc : (opFail S3 1 e part).calls = S3.calls := rfl
      rw [hcc] at HCA
      obtain ⟨nc3, hnc3⟩ : ∃ n, S3.calls = n := ⟨_, rfl⟩
      have HNC := Lib.hid hnc3
      rw [hnc3] at HCA
      have hnci : (nc3 : Int) ≤ 300 := by have := HM3.out; omega
      clear hcc hnc3
      go_wp2_with fail
      refine HCA.out.mono ?_
      rintro en _ ⟨rfl, rfl⟩
      clear HCA
      have HB6 : Hid (BW w w6) := RowKit.Below.trans (HB1.out.trans HB15.out) (H6.out.below (fun b hb => HQ1.out b (HPB.out b (Nat.lt_of_lt_of_le hb HB1.out.size))))
      have HBX6 : Hid (w6.heap[w.heap.size]? = some (.cells X 33 (0, 0))) := (H6.out.same _ (HQ1.out _ (HPB.out _ HLX.out))).trans ((HB15.out.block _ HLX.out).trans HBX.out)
      have hcell : ∀ j u, (stpCells s)[j]? = some u → w6.cell? ⟨w.heap.size, j, none⟩ = some u := fun j u hu => cell_of HBX6.out (by rw [HX.out]; exact hu)
      have k0 := hcell 0 _ rfl
      have k1 := hcell 1 _ rfl
      have k2 := hcell 2 _ rfl
      have k3 := hcell 3 _ rfl
      have k4 := hcell 4 _ rfl
      have k5 := hcell 5 _ rfl
      have k6 := hcell 6 _ rfl
      have k7 := hcell 7 _ rfl
      have k8 := hcell 8 _ rfl
      clear hcell
      go_wp2_with fail
      obtain ⟨PB6, hp3, hp4, hh6⟩ := H6.out.again (bw_alloc w6 (.cells (stpCells s) 33))
      have HQ3 := Lib.hid hp3; have HQ4 := Lib.hid hp4; have HH6 := Lib.hid hh6
      have hok6 : StpOk w6 s := ⟨HOK.out.name, HOK.out.other, HOK.out.bytes.below HB6.out, HOK.out.len, HOK.out.part⟩
      have HST : Hid (Steps (fun b => b = w6.heap.size ∨ b < w.heap.size) (w6.alloc (.cells (stpCells s) 33)) (.slice (some ⟨w6.heap.size, 0, none⟩) 1 1) [s]) :=
        steps_one hok6 (.inl rfl) (fun hne a ha => .inr (HOK.out.bytes.lt (by simpa using hne) a _ _ (by rw [ha])))
      have HW6 : Hid (∀ b, b < w.heap.size → PB6 b) := fun b hb => HQ3.out b (HQ1.out b (HPB.out b (Nat.lt_of_lt_of_le hb HB1.out.size)))
      clear hp3 hp4 hh6 hok6 k0 k1 k2 k3 k4 k5 k6 k7 k8
      refine (sure_any (W := w6.alloc (.cells (stpCells s) 33)) HH6.out (S := opFail S3 1 e part) (by have := HM3.out; exact ⟨show S3.calls ≤ 10000 by omega, show S3.bd ≤ 10000 by omega⟩) (U := fun b => b = w6.heap.size ∨ b < w.heap.size) (fun b hb => ⟨by rcases hb with rfl | hb; exact HQ4.out _ (Nat.le_refl _) (by simp); exact HW6.out b hb, rfl⟩) (Nat.le_refl _) HST.out (by simp)).mono ?_
      rintro en w7 ⟨rfl, S7, ⟨S1, hst, hS1⟩, hh7⟩
      have hS1' : S7 = S1 := hS1
      subst hS1'
      have H7 := Lib.hid hh7
      obtain ⟨hnow, hc7, hcalls, hbd, hfs⟩ := fail_step HC3.out HE.out HKK.out hst
      have HR := Lib.hid (fail_reads HC3.out HG3.out HAS.out hc7 hh7.asc hnow hfs)
      have HC7 := Lib.hid hc7; have HNOW := Lib.hid hnow
      have HM7 : Hid (S7.calls ≤ 400 ∧ S7.bd ≤ 400) := by have := HM3.out; unfold Hid; omega
      have HCA := Lib.hid (calls_h H7.out)
      rw [show ((S7.calls : Nat) : Int) = (nc3 : Int) + 1 by have := HNC.out; omega] at HCA
      have HB67 : Hid (RowKit.Below w.heap.size (w6.alloc (.cells (stpCells s) 33)) w7) := hh7.below HW6.out
      have HB7 : Hid (BW w w7) := RowKit.Below.trans (HB6.out.alloc _) HB67.out
      have HSAME : Hid (∀ b, PB5 b → w7.heap[b]? = wr.heap[b]?) := by
        intro b hb
        have e1 := hh7.same b (HQ3.out b hb)
        have hlt5 : b < w6.heap.size := by have := H5.out.lt b hb; have := H6.out.size; omega
        exact e1.trans (((bw_alloc w6 _).block b hlt5).trans (H6.out.same b hb))
      have HSZ : Hid (wr.heap.size ≤ w7.heap.size) := by have a := H6.out.size; have b := hh7.size; simp at b; unfold Hid; omega
      have HN7 : Hid (Src w7 (.slice no nn nc) ((S3.now.map (·.1)).map encStr)) := (HN4.out.below HB5.out).keep HSZ.out (fun _ a n c e => HSAME.out _ (HQ1.out _ (HP8.out a n c e)))
      have HCL7 : Hid (Coll w4.heap.size w7 S3 u11 S3.now.length) := HCL.out.keepB (fun b h1 h2 => HSAME.out b (HQ2.out b h1 h2))
      have HBX7 : Hid (w7.heap[w.heap.size]? = some (.cells X 33 (0, 0))) := (HSAME.out _ (HQ1.out _ (HPB.out _ HLX.out))).trans ((HB15.out.block _ HLX.out).trans HBX.out)
      clear hS1 hst hh7 hnow hc7 hcalls hbd hfs HST HCL HSAME HH6 H6 HN4 HB5
      go_wp2_with fail
      refine HCA.out.mono ?_
      rintro en _ ⟨rfl, rfl⟩
      clear HCA
      have hne : ((nc3 : Int) + 1 != (nc3 : Int) + 1) = false := by simp
      go_wp2_with fail
      refine (list_h H7.out HC7.out (by have := HM7.out; omega)).mono ?_
      rintro en w8 ⟨v9, rfl, hrow, hbl⟩
      have HS9 : Hid (Src w8 v9 ((S3.now.map (·.1)).map encStr)) := by
        have := Src.of_row hrow
        rw [HNOW.out] at this
        exact this
      have HB78 : Hid (BW w7 w8) := hbl
      clear hrow hbl
      go_wp2_with fail
      refine (strings_true HS9.out (HN7.out.below HB78.out)).mono ?_
      rintro en w9 ⟨rfl, n9, hw9⟩
      have HB79 : Hid (BW w7 w9) := by rw [hw9]; exact bw_drew HB78.out n9
      clear hw9
      have HN9 := Lib.hid (HN7.out.below HB79.out)
      have HCL9 := Lib.hid (HCL7.out.keep HB79.out)
      have H9 := Lib.hid (H7.out.moved HB79.out)
      have HBX9 : Hid (w9.heap[w.heap.size]? = some (.cells X 33 (0, 0))) := (HB79.out.block _ (lt_of_heap HBX7.out)).trans HBX7.out
      have HB9 : Hid (BW w w9) := HB7.out.trans HB79.out
      clear HN7 HCL7 H7 HBX7 HB78 HS9 hne
      go_wp2
      go_loopw [16, 17, 18] (fun i _ _ wr => ∃ k : Nat, k ≤ nn ∧ i = .int .i64 k ∧ BW w9 wr) (fun i _ _ _ => nn - (intOf i).toNat)
      case atStart => exact ⟨0, Nat.zero_le _, rfl, BW.refl _⟩
      case round =>
        obtain ⟨k, hk, rfl, hB⟩ := hrel
        by_cases hlt : k < nn
        · have hkn : k < S3.now.length := by rw [HEN.out]; exact hlt
          obtain ⟨nb, noff, rfl, hcn⟩ : ∃ nb noff, no = some ⟨nb, noff, none⟩ ∧ wr.cell? ⟨nb, noff + k, none⟩ = some (.string ⟨S3.now[k].1.toArray⟩) := by
            obtain ⟨b, off, c, hv, h4⟩ := names_at (HN9.out.below hB) hkn
            injection hv with e1 e2 e3
            exact ⟨b, off, e1, h4⟩
          have hs : (⟨S3.now[k].1.toArray⟩ : ByteArray).size ≤ maxLen := by
            rw [← ByteArray.size_data, ← Array.length_toList]; exact HNL.out _ (List.getElem_mem hkn)
          obtain ⟨l, x, hr1, hr2, hx, hcase⟩ := HR.out k hkn
          have hread := read_is2 (H9.out.moved hB) (nm := ⟨S3.now[k].1.toArray⟩) rfl hs hr2
          obtain ⟨bb, boff, bc, va, vc, rfl, hcb, hvk⟩ : ∃ bb boff bc va vc, u11 = .slice (some ⟨bb, boff, none⟩) nn bc ∧ wr.cell? ⟨bb, boff + k, none⟩ = some (.slice va l.length vc) ∧ Src wr (.slice va l.length vc) (l.map bV) := by
            obtain ⟨vs, q1, q2, q3⟩ := HCL9.out.keep hB
            have hkv : k < vs.length := by rw [q1]; exact hkn
            obtain ⟨bb, boff, bc, hacc, hcb⟩ := (Src.of_row q2).at (k := k) (u := vs[k]) (List.getElem?_eq_getElem hkv)
            rw [q1, HEN.out] at hacc
            have hvk := Src.of_row (q3 k hkv hkn)
            rw [hr1] at hvk
            obtain ⟨va, vc, hvk2⟩ := hvk.len
            rw [List.length_map] at hvk2
            rw [hvk2] at hcb hvk
            exact ⟨bb, boff, bc, va, vc, hacc, hcb, hvk⟩
          obtain ⟨nm, hnm⟩ : ∃ nm : ByteArray, nm = ⟨S3.now[k].1.toArray⟩ := ⟨_, rfl⟩
          have hcase' : x = [] ∨ (s.kind = 1 ∧ nm = s.name) := by
            rcases hcase with h | ⟨h, h'⟩
            · exact .inl h
            · refine .inr ⟨h, ?_⟩
              rw [hnm, h']
          rw [← hnm] at hread hcn
          have hcl1 : nb < wr.heap.size := cell_lt hcn
          have hcl2 : bb < wr.heap.size := cell_lt hcb
          have HRC := Lib.hid hread; have HBR := Lib.hid hB; have HCN := Lib.hid hcn; have HCB := Lib.hid hcb; have HVK := Lib.hid hvk; have HXX := Lib.hid hx; have HCASE := Lib.hid hcase'
          clear hs hread hnm hB hr1 hr2 hcb hvk hx hcase hcase'
          go_wp2_with fail
          refine HRC.out.mono ?_
          rintro en wa ⟨vb, rfl, hsb, hba, hvb⟩
          have hcna : wa.cell? ⟨nb, noff + k, none⟩ = some (.string nm) := (World.cell?_of_block (w := wr) (a := ⟨nb, noff + k, none⟩) (hba.block nb hcl1)).trans HCN.out
          have hcba : wa.cell? ⟨bb, boff + k, none⟩ = some (.slice va l.length vc) := (World.cell?_of_block (w := wr) (a := ⟨bb, boff + k, none⟩) (hba.block bb hcl2)).trans HCB.out
          have HBA : Hid (BW w9 wa) := HBR.out.trans hba
          have hbxa : wa.heap[w.heap.size]? = some (.cells X 33 (0, 0)) := (HBA.out.block _ (lt_of_heap HBX9.out)).trans HBX9.out
          have k0 : wa.cell? ⟨w.heap.size, 0, none⟩ = some (.int .i64 s.kind) := cell_of hbxa (by rw [HX.out]; rfl)
          have k5 : wa.cell? ⟨w.heap.size, 5, none⟩ = some (.string s.name) := cell_of hbxa (by rw [HX.out]; rfl)
          have k7 : wa.cell? ⟨w.heap.size, 7, none⟩ = some (.slice s.bo s.bs.length s.bc) := cell_of hbxa (by rw [HX.out]; rfl)
          have HVA := Lib.hid (HVK.out.below hba)
          have HBS := Lib.hid (HOK.out.bytes.below (HB9.out.trans HBA.out))
          have hi : (k : Int) < (nn : Int) := by omega
          have hi0 : (0 : Int) ≤ (k : Int) := by omega
          have HVB := Lib.hid hvb
          have HSB0 := Lib.hid hsb
          clear hsb hba hbxa hcn hvb
          go_upto_region 21 with (fail)
          go_cut [165] from 88 to 165 (fun c wx => c = .bool false ∧ ∃ n, wx = wa.drewN n)
          case first =>
            rcases HVB.out with ⟨rfl, hnil⟩ | ⟨b, N2, cb, rfl, hN2, g5⟩
            · obtain ⟨rfl, rfl⟩ : l = [] ∧ x = [] := by simpa using hnil
              have HSB : Hid (Src wa (.slice none 0 0) (([] : List UInt8).map bV)) := Src.nil _
              have HSUB : Hid (Src wa (.slice none 0 0) (([] : List UInt8).map bV)) := Src.nil _
              clear hnil
              by_cases gA : s.kind = 1
              · have d1 : (s.kind == 1) = true := by rw [gA]; rfl
                have d2 : (s.kind != 1) = false := by rw [gA]; rfl
                clear gA
                cases d3 : (nm.toList == s.name.toList)
                · skip
                  go_big_quiet ((first | (go_at_call 37; exact Calls.quiet_of (begins_true (HVA.out.drew _) (HSB.out.drew _) (by simp))) | (go_at_call 37; exact Calls.quiet_of (begins_true (HSUB.out.drew _) (HBS.out.drew _) HXX.out))))
                  go_wp2
                  go_meet
                  exact ⟨rfl, _, rfl⟩
                · skip
                  go_big_quiet ((first | (go_at_call 37; exact Calls.quiet_of (begins_true (HVA.out.drew _) (HSB.out.drew _) (by simp))) | (go_at_call 37; exact Calls.quiet_of (begins_true (HSUB.out.drew _) (HBS.out.drew _) HXX.out))))
                  go_wp2
                  go_meet
                  exact ⟨rfl, _, rfl⟩
              · have d1 : (s.kind == 1) = false := by simpa using gA
                have d2 : (s.kind != 1) = true := by simpa using gA
                clear gA
                cases d3 : (nm.toList == s.name.toList)
                · skip
                  go_big_quiet ((first | (go_at_call 37; exact Calls.quiet_of (begins_true (HVA.out.drew _) (HSB.out.drew _) (by simp))) | (go_at_call 37; exact Calls.quiet_of (begins_true (HSUB.out.drew _) (HBS.out.drew _) HXX.out))))
                  go_wp2
                  go_meet
                  exact ⟨rfl, _, rfl⟩
                · skip
                  go_big_quiet ((first | (go_at_call 37; exact Calls.quiet_of (begins_true (HVA.out.drew _) (HSB.out.drew _) (by simp))) | (go_at_call 37; exact Calls.quiet_of (begins_true (HSUB.out.drew _) (HBS.out.drew _) HXX.out))))
                  go_wp2
                  go_meet
                  exact ⟨rfl, _, rfl⟩
            · rw [List.length_append] at hN2
              have HN2 := Lib.hid hN2
              have HSB : Hid (Src wa (.slice (some ⟨b, 0, none⟩) N2 cb) ((l ++ x).map bV)) := HSB0.out
              have HSUB : Hid (Src wa (.slice (if cb = l.length then some ⟨b, 0, none⟩ else some ⟨b, l.length, none⟩) (N2 - l.length) (cb - l.length)) (x.map bV)) := by
                have h0 := HSB0.out
                rw [hN2] at h0
                have := sub_src h0
                rw [Nat.zero_add] at this
                rw [hN2, Nat.add_sub_cancel_left]
                exact this
              have g6 : l.length ≤ N2 := by omega
              have g7 : (l.length : Int) ≤ (N2 : Int) := by omega
              have g8 : (N2 : Int) ≤ (cb : Int) := by omega
              clear hN2
              by_cases gA : s.kind = 1
              · have d1 : (s.kind == 1) = true := by rw [gA]; rfl
                have d2 : (s.kind != 1) = false := by rw [gA]; rfl
                clear gA
                cases d3 : (nm.toList == s.name.toList)
                · have d5 : ((N2 : Int) != (l.length : Int)) = false := by
                    have hx0 : x = [] := by
                      rcases HCASE.out with h | ⟨_, h⟩
                      · exact h
                      · rw [h] at d3; simp at d3
                    have := HN2.out
                    rw [hx0, List.length_nil, Nat.add_zero] at this
                    rw [this]; simp
                  go_big_quiet ((first | (go_at_call 37; exact Calls.quiet_of (begins_true (HVA.out.drew _) (HSB.out.drew _) (by simp))) | (go_at_call 37; exact Calls.quiet_of (begins_true (HSUB.out.drew _) (HBS.out.drew _) HXX.out))))
                  generalize (if cb = l.length then (some (⟨b, 0, none⟩ : Addr)) else some ⟨b, l.length, none⟩) = sa
                  go_wp2
                  go_meet
                  exact ⟨rfl, _, rfl⟩
                · skip
                  go_big_quiet ((first | (go_at_call 37; exact Calls.quiet_of (begins_true (HVA.out.drew _) (HSB.out.drew _) (by simp))) | (go_at_call 37; exact Calls.quiet_of (begins_true (HSUB.out.drew _) (HBS.out.drew _) HXX.out))))
                  generalize (if cb = l.length then (some (⟨b, 0, none⟩ : Addr)) else some ⟨b, l.length, none⟩) = sa
                  go_wp2
                  go_meet
                  exact ⟨rfl, _, rfl⟩
              · have d1 : (s.kind == 1) = false := by simpa using gA
                have d2 : (s.kind != 1) = true := by simpa using gA
                have d5 : ((N2 : Int) != (l.length : Int)) = false := by
                  have hx0 : x = [] := by
                    rcases HCASE.out with h | ⟨h, _⟩
                    · exact h
                    · exact absurd h gA
                  have := HN2.out
                  rw [hx0, List.length_nil, Nat.add_zero] at this
                  rw [this]; simp
                clear gA
                cases d3 : (nm.toList == s.name.toList)
                · skip
                  go_big_quiet ((first | (go_at_call 37; exact Calls.quiet_of (begins_true (HVA.out.drew _) (HSB.out.drew _) (by simp))) | (go_at_call 37; exact Calls.quiet_of (begins_true (HSUB.out.drew _) (HBS.out.drew _) HXX.out))))
                  generalize (if cb = l.length then (some (⟨b, 0, none⟩ : Addr)) else some ⟨b, l.length, none⟩) = sa
                  go_wp2
                  go_meet
                  exact ⟨rfl, _, rfl⟩
                · skip
                  go_big_quiet ((first | (go_at_call 37; exact Calls.quiet_of (begins_true (HVA.out.drew _) (HSB.out.drew _) (by simp))) | (go_at_call 37; exact Calls.quiet_of (begins_true (HSUB.out.drew _) (HBS.out.drew _) HXX.out))))
                  generalize (if cb = l.length then (some (⟨b, 0, none⟩ : Addr)) else some ⟨b, l.length, none⟩) = sa
                  go_wp2
                  go_meet
                  exact ⟨rfl, _, rfl⟩
          case rest =>
            obtain ⟨rfl, n, rfl⟩ := hcut
            go_wp2
            go_roundw
            case rel => exact ⟨k + 1, by omega, by go_num, bw_drew HBA.out n⟩
            case measure => simp [intOf]; omega
        · have hk2 : nn = k := by omega
          subst hk2
          have HD10 := Lib.hid (H9.out.moved hB)
          have HB10 : Hid (BW w wr) := HB9.out.trans hB
          have hsd := syncdir_h HD10.out (by have := HM7.out; exact ⟨by omega, by omega⟩)
          have hz : (opSyncDir S7).1 = 0 := by unfold opSyncDir; rw [begR_calm HC7.out]; rfl
          rw [hz] at hsd
          obtain ⟨S8, hS8⟩ : ∃ S8, S8 = (opSyncDir S7).2 := ⟨_, rfl⟩
          rw [← hS8] at hsd
          have HSD := Lib.hid hsd
          have HPW : Hid (∀ (S : DS) (w' : World), Holds PB6 (w6.alloc (.cells (stpCells s) 33)) w' d S → BW w w') := fun S w' h => RowKit.Below.trans (HB6.out.alloc _) (h.below HW6.out)
          clear hB hsd hz hS8 hlt hk
          go_wp2_with fail
          refine HSD.out.mono ?_
          rintro en w12 ⟨rfl, hh12⟩
          have HB12 : Hid (BW w w12) := HPW.out _ _ hh12
          clear hh12
          go_wp2_with fail
          go_ret
          exact ⟨rfl, HB12.out⟩
end Go.Proofs.Ytjiklpoggpdngaa
