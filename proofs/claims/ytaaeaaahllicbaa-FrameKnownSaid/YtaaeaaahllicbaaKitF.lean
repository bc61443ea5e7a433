/- ApartBytes: the walk. -/
import Derived.Test.YtaaeaaahllicbaaKitE
import Derived.Outline
namespace Go.Proofs.Ytaaeaaahllicbaa
open Go.RowKit Go.Maps

theorem info_bs : (Try.prog.info? 23).map (fun i => (i.zero, i.size, i.bytes)) = some (some (.slice none 0 0), 1, 24) := by kernel_rfl

def ApPost (B : Nat) (w : World) (e : Ending) (w' : World) : Prop := e = .returned (.bool true) ∧ RowKit.Below B w w'

theorem av_at {w : World} {b off : Nat} {N c i : Nat} {V : Nat → Value} (h : Src w (.slice (some ⟨b, off, none⟩) N c) ((List.range N).map V)) (hi : i < N) : w.cell? ⟨b, off + i, none⟩ = some (V i) := by
  rcases h with ⟨_, _, hv, hx, _⟩ | ⟨b', off', c', hv, _, _, _, h4⟩
  · have := congrArg List.length hx; simp at this; omega
  · injection hv with e1 _ _
    cases e1
    exact h4 i _ (by rw [List.getElem?_map, List.getElem?_range hi]; rfl)

theorem append_byte_two {w : World} {ops : Array Oper} {rest : List Oper} {o : Oper} {a : Act} {Q : Exit → Act → World → Prop} (hgd : o.guard = none) (s x : Operand)
    (ho : o.op = .call { callee := .builtin .append, args := #[s, x], argTypes := #[23, 23] }) (base : Nat) (v : Value) (n : Nat) (xs : List UInt8) (hs : a.eval s = v) (hown : w.ownsRow base 5 1 v n (xs.map bV))
    (p : Nat) (hx : a.eval x = .slice (some ⟨p, 0, none⟩) 1 1) (c : UInt8) (hc : w.cell? ⟨p, 0, none⟩ = some (bV c)) (hb : n + 1 ≤ 140737488355328) (hbase : base ≤ w.heap.size)
    (h : ∀ v' w', w'.ownsRow base 5 1 v' (n + 1) ((xs ++ [c]).map bV) → App v v' w w' → wpList Try.prog ops Q rest (a.put o.dst v') w') : wpList Try.prog ops Q (o :: rest) a w := by
  obtain ⟨i0, hi, hz0, hz1, hz2⟩ := infoOf info_u8
  refine wpList_append_two hgd s x 23 ho base 5 i0 (.int .u8 0) 1 Try.underlying23 hi hz0 hz1 hz2 rfl v n _ hs hown ⟨p, 0, none⟩ 1 1 [bV c] hx rfl ?_ ?_ (by unfold maxLen; omega) (by omega) hbase (by decide) ?_
  · intro j u hu
    have : j = 0 := by have := (List.getElem?_eq_some_iff.1 hu).1; simp at this; omega
    subst this
    simp at hu
    subst hu
    rw [addOff]; exact hc
  · intro u hu; simp at hu; subst hu; rfl
  · intro v' w' g1 g2
    exact h v' w' (by simpa using g1) g2
theorem append_slice_two {w : World} {ops : Array Oper} {rest : List Oper} {o : Oper} {a : Act} {Q : Exit → Act → World → Prop} (hgd : o.guard = none) (s x : Operand)
    (ho : o.op = .call { callee := .builtin .append, args := #[s, x], argTypes := #[22, 22] }) (base : Nat) (v : Value) (n : Nat) (xs : List Value) (hs : a.eval s = v) (hown : w.ownsRow base 23 1 v n xs)
    (p : Nat) (hx : a.eval x = .slice (some ⟨p, 0, none⟩) 1 1) (ao : Option Addr) (an ac : Nat) (hc : w.cell? ⟨p, 0, none⟩ = some (.slice ao an ac)) (hb : n + 1 ≤ 1000000001) (hbase : base ≤ w.heap.size)
    (h : ∀ v' w', w'.ownsRow base 23 1 v' (n + 1) (xs ++ [.slice ao an ac]) → App v v' w w' → wpList Try.prog ops Q rest (a.put o.dst v') w') : wpList Try.prog ops Q (o :: rest) a w := by
  obtain ⟨i0, hi, hz0, hz1, hz2⟩ := infoOf info_bs
  refine wpList_append_two hgd s x 22 ho base 23 i0 (.slice none 0 0) 24 Try.underlying22 hi hz0 hz1 hz2 rfl v n _ hs hown ⟨p, 0, none⟩ 1 1 [.slice ao an ac] hx rfl ?_ ?_ (by unfold maxLen; omega) (by omega) hbase (by decide) h
  · intro j u hu
    have : j = 0 := by have := (List.getElem?_eq_some_iff.1 hu).1; simp at this; omega
    subst this
    simp at hu
    subst hu
    rw [addOff]; exact hc
  · intro u hu; simp at hu; subst hu; rfl

set_option maxHeartbeats 20000000 in
set_option maxRecDepth 100000 in
theorem apart_some {w : World} {B N b off c : Nat} {V : Nat → Value} {n : Nat → Nat} {role : Nat → Option Nat} (hav : Src w (.slice (some ⟨b, off, none⟩) N c) ((List.range N).map V)) (hA : role b = none) (hbl : b < w.heap.size)
    (h1 : Ap1 w B N V n role 0 0) (hrn : ∀ x, role x ≠ some N) (hB : B ≤ w.heap.size) (hn : ∀ j, j < N → (n j : Int) + 70 ≤ 140737488355328) (hN : (N : Int) ≤ 1000000000) :
    Calls Try.prog 16 #[.slice (some ⟨b, off, none⟩) N c] w (ApPost B w) := by
  have HAV := Lib.hid hav; have HA := Lib.hid hA; have H1 := Lib.hid h1; have HRN := Lib.hid hrn; have HNN := Lib.hid hn; have HBL := Lib.hid hbl; have HB := Lib.hid hB
  clear hav hA h1 hrn hn hbl hB
  go_enter Try.func16, Try.ntmps16
  go_wp2
  go_loopw [3, 4] (fun i _ wr => ∃ x : Nat, x ≤ N ∧ i = .int .i64 (x : Int) ∧ Ap1 wr B N V n role x 0 ∧ RowKit.Below B w wr ∧ wr.heap[b]? = w.heap[b]?) (fun i _ _ => N - (intOf i).toNat)
  case atStart => exact ⟨0, Nat.zero_le _, rfl, H1.out, RowKit.Below.refl _ _, rfl⟩
  case round =>
    obtain ⟨x, hx, rfl, hap, hbel, hbb⟩ := hrel
    have HAP := Lib.hid hap; have HBEL := Lib.hid hbel; have HBB := Lib.hid hbb
    clear hap hbel hbb
    by_cases hlt : x < N
    · obtain ⟨wo, rfl⟩ : ∃ wo : World, wo = wr := ⟨_, rfl⟩
      have hnx := HNN.out x hlt
      have hVf : ∃ vo vc, V x = .slice vo (n x) vc := by
        obtain ⟨C, g1, _⟩ := HAP.out.row x hlt
        obtain ⟨vo, vn, vc, hV⟩ := row_form g1
        rw [row_len g1 hV] at hV
        exact ⟨vo, vc, hV⟩
      obtain ⟨vo, vc, hV⟩ := hVf
      have HV := Lib.hid hV
      have HCA : Hid (∀ W : World, W.heap[b]? = w.heap[b]? → W.cell? ⟨b, off + x, none⟩ = some (.slice vo (n x) vc)) := fun W hW => by
        rw [← HV.out]
        exact (World.cell?_of_block (w := w) (a := ⟨b, off + x, none⟩) hW).trans (av_at HAV.out hlt)
      have hx0 : (0 : Int) ≤ (x : Int) := by omega
      have hx1 : (x : Int) < (N : Int) := by omega
      obtain ⟨nx, hnxe⟩ : ∃ nx, n x = nx := ⟨_, rfl⟩
      have HNX := Lib.hid hnxe
      rw [hnxe] at hnx HCA
      clear hV hnxe
      go_wp2
      go_loopw [4] (fun k wi => ∃ y : Nat, y ≤ nx ∧ k = .int .i64 (y : Int) ∧ Ap1 wi B N V n role x y ∧ RowKit.Below B w wi ∧ wi.heap[b]? = w.heap[b]?) (fun k _ => nx - (intOf k).toNat)
      case atStart => exact ⟨0, Nat.zero_le _, rfl, HAP.out, HBEL.out, HBB.out⟩
      case round =>
        clear HAP HBEL HBB
        obtain ⟨y, hy, rfl, hap, hbel, hbb⟩ := hrel
        have HAP := Lib.hid hap; have HBEL := Lib.hid hbel; have HBB := Lib.hid hbb
        have ca := HCA.out _ hbb
        clear hap hbel hbb
        by_cases hylt : y < nx
        · obtain ⟨g, gc, e1, hf, ⟨u, hu⟩, hap', ht⟩ := HAP.out.at hlt (by rw [HNX.out]; exact hylt)
          rw [HV.out] at e1
          injection e1 with e1 _ e3
          subst e1; subst e3
          rw [mk1_v] at hap' ht
          have HAP' := Lib.hid hap'; have HT := Lib.hid ht
          have hy0 : (0 : Int) ≤ (y : Int) := by omega
          have hy1 : (y : Int) < (nx : Int) := by omega
          clear hap' ht
          go_wp2
          go_roundw
          case rel =>
            refine ⟨y + 1, by omega, by go_num, HAP'.out, HBEL.out.trans (HT.out.below (Nat.le_trans HB.out HBEL.out.size) (fun z hz => ?_)), (HT.out.block b (Nat.lt_of_lt_of_le HBL.out HBEL.out.size) (by rw [HA.out]; simp)).trans HBB.out⟩
            by_cases e : role z = none
            · exact e
            · have := HAP.out.rb z e; omega
          case measure => simp [intOf]; omega
        · obtain rfl : y = nx := by omega
          go_wp2
          go_roundw
          case rel => exact ⟨x + 1, by omega, by go_num, by have := HAP.out; rw [← HNX.out] at this; exact this.next, HBEL.out, HBB.out⟩
          case measure => simp [intOf]; omega
    · obtain rfl : N = x := by omega
      have H2 := Lib.hid (HAP.out.done HRN.out)
      have HVF : Hid (∀ j, j < N → VForm (V j) (n j)) := fun j hj => by obtain ⟨C, g1, _⟩ := HAP.out.row j hj; exact vform_row g1
      clear HAP hlt
      go_wp2
      go_loopw [5, 6] (fun mv i wr => ∃ x : Nat, x ≤ N ∧ i = .int .i64 (x : Int) ∧ ∃ rl M, Ap2 wr B N V n rl M mv x ∧ RowKit.Below B w wr ∧ wr.heap[b]? = w.heap[b]? ∧ rl b = none) (fun _ i _ => N - (intOf i).toNat)
      case atStart => exact ⟨0, Nat.zero_le _, rfl, role, _, H2.out, HBEL.out, HBB.out, HA.out⟩
      case round =>
        clear H2 HBEL HBB
        obtain ⟨x, hx, rfl, rl, M, hap, hbel, hbb, hrb⟩ := hrel
        have HAP := Lib.hid hap; have HBEL := Lib.hid hbel; have HBB := Lib.hid hbb; have HRB := Lib.hid hrb
        clear hap hbel hbb hrb
        by_cases hlt : x < N
        · obtain ⟨wo, rfl⟩ : ∃ wo : World, wo = wr := ⟨_, rfl⟩
          have hnx := HNN.out x hlt
          have hVf : ∃ vo vc, V x = .slice vo (n x) vc := by
            rcases HVF.out x hlt with ⟨h1, h2⟩ | ⟨g, c', h1⟩
            · exact ⟨_, _, by rw [h1, h2]⟩
            · exact ⟨_, _, h1⟩
          obtain ⟨vo, vc, hV⟩ := hVf
          have HV := Lib.hid hV
          have ca : wo.cell? ⟨b, off + x, none⟩ = some (.slice vo (n x) vc) := by
            rw [← HV.out]
            exact (World.cell?_of_block (w := w) (a := ⟨b, off + x, none⟩) HBB.out).trans (av_at HAV.out hlt)
          have hx0 : (0 : Int) ≤ (x : Int) := by omega
          have hx1 : (x : Int) < (N : Int) := by omega
          obtain ⟨nx, hnxe⟩ : ∃ nx, n x = nx := ⟨_, rfl⟩
          have HNX := Lib.hid hnxe
          rw [hnxe] at hnx ca
          have HX70 := Lib.hid hnx
          clear hnx
          have HAP3 : Hid (Ap3 wo B N V n rl M u5 x (.slice vo nx vc) 0) := by have := HAP.out.enter hlt; rw [HV.out, hnxe] at this; exact this
          clear hV hnxe HAP
          go_wp2
          go_loopw [7, 8] (fun L k wi => ∃ y : Nat, y ≤ 70 ∧ k = .int .i64 (y : Int) ∧ ∃ rl', Ap3 wi B N V n rl' M u5 x L y ∧ RowKit.Below B w wi ∧ wi.heap[b]? = w.heap[b]? ∧ rl' b = none) (fun _ k _ => 70 - (intOf k).toNat)
          case atStart => exact ⟨0, Nat.zero_le _, rfl, rl, HAP3.out, HBEL.out, HBB.out, HRB.out⟩
          case round =>
            clear HAP3 HBEL HBB HRB ca
            obtain ⟨y, hy, rfl, rl', hap, hbel, hbb, hrb⟩ := hrel
            have HAP := Lib.hid hap; have HBEL := Lib.hid hbel; have HBB := Lib.hid hbb; have HRB := Lib.hid hrb
            clear hap hbel hbb hrb
            have hsz := Nat.le_trans HB.out HBEL.out.size
            have hblk := Nat.lt_of_lt_of_le HBL.out HBEL.out.size
            by_cases hylt : y < 70
            · have hy1 : (y : Int) < 70 := by omega
              have hy2 : (0 : Int) ≤ (y : Int) := by omega
              have HYL := Lib.hid hylt
              clear hylt hy hsz hblk
              go_wp2_with (at_builtin; refine append_byte_two rfl (.tmp 53) (.tmp 59) rfl B u7 (n x + y) (full1 x (n x) ++ full2 x y) rfl (HAP.out.row.alloc _) wr.heap.size rfl (mk2 x y) ?_ ?_ ?_ ?_)
              · rw [mk2_v]; exact cell_of (heap_new _ _) rfl
              · have := HX70.out; rw [HNX.out]; omega
              · have := Nat.le_trans HB.out HBEL.out.size; simp; omega
              · intro v' w' hr ha
                have hsz := Nat.le_trans HB.out HBEL.out.size
                have hblk := Nat.lt_of_lt_of_le HBL.out HBEL.out.size
                have hylt := HYL.out
                obtain ⟨rl2, hap2, ht⟩ := HAP.out.step hlt hsz (HVF.out x hlt) ha (by simpa using hr)
                have HAP2 := Lib.hid hap2
                have HT := Lib.hid ht
                clear hap2 ht hr ha
                go_wp2
                go_roundw
                case rel =>
                  refine ⟨y + 1, by omega, by go_num, rl2, HAP2.out, HBEL.out.trans (HT.out.below hsz (fun z hz => ?_)), (HT.out.block b hblk (by rw [HRB.out]; simp)).trans HBB.out, (HT.out.keep b hblk).trans HRB.out⟩
                  by_cases e : rl' z = none
                  · exact e
                  · have := HAP.out.rb z e; omega
                case measure => simp [intOf]; omega
            · obtain rfl : 70 = y := by omega
              obtain ⟨lo, ln, lc, hL⟩ := row_form HAP.out.row
              subst hL
              go_wp2_with (at_builtin; refine append_slice_two rfl (.tmp 61) (.tmp 63) rfl B u5 x ((List.range x).map M) rfl (HAP.out.more.alloc _) wr.heap.size rfl lo ln lc ?_ ?_ ?_ ?_)
              · exact cell_of (heap_new _ _) rfl
              · omega
              · simp; omega
              · intro v' w' hr ha
                obtain ⟨rl2, M2, hap2, ht⟩ := HAP.out.leave hlt hsz ha hr
                have HAP2 := Lib.hid hap2
                have HT := Lib.hid ht
                clear hap2 ht hr ha
                go_wp2
                go_roundw
                case rel =>
                  refine ⟨x + 1, by omega, by go_num, rl2, M2, HAP2.out, HBEL.out.trans (HT.out.below hsz (fun z hz => ?_)), (HT.out.block b hblk (by rw [HRB.out]; simp)).trans HBB.out, (HT.out.keep b hblk).trans HRB.out⟩
                  by_cases e : rl' z = none
                  · exact e
                  · have := HAP.out.rb z e; omega
                case measure => simp [intOf]; omega
        · obtain rfl : N = x := by omega
          clear hlt
          obtain ⟨mo, mn, mc, hM⟩ := row_form HAP.out.more
          obtain rfl : N = mn := (row_len HAP.out.more hM).symm
          subst hM
          have HXX : Hid (∀ x, x < N → ∃ g, mo = some ⟨g, 0, none⟩ ∧ wr.cell? ⟨g, x, none⟩ = some (M x)) := fun x hlt => by
            obtain ⟨g, rfl⟩ : ∃ g, mo = some ⟨g, 0, none⟩ := by
              obtain ⟨_, h5 | ⟨g', cap', cur', hv', _⟩⟩ := HAP.out.more
              · omega
              · cases hv'; exact ⟨_, rfl⟩
            have := (row_cell HAP.out.more rfl (i := x) (by simp; exact hlt)).1
            simp only [Nat.zero_add, List.getElem_map, List.getElem_range] at this
            exact ⟨g, rfl, this⟩
          go_wp2
          go_loop [9] (fun i => ∃ x : Nat, x ≤ N ∧ i = .int .i64 (x : Int)) (fun i => N - (intOf i).toNat)
          case atStart => exact ⟨0, Nat.zero_le _, rfl⟩
          case round =>
            obtain ⟨x, hx, rfl⟩ := hrel
            by_cases hlt : x < N
            · have hVf : ∃ vo vc, V x = .slice vo (n x) vc := by
                rcases HVF.out x hlt with ⟨h1, h2⟩ | ⟨g, c', h1⟩
                · exact ⟨_, _, by rw [h1, h2]⟩
                · exact ⟨_, _, h1⟩
              obtain ⟨vo, vc, hV⟩ := hVf
              have HV := Lib.hid hV
              have ca : wr.cell? ⟨b, off + x, none⟩ = some (.slice vo (n x) vc) := by
                rw [← HV.out]
                exact (World.cell?_of_block (w := w) (a := ⟨b, off + x, none⟩) HBB.out).trans (av_at HAV.out hlt)
              obtain ⟨g, hmo, cm⟩ := HXX.out x hlt
              subst hmo
              have hrow := HAP.out.done x hlt
              obtain ⟨lg, lc, hM⟩ : ∃ lg lc, M x = .slice (some ⟨lg, 0, none⟩) (n x + 70) lc := by
                rcases vform_row hrow with ⟨_, h2⟩ | ⟨g', c', h2⟩
                · omega
                · exact ⟨g', c', h2⟩
              rw [hM] at cm hrow
              have hsrc := HAP.out.src x hlt
              rw [hV] at hsrc
              have HROW := Lib.hid hrow; have HSRC := Lib.hid hsrc
              have hx0 : (0 : Int) ≤ (x : Int) := by omega
              have hx1 : (x : Int) < (N : Int) := by omega
              obtain ⟨nx, hnxe⟩ : ∃ nx, n x = nx := ⟨_, rfl⟩
              have HNX := Lib.hid hnxe
              rw [hnxe] at ca cm HROW HSRC
              have HNB : Hid ((nx : Int) + 70 ≤ 140737488355328) := by have := HNN.out x hlt; rw [hnxe] at this; exact this
              have hnb : (nx : Int) ≤ 140737488355328 := by have := HNB.out; omega
              have HC1 : Hid (∀ y, y < nx → ∃ vg vof, vo = some ⟨vg, vof, none⟩ ∧ wr.cell? ⟨vg, vof + y, none⟩ = some (.int .u8 ((37 * (x : Int) + (y : Int)) % 256)) ∧ wr.cell? ⟨lg, y, none⟩ = some (.int .u8 ((37 * (x : Int) + (y : Int)) % 256))) := fun y hy => by
                have hl : (full1 x nx).length = nx := full1_len _ _
                have hg : (full1 x nx)[y]? = some (mk1 x y) := by unfold full1; rw [List.getElem?_map, List.getElem?_range hy]; rfl
                have h2 := (row_cell HROW.out rfl (i := y) (by rw [List.length_map, List.length_append, hl]; omega)).1
                simp only [Nat.zero_add] at h2
                have h3 : ((full1 x nx ++ full2 x 70).map bV)[y]? = some (bV (mk1 x y)) := by rw [List.getElem?_map, List.getElem?_append_left (by omega), hg]; rfl
                rcases HSRC.out with ⟨_, _, _, h5, _⟩ | ⟨vg, vof, cp, h5, _, _, _, h6⟩
                · have := congrArg List.length h5; simp [hl] at this; omega
                · injection h5 with h5 _ _
                  refine ⟨vg, vof, h5, ?_, ?_⟩
                  · rw [← mk1_v]; exact h6 y _ (by rw [List.getElem?_map, hg]; rfl)
                  · rw [h2, ← mk1_v]
                    rw [List.getElem?_eq_getElem (by rw [List.length_map, List.length_append, hl]; omega)] at h3
                    exact h3
              have HC2 : Hid (∀ z, z < 70 → wr.cell? ⟨lg, nx + z, none⟩ = some (.int .u8 ((11 * (x : Int) + (z : Int)) % 256))) := fun z hz => by
                have hl : (full1 x nx).length = nx := full1_len _ _
                have hl2 : (full2 x 70).length = 70 := full2_len _ _
                have hg : (full2 x 70)[z]? = some (mk2 x z) := by unfold full2; rw [List.getElem?_map, List.getElem?_range hz]; rfl
                have hlen : nx + z < ((full1 x nx ++ full2 x 70).map bV).length := by rw [List.length_map, List.length_append, hl, hl2]; omega
                have h2 := (row_cell HROW.out rfl (i := nx + z) hlen).1
                simp only [Nat.zero_add] at h2
                have h3 : ((full1 x nx ++ full2 x 70).map bV)[nx + z]? = some (bV (mk2 x z)) := by
                  rw [List.getElem?_map, List.getElem?_append_right (by omega), hl, Nat.add_sub_cancel_left, hg]; rfl
                rw [h2, ← mk2_v]
                rw [List.getElem?_eq_getElem hlen] at h3
                exact h3
              clear hV hM hrow hsrc hnxe
              go_wp2
              go_loop [11] (fun k => ∃ y : Nat, y ≤ nx ∧ k = .int .i64 (y : Int)) (fun k => nx - (intOf k).toNat)
              case atStart => exact ⟨0, Nat.zero_le _, rfl⟩
              case round =>
                obtain ⟨y, hy, rfl⟩ := hrel
                by_cases hylt : y < nx
                · obtain ⟨vg, vof, hvo, d1, d2⟩ := HC1.out y hylt
                  subst hvo
                  have hy0 : (0 : Int) ≤ (y : Int) := by omega
                  have hy1 : (y : Int) < (nx : Int) := by omega
                  have hy3 : (y : Int) < (nx : Int) + 70 := by omega
                  have hy4 : y < nx + 70 := by omega
                  have hbe : ((37 * (x : Int) + (y : Int)) % 256 != (37 * (x : Int) + (y : Int)) % 256) = false := by simp
                  go_wp2
                  go_round
                  case rel => exact ⟨y + 1, by omega, by go_num⟩
                  case measure => simp [intOf]; omega
                · go_wp2
                  go_loop [12] (fun k => ∃ z : Nat, z ≤ 70 ∧ k = .int .i64 (z : Int)) (fun k => 70 - (intOf k).toNat)
                  case atStart => exact ⟨0, Nat.zero_le _, rfl⟩
                  case round =>
                    clear hylt hy
                    obtain ⟨z, hz, rfl⟩ := hrel
                    have HZ := Lib.hid hz
                    clear hz
                    by_cases hzlt : z < 70
                    · have d3 := HC2.out z hzlt
                      have hz0 : (0 : Int) ≤ (z : Int) := by omega
                      have hz1 : (z : Int) < 70 := by omega
                      have hz2 : (0 : Int) ≤ (nx : Int) + (z : Int) := by omega
                      have hz3 : (nx : Int) + (z : Int) < (nx : Int) + 70 := by omega
                      have hz4 : nx + z < nx + 70 := by omega
                      have HZL := Lib.hid hzlt
                      clear hzlt
                      have hbe : ((11 * (x : Int) + (z : Int)) % 256 != (11 * (x : Int) + (z : Int)) % 256) = false := by simp
                      go_wp2
                      go_round
                      case rel => exact ⟨z + 1, HZL.out, by go_num⟩
                      case measure => have := HZL.out; simp [intOf]; omega
                    · obtain rfl : 70 = z := by have := HZ.out; omega
                      clear hzlt
                      go_wp2
                      go_round
                      case rel => exact ⟨x + 1, by omega, by go_num⟩
                      case measure => simp [intOf]; omega
            · go_wp2
              go_ret
              exact ⟨rfl, HBEL.out⟩

end Go.Proofs.Ytaaeaaahllicbaa
