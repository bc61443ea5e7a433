/- FoldBack: the walk. -/
import Derived.Test.YthhdmpdnfelhnaaDoorFldT
import Derived.Deep.RegionLaw
import Derived.Deep.AppendLies
import Derived.Deep.RegionHeld3
namespace Go.Proofs.YthhdmpdnfelhnaaDoor
open Go.RowKit Go.Maps Fld Go.Shelf
attribute [local go_sem] Oper.semAt_some

def zV (z : Int) : Value := .int .i32 z
def sel (l : List Int) : List Nat := (l.filter isRune).map Int.toNat
theorem sel_yes {l : List Int} {z : Int} (h : isRune z = true) : sel (l ++ [z]) = sel l ++ [z.toNat] := by
  unfold sel; rw [List.filter_append, List.map_append]; simp [h]
theorem sel_no {l : List Int} {z : Int} (h : isRune z = false) : sel (l ++ [z]) = sel l := by
  unfold sel; rw [List.filter_append, List.map_append]; simp [h]
theorem sel_len (l : List Int) : (sel l).length ≤ l.length := by unfold sel; rw [List.length_map]; exact List.length_filter_le _ _
theorem sel_rune {l : List Int} : ∀ r ∈ sel l, isRune (r : Int) = true := by
  intro r hr
  obtain ⟨z, hz, rfl⟩ := List.mem_map.1 hr
  have h := (List.mem_filter.1 hz).2
  have h0 : 0 ≤ z := by unfold isRune at h; rw [decide_eq_true_eq] at h; exact h.1
  rw [Int.toNat_of_nonneg h0]; exact h
theorem forms_len : ∀ (rs : List Nat), (rs.flatMap formP).length ≤ 4 * rs.length
  | [] => by simp
  | r :: rs => by
    rw [List.flatMap_cons, List.length_append, List.length_cons]
    have h1 := forms_len rs
    have h2 : (formP r).length ≤ 4 := by rw [form_len]; split <;> (try split) <;> (try split) <;> omega
    omega
theorem places_forms : ∀ (rs : List Nat) (k : Nat), (placesC k (rs.map fun r => (r, formP r))).map (·.2) = rs
  | [], _ => rfl
  | r :: rs, k => by rw [List.map_cons, placesC, List.map_cons, places_forms rs]
theorem places_of {rs : List Nat} (h : ∀ r ∈ rs, isRune (r : Int) = true) : (placesL (rs.flatMap formP)).map (·.2) = rs := by
  unfold placesL; rw [cuts_forms rs h, places_forms]
theorem src_blk {w : World} {a : Addr} {n cap : Nat} {xs : List Value} (h : Src w (.slice (some a) n cap) xs) {i : Nat} {u : Value} (hu : xs[i]? = some u) : a.block < w.heap.size := by
  obtain ⟨b, off, e, hc⟩ := src_get h hu
  cases e
  exact World.block_lt_of_cell? w ⟨b, off + i, none⟩ hc
theorem boxed_drew {W : World} {B : Nat} {t : TypeId} {v : Value} (h : Boxed W B t v) : Boxed W.drew B t v := h
theorem back_end {w1 Wx w3 : World} {D m : Nat} {vw v6 : Value} {rs : List Nat} (hD : D = w1.heap.size) (hb : Boxed Wx D 26 vw) (hr : Wx.ownsRow D 21 1 vw rs.length (rs.map rV)) (hbw : BW w1 Wx)
    (hown : w3.ownsRow D 21 1 v6 (rs.length + 1) (rs.map rV ++ [Value.int .i32 (m : Int)])) (hg : Wx.grownBy w3 vw.ownBlock) :
    Boxed w3 D 26 vw ∧ Boxed (w3.setCell ⟨D, 0, none⟩ v6) D 26 v6 ∧ (w3.setCell ⟨D, 0, none⟩ v6).ownsRow D 21 1 v6 (rs ++ [m]).length ((rs ++ [m]).map rV) ∧ BW w1 (w3.setCell ⟨D, 0, none⟩ v6) := by
  have b1 : Boxed w3 D 26 vw := hb.kept hg (hb.not_row (by decide) hr)
  refine ⟨b1, b1.set v6, ?_, ?_⟩
  · rw [List.map_append, List.length_append]
    exact hown.kept (grownBy_setCell' w3 _ v6) (.inr (b1.not_row (by decide) hown).symm)
  · exact (bw_grown hbw hg (fun j e => by have := row_own hr j e; omega)).setCell (p := ⟨D, 0, none⟩) (by show w1.heap.size ≤ D; omega) _
set_option maxRecDepth 100000 in
set_option maxHeartbeats 8000000 in
theorem foldBack_any {w : World} {v : Value} {zs : List Int} (h : Src w v (zs.map zV)) (hz : ∀ z ∈ zs, -2147483648 ≤ z ∧ z ≤ 2147483647) (hlen : (zs.length : Int) ≤ 35184372087808) (hT : Tabs w) : Calls Tryd.prog 6 #[v] w (TruePost w) := by
  have HTB := Lib.hid hT
  clear hT
  obtain ⟨ao, cap, rfl⟩ := h.len
  rw [List.length_map] at h ⊢
  obtain ⟨n, hn⟩ : ∃ n, n = zs.length := ⟨_, rfl⟩
  rw [← hn] at h hlen ⊢
  have H := Lib.hid h; have HN := Lib.hid hn; have HZ := Lib.hid hz
  clear h hn hz
  refine (callsIn_wide (n := 5)).1 ?_
  refine callsIn_of_wp_marks Tryd.func6 rfl trivial ?_ rfl
  simp only [Tryd.ntmps6, List.size_toArray, List.length_cons, List.length_nil, Nat.reduceAdd, Nat.reduceSub, Array.replicate_succ, Array.replicate_zero, List.push_toArray, List.append_toArray, List.nil_append, List.cons_append]
  refine wpIn_wide.2 ?_
  go_wp2_with fail
  refine (known_any _ (HTB.out.bw (bw_alloc w _))).mono ?_
  rintro e w1 ⟨rfl, hq⟩
  obtain ⟨A, hA⟩ : ∃ A, A = w.heap.size := ⟨_, rfl⟩
  have hq2 := boxed_bw (Boxed.new w 4 (.bool false)) hq
  rw [← hA] at hq2 ⊢
  have HC2 : Hid (Boxed w1 A 4 (.bool false)) := hq2
  have HB1 : Hid (BW w w1) := (bw_alloc w _).trans hq
  have HAA := Lib.hid hA
  have HS1 := Lib.hid (H.out.below HB1.out)
  clear hq hq2 hA
  obtain ⟨D, hD⟩ : ∃ D, D = w1.heap.size := ⟨_, rfl⟩
  have HD := Lib.hid hD
  have HAD : Hid (A < D) := by unfold Hid; rw [hD]; exact HC2.out.lt
  go_wp2
  rw [← hD]
  clear hD
  go_loopw [3, 5] (fun s3 s5 wx => ∃ (i : Nat) (vw : Value), i ≤ n ∧ s5 = .int .i64 (i : Int) ∧ s3 = .string ⟨((sel (zs.take i)).flatMap formP).toArray⟩ ∧ Boxed wx D 26 vw ∧ wx.ownsRow D 21 1 vw (sel (zs.take i)).length ((sel (zs.take i)).map rV) ∧ BW w1 wx) (fun _ s5 _ => n - (intOf s5).toNat)
  case atStart => exact ⟨0, .slice none 0 0, Nat.zero_le _, rfl, rfl, by rw [HD.out]; exact Boxed.new w1 26 _, World.ownsRow_nil _ _ _ _, bw_alloc w1 _⟩
  case round =>
    obtain ⟨i, vw, hi, rfl, rfl, hbx, hrow, hbw⟩ := hrel
    have HBX := Lib.hid hbx; have HROW := Lib.hid hrow; have HBW := Lib.hid hbw
    have hi0 : 0 ≤ (i : Int) := by omega
    clear hbx hrow hbw
    by_cases hlt : i < n
    · have hlti : (i : Int) < (n : Int) := by omega
      have hil : i < zs.length := by have := HN.out; omega
      obtain ⟨z, hzz⟩ : ∃ z, z = zs[i] := ⟨_, rfl⟩
      obtain ⟨b0, o0, rfl, hc0⟩ := src_get (HS1.out.below HBW.out) (i := i) (u := zV z) (by rw [List.getElem?_map, List.getElem?_eq_getElem hil, hzz]; rfl)
      unfold zV at hc0
      have HB0 : Hid (b0 < w1.heap.size) := src_blk HS1.out (i := i) (u := .int .i32 z) (by rw [List.getElem?_map, List.getElem?_eq_getElem hil, hzz]; rfl)
      have hzb := HZ.out z (by rw [hzz]; exact List.getElem_mem _)
      have HTK : Hid (zs.take (i + 1) = zs.take i ++ [z]) := by unfold Hid; rw [List.take_succ_eq_append_getElem hil, hzz]
      obtain ⟨rs, hrs⟩ : ∃ rs, rs = sel (zs.take i) := ⟨_, rfl⟩
      have HRL : Hid (rs.length ≤ i) := by
        unfold Hid; rw [hrs]; have := sel_len (zs.take i); rw [List.length_take] at this; omega
      rw [← hrs] at HROW ⊢
      have HRS := Lib.hid hrs
      have HLT : Hid (i + 1 ≤ n) := hlt
      clear hil hzz hrs hlt hi
      have HW : Hid (∀ W2 : World, BW wr W2 → Boxed W2 D 26 vw ∧ W2.ownsRow D 21 1 vw rs.length (rs.map rV) ∧ BW w1 W2 ∧ W2.cell? ⟨b0, o0 + i, none⟩ = some (.int .i32 z)) := fun W2 hq =>
        ⟨boxed_bw HBX.out hq, rowN_keep HROW.out fun b hb => hq.block b (row_blk HROW.out hb).2, HBW.out.trans hq, (World.cell?_of_block (w := wr) (a := ⟨b0, o0 + i, none⟩) (hq.block b0 (cell_lt hc0))).trans hc0⟩
      by_cases hr : isRune z = true
      · obtain ⟨m, rfl⟩ : ∃ m : Nat, z = (m : Int) := ⟨z.toNat, by unfold isRune at hr; rw [decide_eq_true_eq] at hr; omega⟩
        have hm := isRune_nat.1 hr
        have HPUT := Lib.hid (fun W => put_yes hzb.1 hzb.2 hr W)
        rw [Int.toNat_natCast] at HPUT
        have HSEL : Hid (sel (zs.take (i + 1)) = rs ++ [m]) := by unfold Hid; rw [HTK.out, sel_yes hr, Int.toNat_natCast, HRS.out]
        have g1 : decide (0 ≤ (m : Int)) = true := decide_eq_true (by omega)
        have g2 : decide ((m : Int) ≤ 1114111) = true := decide_eq_true (by omega)
        obtain ⟨fr, hfr⟩ : ∃ fr, fr = formP m := ⟨_, rfl⟩
        have hfl : (fr.length : Int) ≤ 4 := by rw [hfr, form_len]; split <;> (try split) <;> (try split) <;> omega
        rw [← hfr] at HPUT
        obtain ⟨tx, htx⟩ : ∃ tx, tx = rs.flatMap formP := ⟨_, rfl⟩
        have htl : (tx.length : Int) ≤ 140737488351232 := by rw [htx]; have := forms_len rs; have := HRL.out; omega
        have hsum : (tx.length : Int) + (fr.length : Int) ≤ 140737488355328 := by omega
        have HTX : Hid ((sel (zs.take (i + 1))).flatMap formP = tx ++ fr) := by unfold Hid; rw [HSEL.out, List.flatMap_append, htx, hfr]; simp
        rw [← htx]
        have HRB : Hid ((rs.length + 1) * 4 ≤ 140737488355328) := by have := HRL.out; unfold Hid; omega
        obtain ⟨i0, hi9, hz0, hz1, hz2⟩ := infoOf info_i32
        have HI9 := Lib.hid hi9; have HZ0 := Lib.hid hz0; have HZ1 := Lib.hid hz1; have HZ2 := Lib.hid hz2
        have hsp : m < 55296 ∨ (¬ m < 55296 ∧ 57343 < m) := by omega
        clear hr hm hzb hfr htx hi9 hz0 hz1 hz2
        rcases hsp with h1 | ⟨h1, h2⟩
        · have g3 : decide ((m : Int) < 55296) = true := decide_eq_true (by omega)
          clear h1
          go_wp2_with fail
          refine (HPUT.out _).mono ?_
          rintro e W2 ⟨rfl, hq⟩
          obtain ⟨hbx2, hrow2, hbw2, hc2⟩ := HW.out W2 hq
          have c4 := hbx2.cell
          have HBX2 := Lib.hid hbx2; have HROW2 := Lib.hid hrow2; have HBW2 := Lib.hid hbw2
          obtain ⟨Wx, hWx⟩ : ∃ Wx, Wx = (W2.alloc (.cells #[.int .i32 (m : Int)] 21)).drew := ⟨_, rfl⟩
          have HX1 : Hid (Boxed Wx D 26 vw) := by unfold Hid; rw [hWx]; exact boxed_drew (HBX2.out.alloc _)
          have HX2 : Hid (Wx.ownsRow D 21 1 vw rs.length (rs.map rV)) := by unfold Hid; rw [hWx]; exact (show (W2.alloc (.cells #[.int .i32 (m : Int)] 21)).ownsRow D 21 1 vw rs.length (rs.map rV) from HROW2.out.alloc _)
          have HX3 : Hid (BW w1 Wx) := by unfold Hid; rw [hWx]; exact bw_drew (HBW2.out.alloc _) 1
          have HX4 : Hid (∀ j u, [Value.int .i32 (m : Int)][j]? = some u → Wx.cell? ((⟨W2.heap.size, 0, none⟩ : Addr).add j) = some u) := by
            unfold Hid; rw [hWx]
            intro j u hu
            match j with
            | 0 => simp at hu; subst hu; exact cell_of (heap_new W2 _) rfl
            | j + 1 => simp at hu
          have HX5 : Hid (rs.length + 1 ≤ maxLen) := by have := HRB.out; unfold Hid maxLen; omega
          have HX6 : Hid (D ≤ Wx.heap.size) := by have := HX3.out.size; have := HD.out; unfold Hid; omega
          have hcx : Wx.cell? ⟨b0, o0 + i, none⟩ = some (.int .i32 (m : Int)) := by rw [hWx]; exact (show (W2.alloc _).cell? _ = _ from (World.cell?_alloc_lt _ _ _ (World.block_lt_of_cell? _ _ hc2)).trans hc2)
          have HCX := Lib.hid hcx
          have HEND : Hid (∀ (w3 : World) (v6 : Value), w3.ownsRow D 21 1 v6 (rs.length + 1) (rs.map rV ++ [Value.int .i32 (m : Int)]) → Wx.grownBy w3 vw.ownBlock → Boxed w3 D 26 vw ∧ Boxed (w3.setCell ⟨D, 0, none⟩ v6) D 26 v6 ∧ (w3.setCell ⟨D, 0, none⟩ v6).ownsRow D 21 1 v6 (rs ++ [m]).length ((rs ++ [m]).map rV) ∧ BW w1 (w3.setCell ⟨D, 0, none⟩ v6)) := fun w3 v6 h1 h2 => back_end HD.out HX1.out HX2.out HX3.out h1 h2
          have HC8 : Hid (∀ w3 : World, Wx.grownBy w3 vw.ownBlock → w3.cell? ⟨b0, o0 + i, none⟩ = some (.int .i32 (m : Int))) := fun w3 h => by
            refine (h.cell_far ⟨b0, o0 + i, none⟩ (World.block_lt_of_cell? _ _ HCX.out) (fun e => ?_)).trans HCX.out
            have := row_own HX2.out b0 e.symm; have := HB0.out; have := HD.out; omega
          have HC9 : Hid (∀ (w3 : World) (v6 : Value), w3.cell? ⟨b0, o0 + i, none⟩ = some (.int .i32 (m : Int)) → (w3.setCell ⟨D, 0, none⟩ v6).cell? ⟨b0, o0 + i, none⟩ = some (.int .i32 (m : Int))) := fun w3 v6 h => by
            have := HB0.out; have := HD.out
            rw [World.cell?_setCell_far _ _ _ _ (by show D ≠ b0; omega)]; exact h
          have c4x : (W2.alloc (.cells #[.int .i32 (m : Int)] 21)).cell? ⟨D, 0, none⟩ = some vw := (HBX2.out.alloc _).cell
          have HWX := Lib.hid hWx
          clear hq HPUT hc0 hbx2 hrow2 hbw2 hcx hWx
          go_wp2
          refine wp_region_noPanic ?_
          go_region_law (first
            | (rw [← HWX.out]; refine step_append_lies _ (by rfl) _ _ 26 rfl D 21 i0 (.int .i32 0) 1 4 Tryd.underlying26 HI9.out HZ0.out HZ1.out HZ2.out rfl (by decide) vw rs.length (rs.map rV) rfl HX2.out ⟨W2.heap.size, 0, none⟩ 1 1 [.int .i32 (m : Int)] rfl rfl HX4.out (by simp [Value.oneCell']) (by decide) HX5.out HRB.out HX6.out Wx.heap.size rfl ?_; intro gg cap6 w3 hown hgr hat hlt6; obtain ⟨e1, e2, e3, e4⟩ := HEND.out w3 _ hown hgr; have c6 := e1.cell; have f6 := e1.frozen; have c8 := HC8.out w3 hgr; have c9 := HC9.out w3 (.slice (some ⟨gg, 0, none⟩) (rs.length + 1) cap6) c8; have HE2 := Lib.hid e2; have HE3 := Lib.hid e3; have HE4 := Lib.hid e4; clear hown hgr hat hlt6 e1 e2 e3 e4))
          all_goals
            refine NoPanic.normal ?_
            go_wp2
            go_roundw
            case rel =>
              refine ⟨i + 1, _, HLT.out, by first | rfl | go_num, ?_, HE2.out, ?_, HE4.out⟩
              · rw [HTX.out, ByteArray.mk_append_mk]
              · rw [HSEL.out]; exact HE3.out
            case measure => simp [intOf]; have := HLT.out; omega
        · have g3 : decide ((m : Int) < 55296) = false := decide_eq_false (by omega)
          have g4 : decide (57343 < (m : Int)) = true := decide_eq_true (by omega)
          clear h1 h2
          go_wp2_with fail
          refine (HPUT.out _).mono ?_
          rintro e W2 ⟨rfl, hq⟩
          obtain ⟨hbx2, hrow2, hbw2, hc2⟩ := HW.out W2 hq
          have c4 := hbx2.cell
          have HBX2 := Lib.hid hbx2; have HROW2 := Lib.hid hrow2; have HBW2 := Lib.hid hbw2
          obtain ⟨Wx, hWx⟩ : ∃ Wx, Wx = (W2.alloc (.cells #[.int .i32 (m : Int)] 21)).drew := ⟨_, rfl⟩
          have HX1 : Hid (Boxed Wx D 26 vw) := by unfold Hid; rw [hWx]; exact boxed_drew (HBX2.out.alloc _)
          have HX2 : Hid (Wx.ownsRow D 21 1 vw rs.length (rs.map rV)) := by unfold Hid; rw [hWx]; exact (show (W2.alloc (.cells #[.int .i32 (m : Int)] 21)).ownsRow D 21 1 vw rs.length (rs.map rV) from HROW2.out.alloc _)
          have HX3 : Hid (BW w1 Wx) := by unfold Hid; rw [hWx]; exact bw_drew (HBW2.out.alloc _) 1
          have HX4 : Hid (∀ j u, [Value.int .i32 (m : Int)][j]? = some u → Wx.cell? ((⟨W2.heap.size, 0, none⟩ : Addr).add j) = some u) := by
            unfold Hid; rw [hWx]
            intro j u hu
            match j with
            | 0 => simp at hu; subst hu; exact cell_of (heap_new W2 _) rfl
            | j + 1 => simp at hu
          have HX5 : Hid (rs.length + 1 ≤ maxLen) := by have := HRB.out; unfold Hid maxLen; omega
          have HX6 : Hid (D ≤ Wx.heap.size) := by have := HX3.out.size; have := HD.out; unfold Hid; omega
          have hcx : Wx.cell? ⟨b0, o0 + i, none⟩ = some (.int .i32 (m : Int)) := by rw [hWx]; exact (show (W2.alloc _).cell? _ = _ from (World.cell?_alloc_lt _ _ _ (World.block_lt_of_cell? _ _ hc2)).trans hc2)
          have HCX := Lib.hid hcx
          have HEND : Hid (∀ (w3 : World) (v6 : Value), w3.ownsRow D 21 1 v6 (rs.length + 1) (rs.map rV ++ [Value.int .i32 (m : Int)]) → Wx.grownBy w3 vw.ownBlock → Boxed w3 D 26 vw ∧ Boxed (w3.setCell ⟨D, 0, none⟩ v6) D 26 v6 ∧ (w3.setCell ⟨D, 0, none⟩ v6).ownsRow D 21 1 v6 (rs ++ [m]).length ((rs ++ [m]).map rV) ∧ BW w1 (w3.setCell ⟨D, 0, none⟩ v6)) := fun w3 v6 h1 h2 => back_end HD.out HX1.out HX2.out HX3.out h1 h2
          have HC8 : Hid (∀ w3 : World, Wx.grownBy w3 vw.ownBlock → w3.cell? ⟨b0, o0 + i, none⟩ = some (.int .i32 (m : Int))) := fun w3 h => by
            refine (h.cell_far ⟨b0, o0 + i, none⟩ (World.block_lt_of_cell? _ _ HCX.out) (fun e => ?_)).trans HCX.out
            have := row_own HX2.out b0 e.symm; have := HB0.out; have := HD.out; omega
          have HC9 : Hid (∀ (w3 : World) (v6 : Value), w3.cell? ⟨b0, o0 + i, none⟩ = some (.int .i32 (m : Int)) → (w3.setCell ⟨D, 0, none⟩ v6).cell? ⟨b0, o0 + i, none⟩ = some (.int .i32 (m : Int))) := fun w3 v6 h => by
            have := HB0.out; have := HD.out
            rw [World.cell?_setCell_far _ _ _ _ (by show D ≠ b0; omega)]; exact h
          have c4x : (W2.alloc (.cells #[.int .i32 (m : Int)] 21)).cell? ⟨D, 0, none⟩ = some vw := (HBX2.out.alloc _).cell
          have HWX := Lib.hid hWx
          clear hq HPUT hc0 hbx2 hrow2 hbw2 hcx hWx
          go_wp2
          refine wp_region_noPanic ?_
          go_region_law (first
            | (rw [← HWX.out]; refine step_append_lies _ (by rfl) _ _ 26 rfl D 21 i0 (.int .i32 0) 1 4 Tryd.underlying26 HI9.out HZ0.out HZ1.out HZ2.out rfl (by decide) vw rs.length (rs.map rV) rfl HX2.out ⟨W2.heap.size, 0, none⟩ 1 1 [.int .i32 (m : Int)] rfl rfl HX4.out (by simp [Value.oneCell']) (by decide) HX5.out HRB.out HX6.out Wx.heap.size rfl ?_; intro gg cap6 w3 hown hgr hat hlt6; obtain ⟨e1, e2, e3, e4⟩ := HEND.out w3 _ hown hgr; have c6 := e1.cell; have f6 := e1.frozen; have c8 := HC8.out w3 hgr; have c9 := HC9.out w3 (.slice (some ⟨gg, 0, none⟩) (rs.length + 1) cap6) c8; have HE2 := Lib.hid e2; have HE3 := Lib.hid e3; have HE4 := Lib.hid e4; clear hown hgr hat hlt6 e1 e2 e3 e4))
          all_goals
            refine NoPanic.normal ?_
            go_wp2
            go_roundw
            case rel =>
              refine ⟨i + 1, _, HLT.out, by first | rfl | go_num, ?_, HE2.out, ?_, HE4.out⟩
              · rw [HTX.out, ByteArray.mk_append_mk]
              · rw [HSEL.out]; exact HE3.out
            case measure => simp [intOf]; have := HLT.out; omega
      · have hr : isRune z = false := by simpa using hr
        have HPUT := Lib.hid (fun W => put_no hzb.1 hzb.2 hr W)
        have HSEL : Hid (sel (zs.take (i + 1)) = rs) := by unfold Hid; rw [HTK.out, sel_no hr, HRS.out]
        have hsp : z < 0 ∨ 1114111 < z ∨ (55296 ≤ z ∧ z ≤ 57343) := by
          unfold isRune at hr; rw [decide_eq_false_iff_not] at hr; omega
        clear hr hzb
        rcases hsp with h1 | h1 | h1
        · have g1 : decide (0 ≤ z) = false := decide_eq_false (by omega)
          clear h1
          go_wp2_with fail
          refine (HPUT.out _).mono ?_
          rintro e W2 ⟨rfl, hq⟩
          obtain ⟨hbx2, hrow2, hbw2, hc2⟩ := HW.out W2 hq
          have HBX2 := Lib.hid hbx2; have HROW2 := Lib.hid hrow2; have HBW2 := Lib.hid hbw2
          clear hq HPUT hc0 hbx2 hrow2 hbw2
          go_wp2
          go_roundw
          case rel => exact ⟨i + 1, vw, HLT.out, by first | rfl | go_num, by rw [HSEL.out], HBX2.out, by rw [HSEL.out]; exact HROW2.out, HBW2.out⟩
          case measure => simp [intOf]; have := HLT.out; omega
        · have g1 : decide (0 ≤ z) = true := decide_eq_true (by omega)
          have g2 : decide (z ≤ 1114111) = false := decide_eq_false (by omega)
          clear h1
          go_wp2_with fail
          refine (HPUT.out _).mono ?_
          rintro e W2 ⟨rfl, hq⟩
          obtain ⟨hbx2, hrow2, hbw2, hc2⟩ := HW.out W2 hq
          have HBX2 := Lib.hid hbx2; have HROW2 := Lib.hid hrow2; have HBW2 := Lib.hid hbw2
          clear hq HPUT hc0 hbx2 hrow2 hbw2
          go_wp2
          go_roundw
          case rel => exact ⟨i + 1, vw, HLT.out, by first | rfl | go_num, by rw [HSEL.out], HBX2.out, by rw [HSEL.out]; exact HROW2.out, HBW2.out⟩
          case measure => simp [intOf]; have := HLT.out; omega
        · have g1 : decide (0 ≤ z) = true := decide_eq_true (by omega)
          have g2 : decide (z ≤ 1114111) = true := decide_eq_true (by omega)
          have g3 : decide (z < 55296) = false := decide_eq_false (by omega)
          have g4 : decide (57343 < z) = false := decide_eq_false (by omega)
          clear h1
          go_wp2_with fail
          refine (HPUT.out _).mono ?_
          rintro e W2 ⟨rfl, hq⟩
          obtain ⟨hbx2, hrow2, hbw2, hc2⟩ := HW.out W2 hq
          have HBX2 := Lib.hid hbx2; have HROW2 := Lib.hid hrow2; have HBW2 := Lib.hid hbw2
          clear hq HPUT hc0 hbx2 hrow2 hbw2
          go_wp2
          go_roundw
          case rel => exact ⟨i + 1, vw, HLT.out, by first | rfl | go_num, by rw [HSEL.out], HBX2.out, by rw [HSEL.out]; exact HROW2.out, HBW2.out⟩
          case measure => simp [intOf]; have := HLT.out; omega
    · have hni : (n : Int) ≤ (i : Int) := by omega
      have htake : zs.take i = zs := by rw [show i = zs.length by have := HN.out; omega]; exact List.take_length
      rw [htake] at HROW
      rw [htake]
      obtain ⟨rs, hrs⟩ : ∃ rs, rs = sel zs := ⟨_, rfl⟩
      rw [← hrs] at HROW ⊢
      obtain ⟨tl, htl⟩ : ∃ tl, tl = rs.flatMap formP := ⟨_, rfl⟩
      have hrl : rs.length ≤ n := by have := sel_len zs; have := HN.out; rw [hrs]; omega
      have htz : (tl.length : Int) ≤ 1000000000000000 := by rw [htl]; have := forms_len rs; omega
      have hru : ∀ r ∈ rs, isRune (r : Int) = true := by rw [hrs]; exact sel_rune
      have HV : Hid (∀ W, BW w W → Calls Tryd.prog 10 #[textV tl] W (BoolPost W true)) := fun W hW => by
        have h := valid_any tl htz W (HTB.out.bw hW)
        rw [htl, valid_forms hru] at h
        rw [htl]; exact h
      have HIN := Lib.hid (fun W => runes_in tl W)
      have HST := Lib.hid (fun (m Bn : Nat) (hm : 1 ≤ m) (W : World) (hB : Bn < W.heap.size) (hc : W.cell? ⟨Bn, 0, none⟩ = some (textV tl)) => runes_stops tl htz m Bn hm W hB hc)
      obtain ⟨ps, hps⟩ : ∃ ps, ps = placesL tl := ⟨_, rfl⟩
      have HPR : Hid (ps.map (·.2) = rs) := by unfold Hid; rw [hps, htl]; exact places_of hru
      rw [← hps] at HST
      rw [← htl]
      obtain ⟨tx, htx⟩ : ∃ tx : ByteArray, tx = ⟨tl.toArray⟩ := ⟨_, rfl⟩
      unfold textV at HV HIN HST
      rw [← htx] at HV HIN HST ⊢
      obtain ⟨ao2, cp2, rfl⟩ := (Src.of_row HROW.out).len
      rw [List.length_map] at HROW HBX
      have HRL := Lib.hid hrl
      have HHI := Lib.hid hlen
      obtain ⟨E, hE⟩ : ∃ E, E = wr.heap.size := ⟨_, rfl⟩
      have HE := Lib.hid hE
      have HDE : Hid (D < E) := by unfold Hid; rw [hE]; exact HBX.out.lt
      have HRA : Hid (Boxed wr A 4 (.bool false)) := boxed_bw HC2.out HBW.out
      have HBA : Hid (BW w wr) := HB1.out.trans HBW.out
      clear hrs htl hrl htz hru hps htx htake hi hlt hlen
      go_wp2_with fail
      refine (HIN.out _).mono ?_
      rintro e wR ⟨rfl, hwR⟩
      have hYS : (wr.alloc (.cells #[.int .i64 0] 3)).heap.size = E + 1 := by rw [World.size_alloc, HE.out]
      have HRS : Hid (wR.heap.size = E + 2) := by unfold Hid; rw [← hwR, World.size_alloc, hYS]
      have HR4 : Hid (Boxed wR A 4 (.bool false)) := by unfold Hid; rw [← hwR]; exact (HRA.out.alloc _).alloc _
      have HRD : Hid (Boxed wR D 26 (.slice ao2 rs.length cp2)) := by unfold Hid; rw [← hwR]; exact (HBX.out.alloc _).alloc _
      have HRW : Hid (wR.ownsRow D 21 1 (.slice ao2 rs.length cp2) rs.length (rs.map rV)) := by unfold Hid; rw [← hwR]; exact (HROW.out.alloc _).alloc _
      have HRI : Hid (Boxed wR E 3 (.int .i64 0)) := by unfold Hid; rw [← hwR, HE.out]; exact (Boxed.new wr 3 _).alloc _
      have HRB : Hid (Boxed wR (E + 1) 9 (.string tx)) := by unfold Hid; rw [← hwR, ← hYS]; exact Boxed.new _ 9 _
      have HBR : Hid (BW w wR) := by unfold Hid; rw [← hwR]; exact (HBA.out.alloc _).alloc _
      rw [hYS, ← HE.out]
      clear hwR hYS HIN hE
      go_wp2
      refine (wpIn_wide (n := 5)).1 ?_
      refine range_two (k1 := 80) (k2 := 81) (j1 := 80) (j2 := 11) (by decide) (gf := 25) (lb := #[.pointer (some ⟨E + 1, 0, none⟩)]) rfl (enters_of Tryd.func25 (by kernel_rfl) rfl)
        (HST.out _ (E + 1) (by decide) wR (by have := HRS.out; omega) HRB.out.cell) (fun h k => KeepsWalks.trans h k) (kpB_b (B := 0))
        (fun pre W => (Boxed W A 4 (.bool false) ∧ Boxed W E 3 (.int .i64 ((vals pre).length : Int))) ∧ (vals pre).map (·.2) <+: rs ∧ (Low E A wR W ∧ E ≤ W.heap.size) ∧ RowKit.Below w.heap.size w W)
        (fun _ pre _ => ¬ (vals pre).map (·.2) <+: rs)
        ?own ?ownx ?start ?assign ?body ?done ?stop (fun _ => KeepsWalks.refl _)
      case own =>
        refine OwnFrom.and (OwnFrom.and (Own.from (boxed_own _ _ _) _) (Own.from (boxed_own _ _ _) _)) (OwnFrom.and (fun _ _ _ _ hs _ _ => hs) (OwnFrom.and (low_own (by rw [HRS.out]; omega) (by rw [HRS.out]; omega)) (ownFrom_below (Nat.le_refl _) HBR.out.size)))
      case ownx => exact fun _ _ _ _ _ hs _ _ => hs
      case start => exact ⟨⟨HR4.out, HRI.out⟩, List.nil_prefix, ⟨fun b hb _ => rfl, by rw [HRS.out]; omega⟩, HBR.out⟩
      case assign =>
        intro l x W K hK
        gi_wp2
        simpa using hK
      case body =>
        rintro l' pre0 x W ⟨⟨h4, h11⟩, hpre, ⟨hlow, hDs⟩, hbel⟩ hlt
        obtain ⟨⟨x1, x2⟩, hxb⟩ := x
        have hvs : vals (pre0 ++ [(⟨(x1, x2), hxb⟩ : RX)]) = vals pre0 ++ [(x1, x2)] := by unfold vals; rw [List.map_append]; rfl
        replace hlt : (vals pre0).length < ps.length := by unfold vals; rw [List.length_map]; exact hlt
        have HVS := Lib.hid hvs
        obtain ⟨pre, hpr⟩ : ∃ pre, pre = vals pre0 := ⟨_, rfl⟩
        rw [← hpr] at h11 hpre hlt HVS
        clear hvs hpr
        have hps : ps.length = rs.length := by rw [← HPR.out, List.length_map]
        rw [hps] at hlt
        obtain ⟨c, hy⟩ : ∃ c, rs[pre.length]? = some c := ⟨_, List.getElem?_eq_getElem hlt⟩
        obtain ⟨b2, f2, rfl, q2⟩ := src_get (Src.of_row HRW.out) (i := pre.length) (u := rV c) (by rw [List.getElem?_map, hy]; rfl)
        have hb2 := row_blk HROW.out (b := b2) rfl
        have g2 : W.cell? ⟨b2, f2 + pre.length, none⟩ = some (.int .i32 (c : Int)) := (World.cell?_of_block (w := wR) (a := ⟨b2, f2 + pre.length, none⟩) (hlow b2 (by rw [HE.out]; exact hb2.2) (by have := HAD.out; omega))).trans q2
        have h9 : Boxed W D 26 (.slice (some ⟨b2, f2, none⟩) rs.length cp2) := (hlow D HDE.out (by have := HAD.out; omega)).trans HRD.out
        have HPX : Hid (pre.map (·.2) ++ [x2] <+: rs ↔ x2 = c) := prefix_next hpre (by rw [List.length_map]; exact hy)
        have HMP : Hid ((vals (pre0 ++ [(⟨(x1, x2), hxb⟩ : RX)])).map (·.2) = pre.map (·.2) ++ [x2]) := by unfold Hid; rw [HVS.out, List.map_append]; rfl
        have H4 := Lib.hid h4; have H9 := Lib.hid h9; have H11 := Lib.hid h11
        have HLOW := Lib.hid hlow; have HDS := Lib.hid hDs; have HBEL := Lib.hid hbel
        have c4 := h4.cell; have c9 := h9.cell; have c11 := h11.cell
        have f4 := h4.frozen; have f11 := h11.frozen
        obtain ⟨k, hk⟩ : ∃ k, k = pre.length := ⟨_, rfl⟩
        obtain ⟨nn, hnn⟩ : ∃ nn, nn = rs.length := ⟨_, rfl⟩
        rw [← hk] at g2 c11 hlt
        rw [← hnn] at c9 hlt
        have hki : (k : Int) < (nn : Int) := by omega
        have hk0 : 0 ≤ (k : Int) := by omega
        have hkb : (k : Int) ≤ 35184372087808 := by have := HRL.out; have := HHI.out; omega
        have d1 : decide (nn ≤ k) = false := decide_eq_false (by omega)
        have d2 : decide ((nn : Int) ≤ (k : Int)) = false := decide_eq_false (by omega)
        have HK := Lib.hid hk
        clear q2 hb2 h4 h9 h11 hlow hDs hbel hpre hy hlt hk hnn hps
        simp only [List.setIfInBounds_toArray, List.set_cons_zero, List.set_cons_succ]
        by_cases hc : x2 = c
        · have t2 : ((x2 : Int) != (c : Int)) = false := by simp [hc]
          have HP := Lib.hid (HPX.out.2 hc)
          clear hc
          gi_wp2
          have e : (((vals (pre0 ++ [(⟨(x1, x2), hxb⟩ : RX)])).length : Nat) : Int) = (k : Int) + 1 := by rw [HVS.out, List.length_append, HK.out]; simp
          refine ⟨(KeepsOthers.setCell _ _ _).from _, KeepsWalks.setCell _ _ _, ⟨⟨H4.out.other (by have := HAD.out; have := HDE.out; omega) _, ?_⟩, by rw [HMP.out]; exact HP.out, ⟨fun b hb hne => (Below.heap_setCell _ _ _ _ (by show b ≠ E; omega)).trans (HLOW.out b hb hne), by simpa [World.setCell] using HDS.out⟩, HBEL.out.setCell (p := ⟨E, 0, none⟩) (by have := HE.out; have := HBA.out.size; show w.heap.size ≤ E; omega) _⟩⟩
          rw [e]; exact H11.out.set _
        · have t2 : ((x2 : Int) != (c : Int)) = true := by simp; omega
          have HP : Hid (¬ pre.map (·.2) ++ [x2] <+: rs) := fun h => hc (HPX.out.1 h)
          clear hc
          gi_wp2
          exact ⟨(KeepsOthers.setCell _ _ _).from _, (by show ¬ (vals (pre0 ++ [_])).map (·.2) <+: rs; rw [HMP.out]; exact HP.out)⟩
      case done =>
        rintro D' ys W hD' hys ⟨⟨h4, h11⟩, hpre, ⟨hlow, hDs⟩, hbel⟩ hK
        have hyl : (vals ys).length = rs.length := by rw [hys, ← HPR.out, List.length_map]
        rw [hyl] at h11
        have h9 : Boxed W D 26 (.slice ao2 rs.length cp2) := (hlow D HDE.out (by have := HAD.out; omega)).trans HRD.out
        clear hys hyl hpre hlow
        have c4 := h4.cell; have c9 := h9.cell; have c11 := h11.cell
        have H4 := Lib.hid h4; have HBEL := Lib.hid hbel; have HK := Lib.hid hK; have HDP := Lib.hid hD'
        clear h4 h9 h11 hbel hK hD' hDs
        have hps : ((rs.length : Int) == (rs.length : Int)) = true := by simp
        go_wp2_with fail
        refine (HV.out _ HBEL.out).mono ?_
        rintro e W2 ⟨rfl, hq⟩
        have H42 : Boxed W2 A 4 (.bool false) := boxed_bw H4.out hq
        have c42 := H42.cell; have f42 := H42.frozen
        have hK0 : W2.heap[D']? = some (.deferred (some [])) := (hq.block D' (Array.getElem?_eq_some_iff.1 HK.out).1).trans HK.out
        have hbel2 : RowKit.Below w.heap.size w W2 := HBEL.out.trans (hq.mono HBEL.out.size)
        have hK2 : (W2.setCell ⟨A, 0, none⟩ (.bool true)).heap[D']? = some (.deferred (some [])) := (KeepsOthers.setCell W2 ⟨A, 0, none⟩ (.bool true)).same D' _ hK0 rfl
        have c5 := cell_kept (H42.set (.bool true)).cell (grownBy_putObj' _ D' (.deferred none)) (fun r e => by cases e; exact ⟨_, hK2, rfl⟩)
        have hfin := (hbel2.setCell (p := ⟨A, 0, none⟩) (by show w.heap.size ≤ A; rw [HAA.out]; exact Nat.le_refl _) (.bool true)).trans (belowK_b (w := w) (Nat.le_refl _) _ D' _ (.deferred none) (by have := HDP.out; have := HBR.out.size; omega) hK2 rfl rfl)
        have HF := Lib.hid hfin; have HC5 := Lib.hid c5; have HK2 := Lib.hid hK2
        clear hq hK0 hbel2 hK2 c5 hfin
        go_wp2
        refine ⟨by simp, .inl ⟨_, _, rfl, run_takeDeferred HK2.out, ?_⟩⟩
        have c5 := HC5.out
        exact ⟨.bool true, by simp [results, Tryd.results6, go_sem, c5], rfl, HF.out⟩
      case stop =>
        rintro D' c pre W _ hp h _
        exact absurd (by rw [← HPR.out]; exact hp.map _) h
end Go.Proofs.YthhdmpdnfelhnaaDoor
