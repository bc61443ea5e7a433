/- The reference's reader: Text. -/
import Derived.Test.YthepoplekabcoaaRefF
import Derived.Test.YthepoplekabcoaaCodE
namespace Go.Proofs.Ythepoplekabcoaa
open Go.RowKit Go.Maps

set_option maxHeartbeats 2000000 in
theorem refText_ok {w : World} {s : Nat} {v : Value} {bs : List UInt8} {p : Nat} (h : Rf w s v bs p 0) (n1 : Int) (hm1 : -9223372036854775808 ≤ n1) (hm2 : n1 ≤ 9223372036854775807) : Calls Try.prog 41 #[.pointer (some ⟨s, 0, none⟩), .int .i64 n1] w (RefG w s v bs p (.string ⟨#[]⟩) (dT (bs.drop p) n1)) := by
  obtain ⟨ao, cap, rfl⟩ := h.src.len
  have hblk := h.blk
  have hsrc := h.src
  rw [List.length_map] at hblk hsrc h ⊢
  have c0 : w.cell? ⟨s, 0, none⟩ = some (.slice ao bs.length cap) := cell_of hblk rfl
  have c1 : w.cell? ⟨s, 1, none⟩ = some (.int .i64 (p : Int)) := cell_of hblk rfl
  have c2 : w.cell? ⟨s, 2, none⟩ = some (.int .i64 0) := cell_of hblk rfl
  have hle := h.le
  have hlen := h.len
  obtain ⟨n, hn⟩ : ∃ n, bs.length = n := ⟨_, rfl⟩
  have HN := Lib.hid hn
  rw [hn] at c0 hle hlen hsrc h hblk ⊢
  have H := Lib.hid h
  have HBLK := Lib.hid hblk
  have HSRC := Lib.hid (hsrc.below (bw_drew1 (BW.refl w)))
  have HDL : Hid (((bs.drop p).length : Int) ≤ 140737488351232) := by unfold Hid; rw [List.length_drop]; omega
  have HDL2 : Hid ((bs.drop p).length = n - p) := by unfold Hid; rw [List.length_drop, HN.out]
  clear h hn hblk hsrc
  go_enter Try.func41, Try.ntmps41
  go_upto_region 3 with (fail)
  go_cut [5, 6] from 17 to 29 (fun x y wx => ∃ u k : Nat, x = .int .u64 (u : Int) ∧ y = .int .i64 (k : Int) ∧ BW w wx ∧ u < 18446744073709551616 ∧ (deco (bs.drop p) = some (u, k) ∨ (deco (bs.drop p) = none ∧ u = 0 ∧ k = 0)))
  case first =>
    by_cases hcp : cap = p
    · have HSUB := Lib.hid (sub_src1 HSRC.out HN.out hle hcp)
      go_region_with ((go_at_call 56; refine (number_any (l := bs.drop p) HSUB.out HDL.out).mono ?_; rintro e w1 ⟨u, k, rfl, hb, hu, hcase⟩; have HB := Lib.hid hb; have HU := Lib.hid hu; have HCASE := Lib.hid hcase; clear hb hu hcase))
      all_goals
        go_wp2
        go_meet
        exact ⟨u, k, rfl, rfl, (bw_drew1 (BW.refl w)).trans HB.out, HU.out, HCASE.out⟩
    · have HSUB := Lib.hid (sub_src2 HSRC.out HN.out hle hcp)
      go_region_with ((go_at_call 56; refine (number_any (l := bs.drop p) HSUB.out HDL.out).mono ?_; rintro e w1 ⟨u, k, rfl, hb, hu, hcase⟩; have HB := Lib.hid hb; have HU := Lib.hid hu; have HCASE := Lib.hid hcase; clear hb hu hcase))
      all_goals
        go_wp2
        go_meet
        exact ⟨u, k, rfl, rfl, (bw_drew1 (BW.refl w)).trans HB.out, HU.out, HCASE.out⟩
  case rest =>
    obtain ⟨u, k, rfl, rfl, hb, hu, hcase⟩ := hcut
    have HB := Lib.hid hb; have HU := Lib.hid hu
    have hu0 : 0 ≤ (u : Int) := by omega
    have hu1 : (u : Int) ≤ 18446744073709551615 := by omega
    have H1 := Lib.hid (H.out.below hb)
    have d0 : wc.cell? ⟨s, 0, none⟩ = some (.slice ao n cap) := cell_of H1.out.blk rfl
    have d1 : wc.cell? ⟨s, 1, none⟩ = some (.int .i64 (p : Int)) := cell_of H1.out.blk rfl
    have d2 : wc.cell? ⟨s, 2, none⟩ = some (.int .i64 0) := cell_of H1.out.blk rfl
    have f1 : wc.frozen? ⟨s, 1, none⟩ = false := unfrozen_of H1.out.blk
    have f2 : wc.frozen? ⟨s, 2, none⟩ = false := unfrozen_of H1.out.blk
    clear hb hu c0 c1 c2
    rcases hcase with hd | ⟨hd, rfl, rfl⟩
    · obtain ⟨_, _, hk2, hk1, hk3⟩ := deco_some hd
      have hk2' : k ≤ n - p := by rw [← HDL2.out]; exact hk2
      have HD := Lib.hid hd
      clear hd hk2
      have hk0 : ((k : Int) == 0) = false := by rw [beq_eq_false_iff_ne]; omega
      by_cases hc : 0 ≤ n1 ∧ (u : Int) ≤ n1
      · obtain ⟨ha, hb⟩ := hc
        have HSD : Hid (sizeD (bs.drop p) n1 = some (u, k)) := by
          unfold Hid sizeD; rw [HD.out]; simp only [Option.bind_some]; rw [if_pos ⟨ha, hb⟩]
        obtain ⟨r, hr⟩ : ∃ r : Nat, n - p - k = r := ⟨_, rfl⟩
        have hs1 : IntKind.i64.wrap ((n : Int) - (p : Int)) = (n : Int) - (p : Int) := IntWalk.i64_in _ (by omega)
        have hs2 : IntKind.i64.wrap ((n : Int) - (p : Int) - (k : Int)) = (r : Int) := by rw [IntWalk.i64_in _ (by omega)]; omega
        have hr0 : 0 ≤ (r : Int) := by omega
        have hr1 : (r : Int) ≤ 18446744073709551615 := by omega
        by_cases hgt : (r : Int) < (u : Int)
        · have HDS : Hid (dT (bs.drop p) n1 = none) := dT_long HSD.out (by rw [List.length_drop, HDL2.out]; omega)
          have hd1 : decide ((r : Int) < (u : Int)) = true := decide_eq_true hgt
          have hd2 : decide (n1 < 0) = false := decide_eq_false (by omega)
          have hd3 : decide (n1 < (u : Int)) = false := decide_eq_false (by omega)
          go_wp2
          go_quiet (fail)
          go_wp2
          go_ret
          exact ⟨_, rfl, (Moves.of_below HB.out _).trans (Moves.setCell (F := fun b => b = s) (moves_drewN (Moves.refl _ _) _) (fun _ => rfl) _) (fun _ _ e => e), .inr ⟨HDS.out, rfl, H1.out.turn (Moves.setCell (F := fun b => b = s) (moves_drewN (Moves.refl _ _) _) (fun _ => rfl) _) (heap_set (w := wc.drewN _) H1.out.blk _) H1.out.le⟩⟩
        · have hle2 : u ≤ r := by omega
          have hd1 : decide ((r : Int) < (u : Int)) = false := decide_eq_false hgt
          have hd2 : decide (n1 < 0) = false := decide_eq_false (by omega)
          have hd3 : decide (n1 < (u : Int)) = false := decide_eq_false (by omega)
          have hu64 : (u : Int) ≤ 9223372036854775807 := by omega
          have HTT : Hid (dT (bs.drop p) n1 = some (.string ⟨(((bs.drop p).drop k).take u).toArray⟩, k + u)) := dT_some HSD.out (by rw [List.length_drop, HDL2.out]; omega)
          obtain ⟨f, hf⟩ : ∃ f : Nat, f = p + k := ⟨_, rfl⟩
          obtain ⟨t, ht⟩ : ∃ t : Nat, t = f + u := ⟨_, rfl⟩
          have hfi : (p : Int) + (k : Int) = (f : Int) := by omega
          have hti : (f : Int) + (u : Int) = (t : Int) := by omega
          have htn : t ≤ n := by omega
          have hft : f ≤ t := by omega
          have hti0 : 0 ≤ (t : Int) := by omega
          have hfi0 : 0 ≤ (f : Int) := by omega
          have hti1 : (t : Int) ≤ 140737488351232 := by omega
          have hfi1 : (f : Int) ≤ 140737488351232 := by omega
          have hncap : n ≤ cap := by
            rcases H1.out.src with ⟨ao', c', e, e2, h5, h6⟩ | ⟨b', off', c', hv, h1, h2, h3, h4⟩
            · injection e with _ e1 _; omega
            · injection hv with _ e1 e2; omega
          have HFE := Lib.hid hf; have HTE := Lib.hid ht
          clear hf ht
          go_wp2
          go_quiet (fail)
          clear hs1 hs2 hr0 hr1 hd1 hd2 hd3 hk0 hgt
          go_wp2
          generalize hW2 : (wc.drewN nq).setCell ⟨s, 1, none⟩ _ = W2
          have HM2 : Hid (Moves (fun b => b = s) wc W2) := by unfold Hid; rw [← hW2]; exact Moves.setCell (F := fun b => b = s) (moves_drewN (Moves.refl _ _) _) (fun _ => rfl) _
          have HR2 : Hid (Rf W2 s (.slice ao n cap) bs t 0) := by
            have := H1.out.turn (q := t) HM2.out (by rw [← hW2]; exact heap_set (w := wc.drewN _) H1.out.blk _) (by rw [HN.out]; exact htn)
            exact this
          clear hW2 d0 d1 d2 f1 f2
          have e0 : W2.cell? ⟨s, 0, none⟩ = some (.slice ao n cap) := cell_of HR2.out.blk rfl
          have e1 : W2.cell? ⟨s, 1, none⟩ = some (.int .i64 (t : Int)) := cell_of HR2.out.blk rfl
          have hstr : (bs.drop f).take (t - f) = ((bs.drop p).drop k).take u := by rw [List.drop_drop, ← HFE.out, HTE.out, Nat.add_sub_cancel_left]
          have HSTR := Lib.hid hstr
          clear hstr hfi hti
          have htf : t - f ≤ (bs.drop f).length := by rw [List.length_drop, HN.out]; omega
          have HTF := Lib.hid htf
          clear htf
          by_cases hcp : cap = f
          · have hconv : ∀ m, (convert 22 9 (.slice ao (t - f) 0)).run Try.prog (W2.drewN m) = .ok (.string ⟨(((bs.drop p).drop k).take u).toArray⟩) (W2.drewN m) := fun m => by
              rw [← HSTR.out]
              refine src_string (bs := (bs.drop f).take (t - f)) ?_
              rw [List.map_take]
              exact (((sub_src1 HR2.out.src HN.out (by omega) hcp).taken (m := t - f) (by rw [List.length_map]; exact HTF.out))).drew m
            go_quiet (fail)
            go_wp2
            go_ret
            exact ⟨_, rfl, (Moves.of_below HB.out _).trans (moves_drewN HM2.out _) (fun _ _ e => e), .inl ⟨k + u, by have h9 := HTT.out; rw [List.drop_drop] at h9; exact h9, by rw [← Nat.add_assoc, ← HFE.out, ← HTE.out]; exact HR2.out.below (drewN_below _ _)⟩⟩
          · have hconv : ∀ m, (convert 22 9 (.slice (Option.map (fun x => x.add f) ao) (t - f) (cap - f))).run Try.prog (W2.drewN m) = .ok (.string ⟨(((bs.drop p).drop k).take u).toArray⟩) (W2.drewN m) := fun m => by
              rw [← HSTR.out]
              refine src_string (bs := (bs.drop f).take (t - f)) ?_
              rw [List.map_take]
              exact (((sub_src2 HR2.out.src HN.out (by omega) hcp).taken (m := t - f) (by rw [List.length_map]; exact HTF.out))).drew m
            go_quiet (fail)
            go_wp2
            go_ret
            exact ⟨_, rfl, (Moves.of_below HB.out _).trans (moves_drewN HM2.out _) (fun _ _ e => e), .inl ⟨k + u, by have h9 := HTT.out; rw [List.drop_drop] at h9; exact h9, by rw [← Nat.add_assoc, ← HFE.out, ← HTE.out]; exact HR2.out.below (drewN_below _ _)⟩⟩
      · have HDS : Hid (dT (bs.drop p) n1 = none) := dT_none (by unfold sizeD; rw [HD.out]; simp only [Option.bind_some]; rw [if_neg hc])
        by_cases ha : 0 ≤ n1
        · have hb : n1 < (u : Int) := by omega
          have hd2 : decide (n1 < 0) = false := decide_eq_false (by omega)
          have hd3 : decide (n1 < (u : Int)) = true := decide_eq_true hb
          clear hc
          go_wp2
          go_quiet (fail)
          go_wp2
          go_ret
          exact ⟨_, rfl, (Moves.of_below HB.out _).trans (Moves.setCell (F := fun b => b = s) (moves_drewN (Moves.refl _ _) _) (fun _ => rfl) _) (fun _ _ e => e), .inr ⟨HDS.out, rfl, H1.out.turn (Moves.setCell (F := fun b => b = s) (moves_drewN (Moves.refl _ _) _) (fun _ => rfl) _) (heap_set (w := wc.drewN _) H1.out.blk _) H1.out.le⟩⟩
        · have hd2 : decide (n1 < 0) = true := decide_eq_true (by omega)
          clear hc
          go_wp2
          go_quiet (fail)
          go_wp2
          go_ret
          exact ⟨_, rfl, (Moves.of_below HB.out _).trans (Moves.setCell (F := fun b => b = s) (moves_drewN (Moves.refl _ _) _) (fun _ => rfl) _) (fun _ _ e => e), .inr ⟨HDS.out, rfl, H1.out.turn (Moves.setCell (F := fun b => b = s) (moves_drewN (Moves.refl _ _) _) (fun _ => rfl) _) (heap_set (w := wc.drewN _) H1.out.blk _) H1.out.le⟩⟩
    · have HD := Lib.hid hd
      clear hd
      have HDS : Hid (dT (bs.drop p) n1 = none) := dT_none (by unfold sizeD; rw [HD.out]; rfl)
      go_wp2
      go_quiet (fail)
      go_wp2
      go_ret
      exact ⟨_, rfl, (Moves.of_below HB.out _).trans (Moves.setCell (F := fun b => b = s) (moves_drewN (Moves.refl _ _) _) (fun _ => rfl) _) (fun _ _ e => e), .inr ⟨HDS.out, rfl, H1.out.turn (Moves.setCell (F := fun b => b = s) (moves_drewN (Moves.refl _ _) _) (fun _ => rfl) _) (heap_set (w := wc.drewN _) H1.out.blk _) H1.out.le⟩⟩

end Go.Proofs.Ythepoplekabcoaa
