/- The reference's reader: Size. -/
import Derived.Test.YtaaeaaahllicbaaRefI
import Derived.Test.YtaaeaaahllicbaaCodL
namespace Go.Proofs.Ytaaeaaahllicbaa
open Go.RowKit Go.Maps

set_option maxHeartbeats 2000000 in
theorem refSize_ok {w : World} {s : Nat} {v : Value} {bs : List UInt8} {p : Nat} (h : Rf w s v bs p 0) (n1 : Int) (hm1 : -9223372036854775808 ≤ n1) (hm2 : n1 ≤ 9223372036854775807) : Calls Try.prog 33 #[.pointer (some ⟨s, 0, none⟩), .int .i64 n1] w (RefG w s v bs p (.int .i64 0) (dS (bs.drop p) n1)) := by
  obtain ⟨ao, cap, rfl⟩ := h.src.len
  have hblk := h.blk
  have hsrc := h.src
  rw [List.length_map] at hblk hsrc h ⊢
  have c0 : w.cell? ⟨s, 0, none⟩ = some (.slice ao bs.length cap) := cell_of hblk rfl
  have c1 : w.cell? ⟨s, 1, none⟩ = some (.int .i64 (p : Int)) := cell_of hblk rfl
  have c2 : w.cell? ⟨s, 2, none⟩ = some (.int .i64 0) := cell_of hblk rfl
  have hle := h.le
  have hlen := h.len
  obtain ⟨n, hn⟩ : ∃ n, bs.length = n := ⟨_, rfl⟩
  have HN := Lib.hid hn
  rw [hn] at c0 hle hlen hsrc h hblk ⊢
  have H := Lib.hid h
  have HBLK := Lib.hid hblk
  have HSRC := Lib.hid (hsrc.below (bw_drew1 (BW.refl w)))
  have HDL : Hid (((bs.drop p).length : Int) ≤ 140737488351232) := by unfold Hid; rw [List.length_drop]; omega
  have HDL2 : Hid ((bs.drop p).length = n - p) := by unfold Hid; rw [List.length_drop, HN.out]
  clear h hn hblk hsrc
  go_enter Try.func33, Try.ntmps33
  go_upto_region 3 with (fail)
  go_cut [5, 6] from 16 to 28 (fun x y wx => ∃ u k : Nat, x = .int .u64 (u : Int) ∧ y = .int .i64 (k : Int) ∧ BW w wx ∧ u < 18446744073709551616 ∧ (deco (bs.drop p) = some (u, k) ∨ (deco (bs.drop p) = none ∧ u = 0 ∧ k = 0)))
  case first =>
    by_cases hcp : cap = p
    · have HSUB := Lib.hid (sub_src1 HSRC.out HN.out hle hcp)
      go_region_with ((go_at_call 43; refine (number_any (l := bs.drop p) HSUB.out HDL.out).mono ?_; rintro e w1 ⟨u, k, rfl, hb, hu, hcase⟩; have HB := Lib.hid hb; have HU := Lib.hid hu; have HCASE := Lib.hid hcase; clear hb hu hcase))
      all_goals
        go_wp2
        go_meet
        exact ⟨u, k, rfl, rfl, (bw_drew1 (BW.refl w)).trans HB.out, HU.out, HCASE.out⟩
    · have HSUB := Lib.hid (sub_src2 HSRC.out HN.out hle hcp)
      go_region_with ((go_at_call 43; refine (number_any (l := bs.drop p) HSUB.out HDL.out).mono ?_; rintro e w1 ⟨u, k, rfl, hb, hu, hcase⟩; have HB := Lib.hid hb; have HU := Lib.hid hu; have HCASE := Lib.hid hcase; clear hb hu hcase))
      all_goals
        go_wp2
        go_meet
        exact ⟨u, k, rfl, rfl, (bw_drew1 (BW.refl w)).trans HB.out, HU.out, HCASE.out⟩
  case rest =>
    obtain ⟨u, k, rfl, rfl, hb, hu, hcase⟩ := hcut
    have HB := Lib.hid hb; have HU := Lib.hid hu
    have hu0 : 0 ≤ (u : Int) := by omega
    have hu1 : (u : Int) ≤ 18446744073709551615 := by omega
    have H1 := Lib.hid (H.out.below hb)
    have d0 : wc.cell? ⟨s, 0, none⟩ = some (.slice ao n cap) := cell_of H1.out.blk rfl
    have d1 : wc.cell? ⟨s, 1, none⟩ = some (.int .i64 (p : Int)) := cell_of H1.out.blk rfl
    have d2 : wc.cell? ⟨s, 2, none⟩ = some (.int .i64 0) := cell_of H1.out.blk rfl
    have f1 : wc.frozen? ⟨s, 1, none⟩ = false := unfrozen_of H1.out.blk
    have f2 : wc.frozen? ⟨s, 2, none⟩ = false := unfrozen_of H1.out.blk
    clear hb hu c0 c1 c2
    rcases hcase with hd | ⟨hd, rfl, rfl⟩
    · obtain ⟨_, _, hk2, hk1, hk3⟩ := deco_some hd
      have hk2' : k ≤ n - p := by rw [← HDL2.out]; exact hk2
      have HD := Lib.hid hd
      clear hd hk2
      have hk0 : ((k : Int) == 0) = false := by rw [beq_eq_false_iff_ne]; omega
      by_cases hc : 0 ≤ n1 ∧ (u : Int) ≤ n1
      · obtain ⟨ha, hb⟩ := hc
        have HDS : Hid (dS (bs.drop p) n1 = some (.int .i64 (u : Int), k)) := by
          unfold Hid dS sizeD; rw [HD.out]; simp only [Option.bind_some]; rw [if_pos ⟨ha, hb⟩]; rfl
        go_wp2
        go_ret
        have hps : ((p : Int) + (k : Int)) = ((p + k : Nat) : Int) := by omega
        rw [hps]
        exact ⟨_, rfl, (Moves.of_below HB.out _).trans (Moves.setCell (F := fun b => b = s) (Moves.refl _ _) (fun _ => rfl) _) (fun _ _ e => e), .inl ⟨k, HDS.out, H1.out.turn (Moves.setCell (F := fun b => b = s) (Moves.refl _ _) (fun _ => rfl) _) (heap_set H1.out.blk _) (by rw [HN.out]; omega)⟩⟩
      · have HDS : Hid (dS (bs.drop p) n1 = none) := by
          unfold Hid dS sizeD; rw [HD.out]; simp only [Option.bind_some]; rw [if_neg hc]; rfl
        by_cases ha : 0 ≤ n1
        · have hb : n1 < (u : Int) := by omega
          clear hc
          go_wp2
          go_ret
          exact ⟨_, rfl, (Moves.of_below HB.out _).trans (Moves.setCell (F := fun b => b = s) (Moves.refl _ _) (fun _ => rfl) _) (fun _ _ e => e), .inr ⟨HDS.out, rfl, H1.out.turn (Moves.setCell (F := fun b => b = s) (Moves.refl _ _) (fun _ => rfl) _) (heap_set H1.out.blk _) H1.out.le⟩⟩
        · clear hc
          go_wp2
          go_ret
          exact ⟨_, rfl, (Moves.of_below HB.out _).trans (Moves.setCell (F := fun b => b = s) (Moves.refl _ _) (fun _ => rfl) _) (fun _ _ e => e), .inr ⟨HDS.out, rfl, H1.out.turn (Moves.setCell (F := fun b => b = s) (Moves.refl _ _) (fun _ => rfl) _) (heap_set H1.out.blk _) H1.out.le⟩⟩
    · have HD := Lib.hid hd
      clear hd
      go_wp2
      go_ret
      exact ⟨_, rfl, (Moves.of_below HB.out _).trans (Moves.setCell (F := fun b => b = s) (Moves.refl _ _) (fun _ => rfl) _) (fun _ _ e => e), .inr ⟨by unfold dS sizeD; rw [HD.out]; rfl, rfl, H1.out.turn (Moves.setCell (F := fun b => b = s) (Moves.refl _ _) (fun _ => rfl) _) (heap_set H1.out.blk _) H1.out.le⟩⟩

end Go.Proofs.Ytaaeaaahllicbaa
