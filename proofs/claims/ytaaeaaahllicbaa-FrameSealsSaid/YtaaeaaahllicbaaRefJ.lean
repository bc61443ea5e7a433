/- The document's reader: its End. -/
import Derived.Test.YtaaeaaahllicbaaRefI
namespace Go.Proofs.Ytaaeaaahllicbaa
open Go.RowKit Go.Maps

set_option maxHeartbeats 2000000 in
theorem refEnd_any {w : World} {s : Nat} {v : Value} {bs : List UInt8} {p : Nat} {e : Int} (h : Rf w s v bs p e) : Calls Try.prog 35 #[.pointer (some ⟨s, 0, none⟩)] w (RefEnd w s v bs p e) := by
  obtain ⟨ao, cap, rfl⟩ := h.src.len
  have hblk := h.blk
  rw [List.length_map] at hblk h ⊢
  have c0 : w.cell? ⟨s, 0, none⟩ = some (.slice ao bs.length cap) := cell_of hblk rfl
  have c1 : w.cell? ⟨s, 1, none⟩ = some (.int .i64 (p : Int)) := cell_of hblk rfl
  have c2 : w.cell? ⟨s, 2, none⟩ = some (.int .i64 e) := cell_of hblk rfl
  have f2 : w.frozen? ⟨s, 2, none⟩ = false := unfrozen_of hblk
  obtain ⟨n, hn⟩ : ∃ n, bs.length = n := ⟨_, rfl⟩
  have HN := Lib.hid hn
  unfold RefEnd
  rw [hn] at c0 h hblk ⊢
  have H := Lib.hid h
  clear h hn hblk
  by_cases he : e = 0
  · subst he
    by_cases hp : p < n
    · have hi : decide ((p : Int) < (n : Int)) = true := decide_eq_true (by omega)
      have hi2 : decide (p < n) = true := decide_eq_true hp
      rw [if_pos ⟨rfl, hp⟩]
      have HR : Hid (∀ m, Rf ((w.drewN m).setCell ⟨s, 2, none⟩ (.int .i64 20)) s (.slice ao n cap) bs p 20 ∧ Moves (fun b => b = s) w ((w.drewN m).setCell ⟨s, 2, none⟩ (.int .i64 20))) := fun m =>
        have hm := Moves.setCell (F := fun b => b = s) (moves_drewN (Moves.refl _ w) m) (p := ⟨s, 2, none⟩) (fun _ => rfl) (.int .i64 20)
        ⟨H.out.turn hm (heap_set (w := w.drewN m) H.out.blk _) H.out.le, hm⟩
      go_enter Try.func35, Try.ntmps35
      go_wp2
      go_quiet (fail)
      go_wp2_with (go_at_call 44; refine (refErr_any (HR.out _).1).mono ?_; rintro en w' ⟨rfl, rfl⟩)
      go_ret
      exact ⟨rfl, (HR.out _).2, (HR.out _).1⟩
    · have hi : decide ((p : Int) < (n : Int)) = false := decide_eq_false (by omega)
      have hi2 : decide (p < n) = false := decide_eq_false hp
      rw [if_neg (fun h => hp h.2)]
      go_enter Try.func35, Try.ntmps35
      go_wp2
      go_quiet (fail)
      go_wp2_with (go_at_call 44; refine (refErr_any (H.out.below (drewN_below _ _))).mono ?_; rintro en w' ⟨rfl, rfl⟩)
      go_ret
      exact ⟨rfl, moves_drewN (Moves.refl _ _) _, H.out.below (drewN_below _ _)⟩
  · have hb : (e == 0) = false := by rw [beq_eq_false_iff_ne]; exact he
    rw [if_neg (fun h => he h.1)]
    go_enter Try.func35, Try.ntmps35
    go_wp2
    go_quiet (fail)
    go_wp2_with (go_at_call 44; refine (refErr_any (H.out.below (drewN_below _ _))).mono ?_; rintro en w' ⟨rfl, rfl⟩)
    go_ret
    exact ⟨rfl, moves_drewN (Moves.refl _ _) _, H.out.below (drewN_below _ _)⟩
end Go.Proofs.Ytaaeaaahllicbaa
