/- The reference's reader: Bytes, End. -/
import Derived.Test.YthepoplekabcoaaRefF
import Derived.Test.YthepoplekabcoaaCodF
import Derived.Test.YthepoplekabcoaaCodP
import Derived.StillTailTactics
namespace Go.Proofs.Ythepoplekabcoaa
open Go.RowKit Go.Maps

def RefBP (w : World) (s : Nat) (v : Value) (bs : List UInt8) (p : Nat) (n : Int) (e : Ending) (w' : World) : Prop :=
  ∃ x, e = .returned x ∧ Moves (fun b => b = s) w w' ∧ ((BytesOk (bs.drop p) n ∧ ∃ m : Nat, (m : Int) = n ∧ Rf w' s v bs (p + m) 0 ∧ Src w' x (((bs.drop p).take m).map bV)) ∨ (¬ BytesOk (bs.drop p) n ∧ x = .slice none 0 0 ∧ Rf w' s v bs p 20))

set_option maxHeartbeats 4000000 in
theorem refBytes_ok {w : World} {s : Nat} {v : Value} {bs : List UInt8} {p : Nat} (h : Rf w s v bs p 0) (n1 : Int) (hm1 : -9223372036854775808 ≤ n1) (hm2 : n1 ≤ 9223372036854775807) : Calls Try.prog 42 #[.pointer (some ⟨s, 0, none⟩), .int .i64 n1] w (RefBP w s v bs p n1) := by
  obtain ⟨ao, cap, rfl⟩ := h.src.len
  have hblk := h.blk
  rw [List.length_map] at hblk h ⊢
  have c0 : w.cell? ⟨s, 0, none⟩ = some (.slice ao bs.length cap) := cell_of hblk rfl
  have c1 : w.cell? ⟨s, 1, none⟩ = some (.int .i64 (p : Int)) := cell_of hblk rfl
  have c2 : w.cell? ⟨s, 2, none⟩ = some (.int .i64 0) := cell_of hblk rfl
  have f1 : w.frozen? ⟨s, 1, none⟩ = false := unfrozen_of hblk
  have f2 : w.frozen? ⟨s, 2, none⟩ = false := unfrozen_of hblk
  have hle := h.le
  have hlen := h.len
  obtain ⟨n, hn⟩ : ∃ n, bs.length = n := ⟨_, rfl⟩
  have HN := Lib.hid hn
  rw [hn] at c0 hle hlen h hblk ⊢
  have H := Lib.hid h
  have HDL2 : Hid ((bs.drop p).length = n - p) := by unfold Hid; rw [List.length_drop, HN.out]
  have hs1 : IntKind.i64.wrap ((n : Int) - (p : Int)) = (n : Int) - (p : Int) := IntWalk.i64_in _ (by omega)
  clear h hn hblk
  by_cases hok : BytesOk (bs.drop p) n1
  · have HOK := Lib.hid hok
    obtain ⟨ha, hb⟩ := hok
    rw [HDL2.out] at hb
    obtain ⟨m, rfl⟩ := Int.eq_ofNat_of_zero_le ha
    have hmr : m ≤ n - p := by omega
    have hd1 : decide ((m : Int) < 0) = false := decide_eq_false (by omega)
    have hd2 : decide ((n : Int) - (p : Int) < (m : Int)) = false := decide_eq_false (by omega)
    have hd3 : decide (0 ≤ (m : Int)) = true := decide_eq_true (by omega)
    have hd4 : decide ((m : Int) ≤ (n : Int) - (p : Int)) = true := decide_eq_true (by omega)
    obtain ⟨t, ht⟩ : ∃ t : Nat, t = p + m := ⟨_, rfl⟩
    have hti : (p : Int) + (m : Int) = (t : Int) := by omega
    have htw : IntKind.i64.wrap (t : Int) = (t : Int) := IntWalk.i64_in _ (by omega)
    have hti0 : 0 ≤ (t : Int) := by omega
    have hpt : p ≤ t := by omega
    have htn : t ≤ n := by omega
    have hncap : n ≤ cap := by
      rcases H.out.src with ⟨ao', c', e, e2, h5, h6⟩ | ⟨b', off', c', hv, h1, h2, h3, h4⟩
      · injection e with _ e1 _; omega
      · injection hv with _ e1 e2; omega
    have HTE := Lib.hid ht
    clear ha hb ht hmr
    go_enter Try.func42, Try.ntmps42
    go_wp2
    go_quiet (fail)
    clear hd1 hd2 hd3 hd4
    go_wp2
    generalize hW1 : w.drewN nq = W1
    have HW1 := Lib.hid hW1
    have d0 : W1.cell? ⟨s, 0, none⟩ = some (.slice ao n cap) := by rw [← hW1]; exact c0
    have d1 : W1.cell? ⟨s, 1, none⟩ = some (.int .i64 (p : Int)) := by rw [← hW1]; exact c1
    clear hW1 c0 c1 c2 f1 f2
    by_cases hcp : cap = p
    · have hA1 : (t : Int) ≤ (p : Int) := by omega
      go_still_tail 16, (by kernel_rfl)
      change wpList _ _ _ _ _ W1.drew
      have hb2 : BW w W1.drew := by rw [← HW1.out]; exact bw_drew1 (drewN_below w _)
      have HB2 := Lib.hid hb2
      have HS2 := Lib.hid (H.out.src.below hb2)
      generalize W1.drew = W2 at HB2 HS2 hb2 ⊢
      clear d0 d1 hb2 hti htw
      go_wp2_with (at_builtin; refine append_bytes rfl (.tmp 34) (.tmp 49) rfl w.heap.size (.slice none 0 0) 0 [] rfl ⟨rfl, .inl ⟨rfl, rfl⟩⟩ (.slice ao (t - p) 0) rfl ((bs.drop p).take m) (by rw [List.map_take]; have := (sub_src1 HS2.out HN.out (by omega) hcp).taken (m := t - p) (by rw [List.length_map, HDL2.out]; omega); rw [show m = t - p by have := HTE.out; omega]; exact this) (by rw [List.length_take, HDL2.out]; omega) ?_ ?_)
      · exact HB2.out.size
      intro v3 w3 ho3 hg3
      have hro : w3.ownsRow w.heap.size 5 1 v3 ((bs.drop p).take m).length (((bs.drop p).take m).map bV) := by simpa using ho3
      have HRO := Lib.hid hro
      have HO3 : Hid (Src w3 v3 (((bs.drop p).take m).map bV)) := Src.of_row hro
      clear hro
      have HB3 := Lib.hid (bw_grown HB2.out hg3 (fun k e => by cases e))
      clear ho3 hg3
      have H3 := Lib.hid (H.out.below HB3.out)
      have e1 : w3.cell? ⟨s, 1, none⟩ = some (.int .i64 (p : Int)) := cell_of H3.out.blk rfl
      have f1 : w3.frozen? ⟨s, 1, none⟩ = false := unfrozen_of H3.out.blk
      have hpm0 : (p : Int) + (m : Int) ≤ 140737488351232 := by have := HTE.out; omega
      obtain ⟨vo, vn, vc, rfl⟩ := HO3.out.len
      go_wp2
      go_ret
      have hpm : (p : Int) + (m : Int) = ((p + m : Nat) : Int) := by omega
      rw [hpm]
      have hms : Moves (fun b => b = s) w3 (w3.setCell ⟨s, 1, none⟩ (.int .i64 ((p + m : Nat) : Int))) := Moves.setCell (F := fun b => b = s) (Moves.refl _ _) (fun _ => rfl) _
      refine ⟨_, rfl, (Moves.of_below HB3.out _).trans hms (fun _ _ e => e), .inl ⟨HOK.out, m, rfl, H3.out.turn hms (heap_set H3.out.blk _) (by rw [HN.out, ← HTE.out]; exact htn), ?_⟩⟩
      refine HO3.out.keep hms.size (fun hne a n' k e => ?_)
      have h8 := row_base' HRO.out a n' k e
      have h9 := lt_of_heap H.out.blk
      exact Below.heap_setCell _ _ _ _ (by intro e2; rw [e2] at h8; exact absurd h9 (Nat.not_lt.2 h8))
    · have hA1 : (t : Int) ≤ (cap : Int) := by omega
      go_still_tail 16, (by kernel_rfl)
      change wpList _ _ _ _ _ W1.drew
      have hb2 : BW w W1.drew := by rw [← HW1.out]; exact bw_drew1 (drewN_below w _)
      have HB2 := Lib.hid hb2
      have HS2 := Lib.hid (H.out.src.below hb2)
      generalize W1.drew = W2 at HB2 HS2 hb2 ⊢
      clear d0 d1 hb2 hti htw
      go_wp2_with (at_builtin; refine append_bytes rfl (.tmp 34) (.tmp 49) rfl w.heap.size (.slice none 0 0) 0 [] rfl ⟨rfl, .inl ⟨rfl, rfl⟩⟩ (.slice (Option.map (fun x => x.add p) ao) (t - p) (cap - p)) rfl ((bs.drop p).take m) (by rw [List.map_take]; have := (sub_src2 HS2.out HN.out (by omega) hcp).taken (m := t - p) (by rw [List.length_map, HDL2.out]; omega); rw [show m = t - p by have := HTE.out; omega]; exact this) (by rw [List.length_take, HDL2.out]; omega) ?_ ?_)
      · exact HB2.out.size
      intro v3 w3 ho3 hg3
      have hro : w3.ownsRow w.heap.size 5 1 v3 ((bs.drop p).take m).length (((bs.drop p).take m).map bV) := by simpa using ho3
      have HRO := Lib.hid hro
      have HO3 : Hid (Src w3 v3 (((bs.drop p).take m).map bV)) := Src.of_row hro
      clear hro
      have HB3 := Lib.hid (bw_grown HB2.out hg3 (fun k e => by cases e))
      clear ho3 hg3
      have H3 := Lib.hid (H.out.below HB3.out)
      have e1 : w3.cell? ⟨s, 1, none⟩ = some (.int .i64 (p : Int)) := cell_of H3.out.blk rfl
      have f1 : w3.frozen? ⟨s, 1, none⟩ = false := unfrozen_of H3.out.blk
      have hpm0 : (p : Int) + (m : Int) ≤ 140737488351232 := by have := HTE.out; omega
      obtain ⟨vo, vn, vc, rfl⟩ := HO3.out.len
      go_wp2
      go_ret
      have hpm : (p : Int) + (m : Int) = ((p + m : Nat) : Int) := by omega
      rw [hpm]
      have hms : Moves (fun b => b = s) w3 (w3.setCell ⟨s, 1, none⟩ (.int .i64 ((p + m : Nat) : Int))) := Moves.setCell (F := fun b => b = s) (Moves.refl _ _) (fun _ => rfl) _
      refine ⟨_, rfl, (Moves.of_below HB3.out _).trans hms (fun _ _ e => e), .inl ⟨HOK.out, m, rfl, H3.out.turn hms (heap_set H3.out.blk _) (by rw [HN.out, ← HTE.out]; exact htn), ?_⟩⟩
      refine HO3.out.keep hms.size (fun hne a n' k e => ?_)
      have h8 := row_base' HRO.out a n' k e
      have h9 := lt_of_heap H.out.blk
      exact Below.heap_setCell _ _ _ _ (by intro e2; rw [e2] at h8; exact absurd h9 (Nat.not_lt.2 h8))
  · have HNO := Lib.hid hok
    have hcase : ¬ (0 ≤ n1 ∧ n1 ≤ ((n - p : Nat) : Int)) := by have := HNO.out; unfold BytesOk at this; rw [HDL2.out] at this; exact this
    clear hok
    by_cases ha : 0 ≤ n1
    · have hgt : (n : Int) - (p : Int) < n1 := by omega
      have hd1 : decide (n1 < 0) = false := decide_eq_false (by omega)
      have hd2 : decide ((n : Int) - (p : Int) < n1) = true := decide_eq_true hgt
      have hd4 : decide (n1 ≤ (n : Int) - (p : Int)) = false := decide_eq_false (by omega)
      clear hcase
      go_enter Try.func42, Try.ntmps42
      go_wp2
      go_quiet (fail)
      go_wp2
      go_ret
      exact ⟨_, rfl, Moves.setCell (F := fun b => b = s) (moves_drewN (Moves.refl _ _) _) (fun _ => rfl) _, .inr ⟨HNO.out, rfl, H.out.turn (Moves.setCell (F := fun b => b = s) (moves_drewN (Moves.refl _ _) _) (fun _ => rfl) _) (heap_set (w := w.drewN _) H.out.blk _) H.out.le⟩⟩
    · have hd1 : decide (n1 < 0) = true := decide_eq_true (by omega)
      clear hcase
      go_enter Try.func42, Try.ntmps42
      go_wp2
      go_quiet (fail)
      go_wp2
      go_ret
      exact ⟨_, rfl, Moves.setCell (F := fun b => b = s) (moves_drewN (Moves.refl _ _) _) (fun _ => rfl) _, .inr ⟨HNO.out, rfl, H.out.turn (Moves.setCell (F := fun b => b = s) (moves_drewN (Moves.refl _ _) _) (fun _ => rfl) _) (heap_set (w := w.drewN _) H.out.blk _) H.out.le⟩⟩

def RefEnd (w : World) (s : Nat) (v : Value) (bs : List UInt8) (p : Nat) (e : Int) (en : Ending) (w' : World) : Prop :=
  en = .returned (.int .i64 (if e = 0 ∧ p < bs.length then 20 else e)) ∧ Moves (fun b => b = s) w w' ∧ Rf w' s v bs p (if e = 0 ∧ p < bs.length then 20 else e)

set_option maxHeartbeats 2000000 in
theorem refEnd_any {w : World} {s : Nat} {v : Value} {bs : List UInt8} {p : Nat} {e : Int} (h : Rf w s v bs p e) : Calls Try.prog 43 #[.pointer (some ⟨s, 0, none⟩)] w (RefEnd w s v bs p e) := by
  obtain ⟨ao, cap, rfl⟩ := h.src.len
  have hblk := h.blk
  rw [List.length_map] at hblk h ⊢
  have c0 : w.cell? ⟨s, 0, none⟩ = some (.slice ao bs.length cap) := cell_of hblk rfl
  have c1 : w.cell? ⟨s, 1, none⟩ = some (.int .i64 (p : Int)) := cell_of hblk rfl
  have c2 : w.cell? ⟨s, 2, none⟩ = some (.int .i64 e) := cell_of hblk rfl
  have f2 : w.frozen? ⟨s, 2, none⟩ = false := unfrozen_of hblk
  obtain ⟨n, hn⟩ : ∃ n, bs.length = n := ⟨_, rfl⟩
  have HN := Lib.hid hn
  unfold RefEnd
  rw [hn] at c0 h hblk ⊢
  have H := Lib.hid h
  clear h hn hblk
  by_cases he : e = 0
  · subst he
    by_cases hp : p < n
    · have hi : decide ((p : Int) < (n : Int)) = true := decide_eq_true (by omega)
      have hi2 : decide (p < n) = true := decide_eq_true hp
      rw [if_pos ⟨rfl, hp⟩]
      have HR : Hid (∀ m, Rf ((w.drewN m).setCell ⟨s, 2, none⟩ (.int .i64 20)) s (.slice ao n cap) bs p 20 ∧ Moves (fun b => b = s) w ((w.drewN m).setCell ⟨s, 2, none⟩ (.int .i64 20))) := fun m =>
        have hm := Moves.setCell (F := fun b => b = s) (moves_drewN (Moves.refl _ w) m) (p := ⟨s, 2, none⟩) (fun _ => rfl) (.int .i64 20)
        ⟨H.out.turn hm (heap_set (w := w.drewN m) H.out.blk _) H.out.le, hm⟩
      go_enter Try.func43, Try.ntmps43
      go_wp2
      go_quiet (fail)
      go_wp2_with (go_at_call 24; refine (refErr_any (HR.out _).1).mono ?_; rintro en w' ⟨rfl, rfl⟩)
      go_ret
      exact ⟨rfl, (HR.out _).2, (HR.out _).1⟩
    · have hi : decide ((p : Int) < (n : Int)) = false := decide_eq_false (by omega)
      have hi2 : decide (p < n) = false := decide_eq_false hp
      rw [if_neg (fun h => hp h.2)]
      go_enter Try.func43, Try.ntmps43
      go_wp2
      go_quiet (fail)
      go_wp2_with (go_at_call 24; refine (refErr_any (H.out.below (drewN_below _ _))).mono ?_; rintro en w' ⟨rfl, rfl⟩)
      go_ret
      exact ⟨rfl, moves_drewN (Moves.refl _ _) _, H.out.below (drewN_below _ _)⟩
  · have hb : (e == 0) = false := by rw [beq_eq_false_iff_ne]; exact he
    rw [if_neg (fun h => he h.1)]
    go_enter Try.func43, Try.ntmps43
    go_wp2
    go_quiet (fail)
    go_wp2_with (go_at_call 24; refine (refErr_any (H.out.below (drewN_below _ _))).mono ?_; rintro en w' ⟨rfl, rfl⟩)
    go_ret
    exact ⟨rfl, moves_drewN (Moves.refl _ _) _, H.out.below (drewN_below _ _)⟩
set_option maxHeartbeats 2000000 in
theorem refEnd_nil {w : World} : Calls Try.prog 43 #[.pointer none] w fun en w' => en = .returned (.int .i64 20) ∧ BW w w' := by
  go_enter Try.func43, Try.ntmps43
  go_wp2
  go_quiet (fail)
  go_wp2_with (go_at_call 24; refine refErr_nil.mono ?_; rintro en w' ⟨rfl, rfl⟩)
  go_ret
  exact ⟨rfl, drewN_below _ _⟩

end Go.Proofs.Ythepoplekabcoaa
