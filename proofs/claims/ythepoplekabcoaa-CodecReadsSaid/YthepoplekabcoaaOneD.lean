/- One call of a reader and of the reference's: the same answer. Text. -/
import Derived.Test.YthepoplekabcoaaOneA
namespace Go.Proofs.Ythepoplekabcoaa
open Go.RowKit Go.Maps

set_option maxHeartbeats 4000000 in
set_option maxRecDepth 100000 in
theorem one_3_ok {w : World} {r c s : Nat} {v : Value} {bs : List UInt8} {p : Nat} (h : Pair w r c s v bs p 0) (n : Int) (hm1 : -9223372036854775808 ≤ n) (hm2 : n ≤ 9223372036854775807) :
    Calls Try.prog 21 #[.pointer (some ⟨r, 0, none⟩), .pointer (some ⟨s, 0, none⟩), .agg #[.int .i64 3, .int .i64 n]] w (OnePost w r c s v bs 0) := by
  have HP := Lib.hid ((h.below (bw_alloc w (.cells #[.int .i64 3, .int .i64 n] 46))).below (bw_drew1 (BW.refl _)))
  have HM1 := Lib.hid hm1; have HM2 := Lib.hid hm2
  have HBX : Hid (∀ w1, Moves (fun b => b = r) (w.alloc (.cells #[.int .i64 3, .int .i64 n] 46)).drew w1 → w1.cell? ⟨w.heap.size, 1, none⟩ = some (.int .i64 n)) := fun w1 hm => by
    have hr := h.rd.ltr
    have h1 := hm.block w.heap.size (by simp) (by intro e; rw [e] at hr; exact Nat.lt_irrefl _ hr)
    exact cell_of (h1.trans (heap_new w _)) rfl
  clear h hm1 hm2
  cases hd : textD (bs.drop p) n with
  | none =>
    have HD : Hid (dT (bs.drop p) n = none) := by unfold Hid dT; rw [hd]; rfl
    clear hd
    go_enter Try.func21, Try.ntmps21
    go_wp2
    go_region_with (first | (go_at_call 28; refine (call_T HP.out.rd n HM1.out HM2.out).mono ?_; rintro e w1 hh; obtain ⟨rfl, hm, hrd⟩ := hh.none HD.out; have HM := Lib.hid hm; have HR := Lib.hid hrd; have HF := Lib.hid (HP.out.rf.movedR hm HP.out.rs HP.out.vr); have b1 := HBX.out w1 hm; clear hh hm hrd) | (go_at_call 41; refine (refText_ok HF.out n HM1.out HM2.out).mono ?_; rintro e w2 hh; obtain ⟨rfl, hm, hrf⟩ := hh.none HD.out; have HST := Lib.hid (HP.out.step HM.out HR.out hm hrf (.inr rfl)); clear hh hm hrf))
    all_goals
      go_wp2
      go_ret
      exact ⟨ret_bool (by simp), p, 20, HST.out.1, moves_bw ((bw_drew1 (bw_alloc w _))) HST.out.2, fun h => absurd h (by decide)⟩
  | some q =>
    obtain ⟨u, k⟩ := q
    have HD : Hid (dT (bs.drop p) n = some (.string ⟨u.toArray⟩, k)) := by unfold Hid dT; rw [hd]; rfl
    clear hd
    generalize (⟨u.toArray⟩ : ByteArray) = u' at HD
    have hbe : (u'.toList == u'.toList) = true := by simp
    go_enter Try.func21, Try.ntmps21
    go_wp2
    go_region_with (first | (go_at_call 28; refine (call_T HP.out.rd n HM1.out HM2.out).mono ?_; rintro e w1 hh; obtain ⟨rfl, hm, hrd⟩ := hh.some HD.out; have HM := Lib.hid hm; have HR := Lib.hid hrd; have HF := Lib.hid (HP.out.rf.movedR hm HP.out.rs HP.out.vr); have b1 := HBX.out w1 hm; clear hh hm hrd) | (go_at_call 41; refine (refText_ok HF.out n HM1.out HM2.out).mono ?_; rintro e w2 hh; obtain ⟨rfl, hm, hrf⟩ := hh.some HD.out; have HST := Lib.hid (HP.out.step HM.out (by rw [← List.drop_drop]; exact HR.out) hm hrf (.inl rfl)); clear hh hm hrf))
    all_goals
      go_wp2
      go_ret
      exact ⟨ret_bool (by simp), p + k, 0, HST.out.1, moves_bw ((bw_drew1 (bw_alloc w _))) HST.out.2, fun h => absurd h (by decide)⟩
set_option maxHeartbeats 4000000 in
set_option maxRecDepth 100000 in
theorem one_3_bad {w : World} {r c s : Nat} {v : Value} {bs : List UInt8} {p : Nat} (h : Pair w r c s v bs p 20) (n : Int) :
    Calls Try.prog 21 #[.pointer (some ⟨r, 0, none⟩), .pointer (some ⟨s, 0, none⟩), .agg #[.int .i64 3, .int .i64 n]] w (OnePost w r c s v bs 20) := by
  have HP := Lib.hid ((h.below (bw_alloc w (.cells #[.int .i64 3, .int .i64 n] 46))).below (bw_drew1 (BW.refl _)))
  have HBX : Hid (∀ w1, BW (w.alloc (.cells #[.int .i64 3, .int .i64 n] 46)).drew w1 → w1.cell? ⟨w.heap.size, 1, none⟩ = some (.int .i64 n)) := fun w1 hm => by
    exact cell_of ((hm.block w.heap.size (by simp)).trans (heap_new w _)) rfl
  obtain ⟨vv, g1, _, _⟩ := HP.out.rd.ex
  have G1 := Lib.hid g1
  clear h g1
  go_enter Try.func21, Try.ntmps21
  go_wp2
  go_region_with (first | (go_at_call 28; refine (call_T_bad G1.out rfl n).mono ?_; rintro e w1 ⟨rfl, hb⟩; have HB := Lib.hid hb; have HP1 := Lib.hid (HP.out.below hb); have b1 := HBX.out w1 hb; clear hb) | (go_at_call 41; refine (refText_bad HP1.out.rf rfl n).mono ?_; rintro e w2 ⟨rfl, rfl⟩))
  all_goals
    go_wp2
    go_ret
    exact ⟨ret_bool (by simp), p, 20, HP1.out, moves_bw ((bw_drew1 (bw_alloc w _)).trans HB.out) (Moves.refl _ _), fun _ => rfl⟩
set_option maxHeartbeats 4000000 in
set_option maxRecDepth 100000 in
theorem one_3_nil {w : World} (n : Int) :
    Calls Try.prog 21 #[.pointer none, .pointer none, .agg #[.int .i64 3, .int .i64 n]] w (TruePost w) := by
  have HBX : Hid (∀ w1, BW (w.alloc (.cells #[.int .i64 3, .int .i64 n] 46)).drew w1 → w1.cell? ⟨w.heap.size, 1, none⟩ = some (.int .i64 n)) := fun w1 hm => by
    exact cell_of ((hm.block w.heap.size (by simp)).trans (heap_new w _)) rfl
  go_enter Try.func21, Try.ntmps21
  go_wp2
  go_region_with (first | (go_at_call 28; refine (call_T_nil n).mono ?_; rintro e w1 ⟨rfl, hb⟩; have HB := Lib.hid hb; have b1 := HBX.out w1 hb; clear hb) | (go_at_call 41; refine (refText_nil n).mono ?_; rintro e w2 ⟨rfl, rfl⟩))
  all_goals
    go_wp2
    go_ret
    exact ⟨ret_bool (by simp), (bw_drew1 (bw_alloc _ _)).trans HB.out⟩

end Go.Proofs.Ythepoplekabcoaa
