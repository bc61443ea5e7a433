/- One call of a reader and of the reference's: the same answer. Uint, Int. -/
import Derived.Test.YthepoplekabcoaaOneA
namespace Go.Proofs.Ythepoplekabcoaa
open Go.RowKit Go.Maps

set_option maxHeartbeats 2000000 in
theorem one_0_ok {w : World} {r c s : Nat} {v : Value} {bs : List UInt8} {p : Nat} (h : Pair w r c s v bs p 0) (n : Int) (hm1 : -9223372036854775808 ≤ n) (hm2 : n ≤ 9223372036854775807) :
    Calls Try.prog 21 #[.pointer (some ⟨r, 0, none⟩), .pointer (some ⟨s, 0, none⟩), .agg #[.int .i64 0, .int .i64 n]] w (OnePost w r c s v bs 0) := by
  have HP := Lib.hid (h.below (bw_alloc w (.cells #[.int .i64 0, .int .i64 n] 46)))
  have HM1 := Lib.hid hm1; have HM2 := Lib.hid hm2
  clear h hm1 hm2
  cases hd : deco (bs.drop p) with
  | none =>
    have HD : Hid (dU (bs.drop p) = none) := by unfold Hid dU; rw [hd]; rfl
    clear hd
    go_enter Try.func21, Try.ntmps21
    go_wp2_with fail
    refine (call_U HP.out.rd).mono ?_
    rintro e w1 hh
    obtain ⟨rfl, hm, hrd⟩ := hh.none HD.out
    have HM := Lib.hid hm; have HR := Lib.hid hrd
    have HF := Lib.hid (HP.out.rf.movedR hm HP.out.rs HP.out.vr)
    clear hh hm hrd
    go_wp2_with fail
    refine (refUint_ok HF.out).mono ?_
    rintro e w2 hh
    obtain ⟨rfl, hm, hrf⟩ := hh.none HD.out
    have HST := Lib.hid (HP.out.step HM.out HR.out hm hrf (.inr rfl))
    clear hh hm hrf
    go_wp2
    go_ret
    exact ⟨ret_bool (by simp), p, 20, HST.out.1, moves_alloc_rs HST.out.2, fun h => absurd h (by decide)⟩
  | some q =>
    obtain ⟨u, k⟩ := q
    have HD : Hid (dU (bs.drop p) = some (.int .u64 (u : Int), k)) := by unfold Hid dU; rw [hd]; rfl
    clear hd
    generalize (u : Int) = u' at HD
    go_enter Try.func21, Try.ntmps21
    go_wp2_with fail
    refine (call_U HP.out.rd).mono ?_
    rintro e w1 hh
    obtain ⟨rfl, hm, hrd⟩ := hh.some HD.out
    have HM := Lib.hid hm; have HR := Lib.hid hrd
    have HF := Lib.hid (HP.out.rf.movedR hm HP.out.rs HP.out.vr)
    clear hh hm hrd
    go_wp2_with fail
    refine (refUint_ok HF.out).mono ?_
    rintro e w2 hh
    obtain ⟨rfl, hm, hrf⟩ := hh.some HD.out
    have HST := Lib.hid (HP.out.step HM.out (by rw [← List.drop_drop]; exact HR.out) hm hrf (.inl rfl))
    clear hh hm hrf
    have hbe : (u' == u') = true := by simp
    go_wp2
    go_ret
    exact ⟨ret_bool (by simp), p + k, 0, HST.out.1, moves_alloc_rs HST.out.2, fun h => absurd h (by decide)⟩
set_option maxHeartbeats 2000000 in
theorem one_0_bad {w : World} {r c s : Nat} {v : Value} {bs : List UInt8} {p : Nat} (h : Pair w r c s v bs p 20) (n : Int) :
    Calls Try.prog 21 #[.pointer (some ⟨r, 0, none⟩), .pointer (some ⟨s, 0, none⟩), .agg #[.int .i64 0, .int .i64 n]] w (OnePost w r c s v bs 20) := by
  have HP := Lib.hid (h.below (bw_alloc w (.cells #[.int .i64 0, .int .i64 n] 46)))
  obtain ⟨vv, g1, _, _⟩ := HP.out.rd.ex
  have G1 := Lib.hid g1
  clear h g1
  go_enter Try.func21, Try.ntmps21
  go_wp2_with fail
  refine (call_U_bad G1.out rfl).mono ?_
  rintro e w1 ⟨rfl, rfl⟩
  go_wp2_with fail
  refine (refUint_bad HP.out.rf rfl).mono ?_
  rintro e w2 ⟨rfl, rfl⟩
  go_wp2
  go_ret
  exact ⟨ret_bool (by simp), p, 20, HP.out, moves_alloc_rs (Moves.refl _ _), fun _ => rfl⟩
set_option maxHeartbeats 2000000 in
theorem one_0_nil {w : World} (n : Int) :
    Calls Try.prog 21 #[.pointer none, .pointer none, .agg #[.int .i64 0, .int .i64 n]] w (TruePost w) := by
  go_enter Try.func21, Try.ntmps21
  go_wp2_with fail
  refine call_U_nil.mono ?_
  rintro e w1 ⟨rfl, rfl⟩
  go_wp2_with fail
  refine refUint_nil.mono ?_
  rintro e w2 ⟨rfl, rfl⟩
  go_wp2
  go_ret
  exact ⟨ret_bool (by simp), bw_alloc _ _⟩

set_option maxHeartbeats 2000000 in
theorem one_1_ok {w : World} {r c s : Nat} {v : Value} {bs : List UInt8} {p : Nat} (h : Pair w r c s v bs p 0) (n : Int) (hm1 : -9223372036854775808 ≤ n) (hm2 : n ≤ 9223372036854775807) :
    Calls Try.prog 21 #[.pointer (some ⟨r, 0, none⟩), .pointer (some ⟨s, 0, none⟩), .agg #[.int .i64 1, .int .i64 n]] w (OnePost w r c s v bs 0) := by
  have HP := Lib.hid (h.below (bw_alloc w (.cells #[.int .i64 1, .int .i64 n] 46)))
  have HM1 := Lib.hid hm1; have HM2 := Lib.hid hm2
  clear h hm1 hm2
  cases hd : deco (bs.drop p) with
  | none =>
    have HD : Hid (dI (bs.drop p) = none) := by unfold Hid dI; rw [hd]; rfl
    clear hd
    go_enter Try.func21, Try.ntmps21
    go_wp2_with fail
    refine (call_I HP.out.rd).mono ?_
    rintro e w1 hh
    obtain ⟨rfl, hm, hrd⟩ := hh.none HD.out
    have HM := Lib.hid hm; have HR := Lib.hid hrd
    have HF := Lib.hid (HP.out.rf.movedR hm HP.out.rs HP.out.vr)
    clear hh hm hrd
    go_wp2_with fail
    refine (refInt_ok HF.out).mono ?_
    rintro e w2 hh
    obtain ⟨rfl, hm, hrf⟩ := hh.none HD.out
    have HST := Lib.hid (HP.out.step HM.out HR.out hm hrf (.inr rfl))
    clear hh hm hrf
    go_wp2
    go_ret
    exact ⟨ret_bool (by simp), p, 20, HST.out.1, moves_alloc_rs HST.out.2, fun h => absurd h (by decide)⟩
  | some q =>
    obtain ⟨u, k⟩ := q
    have HD : Hid (dI (bs.drop p) = some (.int .i64 (back u), k)) := by unfold Hid dI; rw [hd]; rfl
    clear hd
    generalize back u = u' at HD
    go_enter Try.func21, Try.ntmps21
    go_wp2_with fail
    refine (call_I HP.out.rd).mono ?_
    rintro e w1 hh
    obtain ⟨rfl, hm, hrd⟩ := hh.some HD.out
    have HM := Lib.hid hm; have HR := Lib.hid hrd
    have HF := Lib.hid (HP.out.rf.movedR hm HP.out.rs HP.out.vr)
    clear hh hm hrd
    go_wp2_with fail
    refine (refInt_ok HF.out).mono ?_
    rintro e w2 hh
    obtain ⟨rfl, hm, hrf⟩ := hh.some HD.out
    have HST := Lib.hid (HP.out.step HM.out (by rw [← List.drop_drop]; exact HR.out) hm hrf (.inl rfl))
    clear hh hm hrf
    have hbe : (u' == u') = true := by simp
    go_wp2
    go_ret
    exact ⟨ret_bool (by simp), p + k, 0, HST.out.1, moves_alloc_rs HST.out.2, fun h => absurd h (by decide)⟩
set_option maxHeartbeats 2000000 in
theorem one_1_bad {w : World} {r c s : Nat} {v : Value} {bs : List UInt8} {p : Nat} (h : Pair w r c s v bs p 20) (n : Int) :
    Calls Try.prog 21 #[.pointer (some ⟨r, 0, none⟩), .pointer (some ⟨s, 0, none⟩), .agg #[.int .i64 1, .int .i64 n]] w (OnePost w r c s v bs 20) := by
  have HP := Lib.hid (h.below (bw_alloc w (.cells #[.int .i64 1, .int .i64 n] 46)))
  obtain ⟨vv, g1, _, _⟩ := HP.out.rd.ex
  have G1 := Lib.hid g1
  clear h g1
  go_enter Try.func21, Try.ntmps21
  go_wp2_with fail
  refine (call_I_bad G1.out rfl).mono ?_
  rintro e w1 ⟨rfl, rfl⟩
  go_wp2_with fail
  refine (refInt_bad HP.out.rf rfl).mono ?_
  rintro e w2 ⟨rfl, rfl⟩
  go_wp2
  go_ret
  exact ⟨ret_bool (by simp), p, 20, HP.out, moves_alloc_rs (Moves.refl _ _), fun _ => rfl⟩
set_option maxHeartbeats 2000000 in
theorem one_1_nil {w : World} (n : Int) :
    Calls Try.prog 21 #[.pointer none, .pointer none, .agg #[.int .i64 1, .int .i64 n]] w (TruePost w) := by
  go_enter Try.func21, Try.ntmps21
  go_wp2_with fail
  refine call_I_nil.mono ?_
  rintro e w1 ⟨rfl, rfl⟩
  go_wp2_with fail
  refine refInt_nil.mono ?_
  rintro e w2 ⟨rfl, rfl⟩
  go_wp2
  go_ret
  exact ⟨ret_bool (by simp), bw_alloc _ _⟩

end Go.Proofs.Ythepoplekabcoaa
