/- The reference's reader with an error; a nil one; Int. -/
import Derived.Test.YthepoplekabcoaaRefE
namespace Go.Proofs.Ythepoplekabcoaa
open Go.RowKit Go.Maps

set_option maxHeartbeats 1000000 in
theorem refUint_bad {w : World} {s : Nat} {v : Value} {bs : List UInt8} {p : Nat} {e : Int} (h : Rf w s v bs p e) (he : (e != 0) = true) : Calls Try.prog 38 #[.pointer (some ⟨s, 0, none⟩)] w fun en w' => en = .returned (.int .u64 0) ∧ w = w' := by
  have c2 : w.cell? ⟨s, 2, none⟩ = some (.int .i64 e) := cell_of h.blk rfl
  clear h
  go_enter Try.func38, Try.ntmps38
  go_wp2
  go_ret
  exact ⟨rfl, rfl⟩
set_option maxHeartbeats 1000000 in
theorem refUint_nil {w : World} : Calls Try.prog 38 #[.pointer none] w fun en w' => en = .returned (.int .u64 0) ∧ w = w' := by
  go_enter Try.func38, Try.ntmps38
  go_wp2
  go_ret
  exact ⟨rfl, rfl⟩

set_option maxHeartbeats 1000000 in
theorem refSize_bad {w : World} {s : Nat} {v : Value} {bs : List UInt8} {p : Nat} {e : Int} (h : Rf w s v bs p e) (he : (e != 0) = true) (n : Int) : Calls Try.prog 40 #[.pointer (some ⟨s, 0, none⟩), .int .i64 n] w fun en w' => en = .returned (.int .i64 0) ∧ w = w' := by
  have c2 : w.cell? ⟨s, 2, none⟩ = some (.int .i64 e) := cell_of h.blk rfl
  clear h
  go_enter Try.func40, Try.ntmps40
  go_wp2
  go_ret
  exact ⟨rfl, rfl⟩
set_option maxHeartbeats 1000000 in
theorem refSize_nil {w : World} (n : Int) : Calls Try.prog 40 #[.pointer none, .int .i64 n] w fun en w' => en = .returned (.int .i64 0) ∧ w = w' := by
  go_enter Try.func40, Try.ntmps40
  go_wp2
  go_ret
  exact ⟨rfl, rfl⟩

set_option maxHeartbeats 1000000 in
theorem refText_bad {w : World} {s : Nat} {v : Value} {bs : List UInt8} {p : Nat} {e : Int} (h : Rf w s v bs p e) (he : (e != 0) = true) (n : Int) : Calls Try.prog 41 #[.pointer (some ⟨s, 0, none⟩), .int .i64 n] w fun en w' => en = .returned (.string ⟨#[]⟩) ∧ w = w' := by
  have c2 : w.cell? ⟨s, 2, none⟩ = some (.int .i64 e) := cell_of h.blk rfl
  clear h
  go_enter Try.func41, Try.ntmps41
  go_wp2
  go_ret
  exact ⟨rfl, rfl⟩
set_option maxHeartbeats 1000000 in
theorem refText_nil {w : World} (n : Int) : Calls Try.prog 41 #[.pointer none, .int .i64 n] w fun en w' => en = .returned (.string ⟨#[]⟩) ∧ w = w' := by
  go_enter Try.func41, Try.ntmps41
  go_wp2
  go_ret
  exact ⟨rfl, rfl⟩

set_option maxHeartbeats 1000000 in
theorem refBytes_bad {w : World} {s : Nat} {v : Value} {bs : List UInt8} {p : Nat} {e : Int} (h : Rf w s v bs p e) (he : (e != 0) = true) (n : Int) : Calls Try.prog 42 #[.pointer (some ⟨s, 0, none⟩), .int .i64 n] w fun en w' => en = .returned (.slice none 0 0) ∧ w = w' := by
  have c2 : w.cell? ⟨s, 2, none⟩ = some (.int .i64 e) := cell_of h.blk rfl
  clear h
  go_enter Try.func42, Try.ntmps42
  go_wp2
  go_ret
  exact ⟨rfl, rfl⟩
set_option maxHeartbeats 1000000 in
theorem refBytes_nil {w : World} (n : Int) : Calls Try.prog 42 #[.pointer none, .int .i64 n] w fun en w' => en = .returned (.slice none 0 0) ∧ w = w' := by
  go_enter Try.func42, Try.ntmps42
  go_wp2
  go_ret
  exact ⟨rfl, rfl⟩

theorem back0 : back 0 = 0 := rfl
set_option maxHeartbeats 1000000 in
theorem refInt_ok {w : World} {s : Nat} {v : Value} {bs : List UInt8} {p : Nat} (h : Rf w s v bs p 0) : Calls Try.prog 39 #[.pointer (some ⟨s, 0, none⟩)] w (RefG w s v bs p (.int .i64 0) (dI (bs.drop p))) := by
  have H := Lib.hid (refUint_ok h)
  clear h
  go_enter Try.func39, Try.ntmps39
  go_wp2_with fail
  refine H.out.mono ?_
  rintro e w1 ⟨x, rfl, hm, hcase⟩
  have HM := Lib.hid hm
  clear hm H
  cases hd : deco (bs.drop p) with
  | none =>
    rcases hcase with ⟨k, h1, h2⟩ | ⟨_, rfl, h2⟩
    · unfold dU at h1; rw [hd] at h1; cases h1
    · have H2 := Lib.hid h2; have HD := Lib.hid hd
      clear h2 hd
      go_wp2_with (go_at_call 57; refine (refBack_any 0 (by decide) _).mono ?_; rintro e w' ⟨rfl, rfl⟩)
      go_ret
      refine ⟨_, rfl, HM.out, .inr ⟨by unfold dI; rw [HD.out]; rfl, rfl, H2.out⟩⟩
  | some q =>
    obtain ⟨u, k⟩ := q
    have hu := (deco_some hd).1
    rcases hcase with ⟨k', h1, h2⟩ | ⟨h1, _, _⟩
    · unfold dU at h1; rw [hd] at h1; cases h1
      have H2 := Lib.hid h2; have HD := Lib.hid hd; have HU := Lib.hid hu
      clear h2 hd hu
      go_wp2_with (go_at_call 57; refine (refBack_any u HU.out _).mono ?_; rintro e w' ⟨rfl, rfl⟩)
      go_ret
      refine ⟨_, rfl, HM.out, .inl ⟨k, by unfold dI; rw [HD.out]; rfl, H2.out⟩⟩
    · unfold dU at h1; rw [hd] at h1; cases h1
set_option maxHeartbeats 1000000 in
theorem refInt_bad {w : World} {s : Nat} {v : Value} {bs : List UInt8} {p : Nat} {e : Int} (h : Rf w s v bs p e) (he : (e != 0) = true) : Calls Try.prog 39 #[.pointer (some ⟨s, 0, none⟩)] w fun en w' => en = .returned (.int .i64 0) ∧ w = w' := by
  have H := Lib.hid (refUint_bad h he)
  clear h he
  go_enter Try.func39, Try.ntmps39
  go_wp2_with (first | (go_at_call 38; refine H.out.mono ?_; rintro e w' ⟨rfl, rfl⟩) | (go_at_call 57; refine (refBack_any 0 (by decide) _).mono ?_; rintro e w' ⟨rfl, rfl⟩))
  go_ret
  exact ⟨rfl, rfl⟩
set_option maxHeartbeats 1000000 in
theorem refInt_nil {w : World} : Calls Try.prog 39 #[.pointer none] w fun en w' => en = .returned (.int .i64 0) ∧ w = w' := by
  go_enter Try.func39, Try.ntmps39
  go_wp2_with (first | (go_at_call 38; refine refUint_nil.mono ?_; rintro e w' ⟨rfl, rfl⟩) | (go_at_call 57; refine (refBack_any 0 (by decide) _).mono ?_; rintro e w' ⟨rfl, rfl⟩))
  go_ret
  exact ⟨rfl, rfl⟩

end Go.Proofs.Ythepoplekabcoaa
