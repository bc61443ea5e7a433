/- PackKnown: the walk. -/
import Derived.Test.YtdoliejihinpkaaPackU
namespace Go.Proofs.Ytdoliejihinpkaa
open Go.RowKit Go.Maps

theorem unb_no {w w' : World} {bs : List UInt8} {k n : Nat} {e : Ending} (h : UnbPost w bs k n e w') (hu : unbitsP bs k n = none) : e = .returned (.tuple #[.slice none 0 0, .int .i64 20]) ∧ BW w w' := by
  obtain ⟨v, er, rfl, hb, ⟨l', h1, _⟩ | ⟨h1, rfl, rfl⟩⟩ := h
  · rw [hu] at h1; cases h1
  · exact ⟨rfl, hb⟩
theorem pu1 : unbitsP [197, 0] 3 3 = some [5, 0, 3] := by decide +kernel
theorem pu2 : unbitsP [197, 0] 3 6 = none := by decide +kernel
theorem pu3 : unbitsP [197, 128] 3 3 = none := by decide +kernel
theorem pg7 : getP [14, 0] 3 = some ([7, 7, 7], 2) := by decide +kernel
theorem pg8 : getP [14, 0] 0 = some ([], 0) := rfl
theorem pp1 : putP [7, 7, 7] = [14, 0] := put_of_get (by decide +kernel)
theorem pb1 : getP [14, 65] 3 = none := by decide +kernel
theorem pb2 : getP [14] 3 = none := by decide +kernel
theorem pb3 : getP [1, 3, 24] 2 = none := by decide +kernel
theorem pb4 : getP [0, 1, 3] 2 = none := by decide +kernel
theorem pb5 : getP [1] 1 = none := by decide +kernel
theorem big_zero : ∃ zl : List Nat, unbitsP [] 0 1048576 = some zl ∧ zl.length = 1048576 := by
  refine ⟨digs 0 1048576 (n256 []), ?_, digs_len _ _ _⟩
  unfold unbitsP
  rw [if_pos ⟨by unfold packed; rfl, by rw [Nat.zero_mul]; decide⟩]

set_option maxHeartbeats 1000000 in
theorem bad_any {w : World} {v : Value} {bs : List UInt8} (h : Src w v (bs.map bV)) (n : Nat) (hn : n ≤ 1048576) (hg : getP bs n = none) : Calls Try.prog 32 #[.int .i64 (n : Int), v] w (TruePost w) := by
  have H := Lib.hid (get_any h n hn)
  have HG := Lib.hid hg
  clear h hg hn
  go_enter Try.func32, Try.ntmps32
  go_wp2_with fail
  refine H.out.mono ?_
  rintro e w1 hh
  obtain ⟨rfl, hb⟩ := get_no hh HG.out
  clear hh
  go_wp2
  go_ret
  exact ⟨rfl, hb⟩

end Go.Proofs.Ytdoliejihinpkaa
