/- The reference's Turned, Back, Text. -/
import Derived.Test.YthepoplekabcoaaRefA
namespace Go.Proofs.Ythepoplekabcoaa
open Go.RowKit Go.Maps

set_option maxHeartbeats 400000 in
theorem refTurned_any (n : Int) (hn1 : -9223372036854775808 ≤ n) (hn2 : n ≤ 9223372036854775807) (w : World) : Calls Try.prog 13 #[.int .i64 n] w fun en w' => en = .returned (.int .u64 (turned n : Int)) ∧ w = w' := by
  by_cases h : 0 ≤ n
  · have hb : turned n = (2 * n).toNat := by unfold turned; rw [if_pos h]
    rw [hb]
    clear hb
    go_enter Try.func13, Try.ntmps13
    go_wp2
    go_ret
    exact ⟨ret_int (by omega), rfl⟩
  · have hb : turned n = (-2 * n - 1).toNat := by unfold turned; rw [if_neg h]
    rw [hb]
    clear hb
    go_enter Try.func13, Try.ntmps13
    go_wp2
    go_ret
    exact ⟨ret_int (by omega), rfl⟩

set_option maxHeartbeats 400000 in
theorem refBack_any (u : Nat) (hu : u < 18446744073709551616) (w : World) : Calls Try.prog 57 #[.int .u64 (u : Int)] w fun en w' => en = .returned (.int .i64 (back u)) ∧ w = w' := by
  have h1 : 0 ≤ (u : Int) := by omega
  have h2 : (u : Int) ≤ 18446744073709551615 := by omega
  by_cases h : u % 2 = 1
  · have hm : ((u : Int) % 2 == 0) = false := by rw [beq_eq_false_iff_ne]; omega
    have hb : back u = -((u / 2 : Nat) : Int) - 1 := by unfold back; rw [if_pos h]
    rw [hb]
    clear hb
    go_enter Try.func57, Try.ntmps57
    go_wp2
    go_ret
    exact ⟨ret_int (by omega), rfl⟩
  · have hm : ((u : Int) % 2 == 0) = true := by rw [beq_iff_eq]; omega
    have hb : back u = ((u / 2 : Nat) : Int) := by unfold back; rw [if_neg h]
    rw [hb]
    clear hb
    go_enter Try.func57, Try.ntmps57
    go_wp2
    go_ret
    exact ⟨ret_int (by omega), rfl⟩

set_option maxHeartbeats 1000000 in
theorem refText_any (s : ByteArray) (hs : s.size + 10 ≤ 140737488355328) (w : World) : Calls Try.prog 14 #[.string s] w (BytesPost w (form s.size ++ s.data.toList)) := by
  have HU := Lib.hid (fun W => refUint_any s.size (by omega) W)
  have hs1 : (s.size : Int) ≤ 140737488355328 := by omega
  have HF := Lib.hid (form_len10 (n := s.size) (by omega))
  have HS := Lib.hid hs
  clear hs
  go_enter Try.func14, Try.ntmps14
  go_wp2_with fail
  refine (HU.out _).mono ?_
  rintro e w1 ⟨v1, rfl, ho, hb⟩
  have HO := Lib.hid ho; have HB := Lib.hid hb
  clear ho hb HU
  go_wp2_with (at_builtin; refine append_text rfl (.tmp 8) (.tmp 9) rfl w.heap.size v1 (form s.size).length (form s.size) rfl HO.out s rfl ?_ HB.out.size ?_)
  · have := HF.out; have := HS.out; omega
  · intro v4 w4 ho4 hg4
    have HB4 := Lib.hid (bw_grown HB.out hg4 (row_own HO.out))
    have HO4 := Lib.hid ho4
    clear ho4 hg4
    go_wp2
    go_ret
    refine ⟨_, rfl, ?_, HB4.out⟩
    have e : (form s.size ++ s.data.toList).length = (form s.size).length + s.size := by rw [List.length_append]; rfl
    rw [e]
    show w4.ownsRow w.heap.size 5 1 v4 _ _
    simpa using HO4.out

end Go.Proofs.Ythepoplekabcoaa
