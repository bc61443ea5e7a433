/- awake, times, bad. -/
import Derived.Test.YthepoplekabcoaaCodQ
namespace Go.Proofs.Ythepoplekabcoaa
open Go.RowKit Go.Maps

theorem bw_moves {w W W' : World} {r : Nat} (h : BW w W) (m : Moves (fun b => b = r) W W') (hr : w.heap.size ≤ r) : BW w W' := RowKit.Below.trans h (Moves.below m (fun k e => by omega) h.size)
theorem src_new1 (w : World) (xs : Array Value) (n : Nat) (bs : List UInt8) (hn : xs.size = n) (hs : (n : Int) ≤ 9223372036854775807) (hx : xs.toList = bs.map bV) : Src (w.alloc (.cells xs 5)) (.slice (some ⟨w.heap.size, 0, none⟩) n n) (bs.map bV) := by
  rw [← hx]; exact src_new w xs 5 n hn hs

def awakeB : List UInt8 := [172, 2, 1, 2, 97, 98, 5]
theorem aw1 : dU awakeB = some (.int .u64 300, 2) := by
  have : deco awakeB = some (300, 2) := by decide +kernel
  unfold dU; rw [this]; rfl
theorem aw2 : dI (awakeB.drop 2) = some (.int .i64 (-1), 1) := by
  have : deco (awakeB.drop 2) = some (1, 1) := by decide +kernel
  unfold dI; rw [this]; rfl
theorem aw3 : dT ((awakeB.drop 2).drop 1) 2 = some (.string ⟨#[97, 98]⟩, 3) := by
  have : textD ((awakeB.drop 2).drop 1) 2 = some ([97, 98], 3) := by decide +kernel
  unfold dT; rw [this]; rfl
theorem aw4 : ((awakeB.drop 2).drop 1).drop 3 = [5] := rfl
theorem form300 : form 300 = [172, 2] := by
  rw [form_step (by decide), form_last (by decide)]; rfl

set_option maxHeartbeats 2000000 in
set_option maxRecDepth 100000 in
theorem awake_any (w : World) : Calls Try.prog 18 #[] w (TruePost w) := by
  go_enter Try.func18, Try.ntmps18
  go_wp2_with fail
  refine (new_any (bs := awakeB) (src_new1 w _ 7 awakeB rfl (by decide) rfl) (by decide)).mono ?_
  rintro e w1 ⟨r, c, rfl, hr, hc, hrd, hb⟩
  have hr' : w.heap.size ≤ r := by simp at hr; omega
  have HRD := Lib.hid hrd; have HB1 : Hid (BW w w1) := (bw_alloc w _).trans hb
  clear hrd hb hr hc
  unfold ptr
  go_wp2_with fail
  refine (call_U HRD.out).mono ?_
  rintro e w2 hh
  obtain ⟨rfl, hm, hrd⟩ := hh.some aw1
  have HRD2 := Lib.hid hrd; have HB2 := Lib.hid (bw_moves HB1.out hm hr')
  clear hh hm hrd HRD HB1
  go_wp2_with fail
  refine (call_I HRD2.out).mono ?_
  rintro e w3 hh
  obtain ⟨rfl, hm, hrd⟩ := hh.some aw2
  have HRD3 := Lib.hid hrd; have HB3 := Lib.hid (bw_moves HB2.out hm hr')
  clear hh hm hrd HRD2 HB2
  go_wp2_with fail
  refine (call_T HRD3.out 2 (by decide) (by decide)).mono ?_
  rintro e w4 hh
  obtain ⟨rfl, hm, hrd⟩ := hh.some aw3
  rw [aw4] at hrd
  have HRD4 := Lib.hid hrd; have HB4 := Lib.hid (bw_moves HB3.out hm hr')
  obtain ⟨ao, cap, g1, g2, g3⟩ := hrd.form
  have G1 : Hid (RdC w4 r (.slice ao 1 cap) 0) := g1
  clear hh hm hrd HRD3 HB3 g1 g2 g3
  go_wp2_with (first | (go_at_call 22; refine (left_c G1.out).mono ?_; rintro en w' ⟨rfl, rfl⟩) | (go_at_call 20; refine (err_c G1.out).mono ?_; rintro en w' ⟨rfl, rfl⟩) | (go_at_call 32; refine (end_any HRD4.out).mono ?_; rintro en w5 ⟨rfl, hm, hrd⟩; have HB5 := Lib.hid (bw_moves HB4.out hm hr'); clear hm hrd) | (go_at_call 25; refine (isUnsigned 300 (by decide) (by rw [form300]; exact src_new1 _ _ 2 _ rfl (by decide) rfl)).mono ?_; rintro en w6 ⟨rfl, hb⟩; have HB6 := Lib.hid ((HB5.out.alloc _).trans hb); clear hb))
  go_ret
  exact ⟨rfl, HB6.out⟩

end Go.Proofs.Ythepoplekabcoaa
