/- awake. -/
import Derived.Test.YtdoliejihinpkaaPackQ
namespace Go.Proofs.Ytdoliejihinpkaa
open Go.RowKit Go.Maps
set_option maxHeartbeats 4000000 in
set_option maxRecDepth 100000 in
theorem awake_any (w : World) : Calls Try.prog 9 #[] w (TruePost w) := by
  go_enter Try.func9, Try.ntmps9
  go_wp2_with fail
  refine (get_any (bs := [1, 2, 12, 153]) (src_newB w #[.int .u8 1, .int .u8 2, .int .u8 12, .int .u8 153] 4 [1, 2, 12, 153] rfl (by decide) rfl) 2 (by decide)).mono ?_
  rintro e w1 hh
  obtain ⟨v, rfl, hb, ho⟩ := get_yes hh pk1
  have HB1 : Hid (BW w w1) := (bw_alloc w _).trans hb
  have HO1 := Lib.hid (Src.of_row ho)
  clear hh hb ho
  go_wp2_with fail
  refine (width_any (l := [5, 0, 3]) (src_newU w1 #[.int .u64 5, .int .u64 0, .int .u64 3] 3 [5, 0, 3] rfl (by decide) rfl) (by intro x hx; simp at hx; omega)).mono ?_
  rintro e w2 ⟨rfl, nn, rfl⟩
  rw [pk2]
  have HB2 : Hid (BW w ((w1.alloc (.cells #[.int .u64 5, .int .u64 0, .int .u64 3] 52)).drewN nn)) := bw_drew (HB1.out.alloc _) nn
  have HO2 : Hid (Src ((w1.alloc (.cells #[.int .u64 5, .int .u64 0, .int .u64 3] 52)).drewN nn) v (([-1, 2] : List Int).map iV)) := (HO1.out.below (bw_alloc w1 _)).below (drewN_below _ nn)
  generalize (w1.alloc (.cells #[.int .u64 5, .int .u64 0, .int .u64 3] 52)).drewN nn = W2 at *
  go_wp2_with fail
  refine (bits_any (l := [5, 0, 3]) (src_newU W2 #[.int .u64 5, .int .u64 0, .int .u64 3] 3 [5, 0, 3] rfl (by decide) rfl) (by intro x hx; simp at hx; omega) (by decide) 3 (by decide)).mono ?_
  rintro e w3 ⟨v3, rfl, ho3, hb3⟩
  rw [pk3] at ho3
  have HB3 := Lib.hid ((HB2.out.alloc _).trans hb3)
  have HO3 := Lib.hid ((HO2.out.below (bw_alloc W2 _)).below hb3)
  have HV3 := Lib.hid (Src.of_row ho3)
  clear ho3 hb3
  go_wp2_with fail
  refine (bytes_b (l := [197, 0]) (HV3.out.below (bw_alloc w3 _)) (src_newB w3 #[.int .u8 197, .int .u8 0] 2 [197, 0] rfl (by decide) rfl)).mono ?_
  rintro e w4 ⟨rfl, hb4⟩
  have HB4 := Lib.hid ((HB3.out.alloc _).trans hb4)
  have HO4 := Lib.hid ((HO3.out.below (bw_alloc w3 _)).below hb4)
  clear hb4
  go_wp2_with fail
  refine (put_any (l := [-1, 2]) (src_newI w4 #[.int .i64 (-1), .int .i64 2] 2 [-1, 2] rfl (by decide) rfl) (by intro x hx; unfold I64; simp at hx; omega) (by decide)).mono ?_
  rintro e w5 ⟨v5, rfl, ho5, hb5⟩
  rw [pk4] at ho5
  have HB5 := Lib.hid ((HB4.out.alloc _).trans hb5)
  have HO5 := Lib.hid ((HO4.out.below (bw_alloc w4 _)).below hb5)
  have HV5 := Lib.hid (Src.of_row ho5)
  clear ho5 hb5
  go_wp2_with fail
  refine (bytes_b (l := [1, 2, 12]) (HV5.out.below (bw_alloc w5 _)) (src_newB w5 #[.int .u8 1, .int .u8 2, .int .u8 12] 3 [1, 2, 12] rfl (by decide) rfl)).mono ?_
  rintro e w6 ⟨rfl, hb6⟩
  have HB6 := Lib.hid ((HB5.out.alloc _).trans hb6)
  have HO6 := Lib.hid ((HO5.out.below (bw_alloc w5 _)).below hb6)
  clear hb6
  go_wp2_with fail
  refine (ints_true (l := [-1, 2]) (HO6.out.below (bw_alloc w6 _)) (src_newI w6 #[.int .i64 (-1), .int .i64 2] 2 [-1, 2] rfl (by decide) rfl)).mono ?_
  rintro e w7 ⟨rfl, n7, hw7⟩
  have HB7 : Hid (BW w w7) := by rw [hw7]; exact bw_drew (HB6.out.alloc _) n7
  clear hw7
  go_wp2
  go_ret
  exact ⟨rfl, HB7.out⟩
end Go.Proofs.Ytdoliejihinpkaa
