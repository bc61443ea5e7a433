/- times, bad. -/
import Derived.Test.YthepoplekabcoaaCodR
namespace Go.Proofs.Ythepoplekabcoaa
open Go.RowKit Go.Maps

set_option maxHeartbeats 2000000 in
set_option maxRecDepth 100000 in
theorem times_any {w : World} {mv : Value} {ms : List UInt8} (n : Nat) (hn : n ≤ 1000) (c : UInt8) (h : Src w mv (ms.map bV)) (hm : ms.length ≤ 1000) :
    Calls Try.prog 26 #[.int .i64 (n : Int), .int .u8 (c.toNat : Int), mv] w (BytesPost w (List.replicate n c ++ ms)) := by
  obtain ⟨ao, cap, rfl⟩ := h.len
  rw [List.length_map] at h ⊢
  have H := Lib.hid h
  have hc : (c.toNat : Int) < 256 := by have := c.toNat_lt; omega
  have hc0 : 0 ≤ (c.toNat : Int) := by omega
  have HSB : Hid (∀ wr : World, Src (wr.alloc (.cells #[.int .u8 (c.toNat : Int)] 5)) (.slice (some ⟨wr.heap.size, 0, none⟩) 1 1) ([c].map bV)) := fun wr => src_new1 wr _ 1 [c] rfl (by decide) rfl
  obtain ⟨cn, hcn⟩ : ∃ cn : Int, (c.toNat : Int) = cn := ⟨_, rfl⟩
  rw [hcn] at hc hc0 HSB
  rw [hcn]
  have HM := Lib.hid hm
  clear h hcn hm
  go_enter Try.func26, Try.ntmps26
  go_wp2
  go_loopw [7, 8] (fun v i wr => ∃ k : Nat, k ≤ n ∧ i = .int .i64 (k : Int) ∧ wr.ownsRow w.heap.size 5 1 v k ((List.replicate k c).map bV) ∧ BW w wr) (fun _ i _ => n - (intOf i).toNat)
  case atStart => exact ⟨0, Nat.zero_le _, rfl, ⟨rfl, .inl ⟨rfl, rfl⟩⟩, BW.refl _⟩
  case round =>
    obtain ⟨k, hk, rfl, ho, hb⟩ := hrel
    have HO := Lib.hid ho; have HB := Lib.hid hb
    clear ho hb
    by_cases hlt : k < n
    · go_wp2_with (at_builtin; refine append_bytes rfl (.tmp 14) (.tmp 16) rfl w.heap.size u7 k (List.replicate k c) rfl (HO.out.alloc _) (.slice (some ⟨wr.heap.size, 0, none⟩) 1 1) rfl [c] (HSB.out wr) ?_ ?_ ?_)
      · show k + 1 ≤ _; omega
      · have := HB.out.size; simp; omega
      · intro v3 w3 ho3 hg3
        have HO3 : Hid (w3.ownsRow w.heap.size 5 1 v3 (k + 1) ((List.replicate (k + 1) c).map bV)) := by
          unfold Hid; rw [List.replicate_succ']; simpa using ho3
        have HB3 := Lib.hid (bw_grown (HB.out.alloc _) hg3 (row_own HO.out))
        clear ho3 hg3
        go_wp2
        go_roundw
        case rel => exact ⟨k + 1, by omega, by go_num, HO3.out, HB3.out⟩
        case measure => simp [intOf]; omega
    · obtain rfl : n = k := by omega
      go_wp2_with (at_builtin; refine append_bytes rfl (.tmp 18) (.tmp 19) rfl w.heap.size u7 n (List.replicate n c) rfl HO.out (.slice ao ms.length cap) rfl ms (H.out.below HB.out) ?_ HB.out.size ?_)
      · have := HM.out; omega
      · intro v3 w3 ho3 hg3
        have HO3 := Lib.hid ho3
        have HB3 := Lib.hid (bw_grown HB.out hg3 (row_own HO.out))
        clear ho3 hg3
        go_wp2
        go_ret
        refine ⟨_, rfl, ?_, HB3.out⟩
        rw [List.length_append, List.length_replicate]
        show w3.ownsRow w.heap.size 5 1 v3 _ _
        simpa using HO3.out

set_option maxHeartbeats 1000000 in
theorem bad_any {w : World} {v : Value} {bs : List UInt8} (h : Src w v (bs.map bV)) (hn : (bs.length : Int) ≤ 140737488351232) (hd : deco bs = none) : Calls Try.prog 31 #[v] w (TruePost w) := by
  have hD : dU bs = none := by unfold dU; rw [hd]; rfl
  obtain ⟨ao, cap, rfl⟩ := h.len
  rw [List.length_map] at h ⊢
  have HD := Lib.hid hD
  have HNW := Lib.hid (new_any h hn)
  obtain ⟨ln, hln⟩ : ∃ ln, bs.length = ln := ⟨_, rfl⟩
  have HLN := Lib.hid hln
  rw [hln] at HNW ⊢
  clear h hn hd hD hln
  go_enter Try.func31, Try.ntmps31
  go_wp2_with fail
  refine HNW.out.mono ?_
  rintro e w1 ⟨r, c, rfl, hr, hc, hrd, hb⟩
  have HRD := Lib.hid hrd; have HB1 := Lib.hid hb
  clear hrd hb hc HNW
  unfold ptr
  go_wp2_with fail
  refine (call_U HRD.out).mono ?_
  rintro e w2 hh
  obtain ⟨rfl, hm, hrd⟩ := hh.none HD.out
  have HRD2 := Lib.hid hrd; have HB2 := Lib.hid (bw_moves HB1.out hm hr)
  obtain ⟨ao2, cap2, g1, g2, g3⟩ := hrd.form
  rw [HLN.out] at g1
  have G1 := Lib.hid g1
  clear hh hm hrd HRD HB1 g1 g2 g3
  go_wp2_with (first | (go_at_call 22; refine (left_c G1.out).mono ?_; rintro en w' ⟨rfl, rfl⟩) | (go_at_call 20; refine (err_c G1.out).mono ?_; rintro en w' ⟨rfl, rfl⟩))
  go_ret
  exact ⟨ret_bool (by simp), HB2.out⟩

end Go.Proofs.Ythepoplekabcoaa
