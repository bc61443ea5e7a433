/- The law's own sealed, bad, awake. -/
import Derived.Test.YtaaeaaahllicbaaFrmP
namespace Go.Proofs.Ytaaeaaahllicbaa
open Go.RowKit Go.Maps Crc

theorem SrcRows.one {w : World} {v : Value} {bs : List UInt8} (h : Src w v (bs.map bV)) : SrcRows (w.alloc (.cells #[v] 23)) (.slice (some ⟨w.heap.size, 0, none⟩) 1 1) [bs] := by
  refine ⟨[v], rfl, src_new w #[v] 23 1 rfl (by decide), fun i x s hx hs => ?_⟩
  have hi : i = 0 := by have := (List.getElem?_eq_some_iff.1 hx).1; simp at this; omega
  subst hi
  cases hx; cases hs
  exact h.below (bw_alloc _ _)
set_option maxHeartbeats 2000000 in
set_option maxRecDepth 100000 in
theorem sealed_any {W0 w : World} {v : Value} {bs : List UInt8} (hb : BW W0 w) (h : w.ownsRow W0.heap.size 5 1 v bs.length (bs.map bV)) (hlen : bs.length ≤ 100000000) : Calls Try.prog 22 #[v] w (SealedPost W0 bs) := by
  obtain ⟨ao, n, cap, rfl⟩ := row_form h
  obtain rfl : n = bs.length := row_len h rfl
  have HSUM := Lib.hid (sum_any (SrcRows.one (Src.of_row h)) (fun s hs => by rw [List.mem_singleton.1 hs]; omega) (by simp))
  have H := Lib.hid h
  have HB := Lib.hid hb
  have HLEN := Lib.hid hlen
  obtain ⟨c, hc⟩ : ∃ c, c = crcP bs := ⟨_, rfl⟩
  have hc32 : c < 4294967296 := by rw [hc]; exact crcP_lt bs
  have hfl : ([bs] : List (List UInt8)).flatten = bs := by simp
  rw [hfl] at HSUM
  unfold SumPost at HSUM
  rw [← hc] at HSUM
  have HC := Lib.hid hc
  obtain ⟨c1, hc1⟩ : ∃ c1, c1 = c / 256 := ⟨_, rfl⟩
  obtain ⟨c2, hc2⟩ : ∃ c2, c2 = c / 65536 := ⟨_, rfl⟩
  obtain ⟨c3, hc3⟩ : ∃ c3, c3 = c / 16777216 := ⟨_, rfl⟩
  have e1 : (c : Int) / 256 = (c1 : Int) := by omega
  have e2 : (c : Int) / 65536 = (c2 : Int) := by omega
  have e3 : (c : Int) / 16777216 = (c3 : Int) := by omega
  obtain ⟨b0, hb0⟩ : ∃ b0, b0 = c % 256 := ⟨_, rfl⟩
  obtain ⟨b1, hb1⟩ : ∃ b1, b1 = c1 % 256 := ⟨_, rfl⟩
  obtain ⟨b2, hb2⟩ : ∃ b2, b2 = c2 % 256 := ⟨_, rfl⟩
  obtain ⟨b3, hb3⟩ : ∃ b3, b3 = c3 % 256 := ⟨_, rfl⟩
  have f0 : IntKind.u8.wrap (c : Int) = (b0 : Int) := by rw [IntKind.wrap_u8']; omega
  have f1 : IntKind.u8.wrap (c1 : Int) = (b1 : Int) := by rw [IntKind.wrap_u8']; omega
  have f2 : IntKind.u8.wrap (c2 : Int) = (b2 : Int) := by rw [IntKind.wrap_u8']; omega
  have f3 : IntKind.u8.wrap (c3 : Int) = (b3 : Int) := by rw [IntKind.wrap_u8']; omega
  have HCE := Lib.hid (le4_cells (c := c) (b0 := b0) (b1 := b1) (b2 := b2) (b3 := b3) hb0 (by rw [hb1, hc1]) (by rw [hb2, hc2]) (by rw [hb3, hc3]))
  have hc0 : 0 ≤ (c : Int) := by omega
  clear h hb hlen hc hc1 hc2 hc3 hb0 hb1 hb2 hb3 hfl
  go_enter Try.func22, Try.ntmps22
  go_wp2_with fail
  refine HSUM.out.mono ?_
  rintro e w2 ⟨rfl, hb2⟩
  have HBX : Hid (BW w w2) := (bw_alloc _ _).trans hb2
  have HR2 := Lib.hid (row_keep H.out fun a n c e => HBX.out.block _ (row_lt H.out e))
  have HB2 := Lib.hid (HB.out.trans HBX.out)
  clear hb2
  go_wp2_with (at_builtin; refine append_bytes rfl (.tmp 7) (.tmp 19) rfl W0.heap.size _ bs.length bs rfl (HR2.out.alloc _) (.slice (some ⟨w2.heap.size, 0, none⟩) 4 4) rfl (le4 c) (src_new1 w2 _ 4 (le4 c) rfl (by decide) HCE.out) ?_ ?_ ?_)
  · have := HLEN.out; rw [le4_len]; omega
  · have := HB2.out.size; simp; omega
  intro v4 w4 ho4 hg4
  have HO4 := Lib.hid ho4
  have HB4 := Lib.hid (bw_grown (HB2.out.alloc _) hg4 (row_own HR2.out))
  clear ho4 hg4
  go_wp2
  go_ret
  refine ⟨v4, rfl, ?_, HB4.out⟩
  rw [← HC.out, List.length_append, List.map_append]; exact HO4.out

theorem bag_nil {w : World} {B : Nat} {v : Value} {vs : List Value} {ss : List (List UInt8)} (h : Bag w B v vs ss) : SrcRows w v ss := h.rows
set_option maxHeartbeats 2000000 in
theorem bad_yes {w : World} {kind : UInt8} {v : Value} {bs : List UInt8} (h : Src w v (bs.map bV)) (hb : bs.length ≤ 16777216) (hn : openP kind bs = none) : Calls Try.prog 23 #[bV kind, v] w (TruePost w) := by
  obtain ⟨ao, cap, rfl⟩ := h.len
  rw [List.length_map] at h ⊢
  have HO := Lib.hid (open_any (kind := kind) h (by omega))
  have HB := Lib.hid hb
  have HN := Lib.hid hn
  obtain ⟨n, hnn⟩ : ∃ n, n = bs.length := ⟨_, rfl⟩
  rw [← hnn] at HO ⊢
  obtain ⟨kv, hkv⟩ : ∃ kv, kv = bV kind := ⟨_, rfl⟩
  rw [← hkv] at HO ⊢
  clear h hb hn hnn hkv
  go_enter Try.func23, Try.ntmps23
  go_wp2_with fail
  refine HO.out.mono ?_
  rintro e w2 ⟨v2, er, rfl, hb2, ⟨h1, _⟩ | ⟨_, _, rfl, rfl⟩ | ⟨_, ss, vs, h1, _⟩⟩
  · have := HB.out; omega
  · have HB2 := Lib.hid hb2
    clear hb2
    go_wp2
    go_ret
    exact ⟨rfl, HB2.out⟩
  · rw [HN.out] at h1; cases h1
end Go.Proofs.Ytaaeaaahllicbaa
