/- The document's Sealed and Seal. -/
import Derived.Test.YtaaeaaahllicbaaFrmA
import Derived.Test.YtaaeaaahllicbaaRefI
import Derived.Test.YtaaeaaahllicbaaCodR
namespace Go.Proofs.Ytaaeaaahllicbaa
open Go.RowKit Go.Maps Crc

/-- a slice that reads rows of bytes -/
def SrcRows (w : World) (v : Value) (ss : List (List UInt8)) : Prop := ∃ vs : List Value, vs.length = ss.length ∧ Src w v vs ∧ ∀ (i : Nat) (x : Value) (s : List UInt8), vs[i]? = some x → ss[i]? = some s → Src w x (s.map bV)
theorem SrcRows.below {w w' : World} {v : Value} {ss : List (List UInt8)} (h : SrcRows w v ss) (hb : BW w w') : SrcRows w' v ss := by
  obtain ⟨vs, h1, h2, h3⟩ := h
  exact ⟨vs, h1, h2.below hb, fun i x s hx hs => (h3 i x s hx hs).below hb⟩
theorem SrcRows.len {w : World} {v : Value} {ss : List (List UInt8)} (h : SrcRows w v ss) : ∃ ao cap, v = .slice ao ss.length cap := by
  obtain ⟨vs, h1, h2, _⟩ := h
  obtain ⟨ao, cap, e⟩ := h2.len
  exact ⟨ao, cap, by rw [← h1]; exact e⟩
theorem SrcRows.get {w : World} {ao : Option Addr} {n cap : Nat} {ss : List (List UInt8)} (h : SrcRows w (.slice ao n cap) ss) {i : Nat} {s : List UInt8} (hs : ss[i]? = some s) : ∃ b off xo xc, ao = some ⟨b, off, none⟩ ∧ w.cell? ⟨b, off + i, none⟩ = some (.slice xo s.length xc) ∧ Src w (.slice xo s.length xc) (s.map bV) := by
  obtain ⟨vs, h1, h2, h3⟩ := h
  obtain ⟨hi, _⟩ := List.getElem?_eq_some_iff.1 hs
  have hx : vs[i]? = some (vs[i]'(by omega)) := List.getElem?_eq_getElem (by omega)
  generalize (vs[i]'(by omega)) = x at hx
  have h4 := h3 i x s hx hs
  obtain ⟨xo, xc, rfl⟩ := h4.len
  rw [List.length_map] at h4 hx
  obtain ⟨b, off, e, hc⟩ := h2.get hx
  exact ⟨b, off, xo, xc, e, hc, h4⟩

def SealedPost (W0 : World) (bs : List UInt8) (e : Ending) (w' : World) : Prop := ∃ v, e = .returned v ∧ w'.ownsRow W0.heap.size 5 1 v (bs ++ le4 (crcP bs)).length ((bs ++ le4 (crcP bs)).map bV) ∧ BW W0 w'
theorem byteV (n : Nat) : bV (UInt8.ofNat (n % 256)) = .int .u8 ((n % 256 : Nat) : Int) := by
  unfold bV; rw [UInt8.toNat_ofNat', Nat.mod_mod]
theorem le4_cells {c b0 b1 b2 b3 : Nat} (h0 : b0 = c % 256) (h1 : b1 = c / 256 % 256) (h2 : b2 = c / 65536 % 256) (h3 : b3 = c / 16777216 % 256) : [Value.int .u8 (b0 : Int), .int .u8 (b1 : Int), .int .u8 (b2 : Int), .int .u8 (b3 : Int)] = (le4 c).map bV := by
  unfold le4
  simp only [List.map_cons, List.map_nil, byteV]
  rw [h0, h1, h2, h3]

set_option maxHeartbeats 2000000 in
set_option maxRecDepth 100000 in
theorem refSealed_any {W0 w : World} {v : Value} {bs : List UInt8} (hb : BW W0 w) (h : w.ownsRow W0.heap.size 5 1 v bs.length (bs.map bV)) (hlen : bs.length ≤ 100000000) : Calls Try.prog 29 #[v] w (SealedPost W0 bs) := by
  obtain ⟨ao, n, cap, rfl⟩ := row_form h
  obtain rfl : n = bs.length := row_len h rfl
  have HSUM := Lib.hid (refSum_any (Src.of_row h) (by omega))
  have H := Lib.hid h
  have HB := Lib.hid hb
  have HLEN := Lib.hid hlen
  obtain ⟨c, hc⟩ : ∃ c, c = crcP bs := ⟨_, rfl⟩
  have hc32 : c < 4294967296 := by rw [hc]; exact crcP_lt bs
  rw [← hc] at HSUM
  have HC := Lib.hid hc
  obtain ⟨c1, hc1⟩ : ∃ c1, c1 = c / 256 := ⟨_, rfl⟩
  obtain ⟨c2, hc2⟩ : ∃ c2, c2 = c / 65536 := ⟨_, rfl⟩
  obtain ⟨c3, hc3⟩ : ∃ c3, c3 = c / 16777216 := ⟨_, rfl⟩
  have e1 : (c : Int) / 256 = (c1 : Int) := by omega
  have e2 : (c : Int) / 65536 = (c2 : Int) := by omega
  have e3 : (c : Int) / 16777216 = (c3 : Int) := by omega
  obtain ⟨b0, hb0⟩ : ∃ b0, b0 = c % 256 := ⟨_, rfl⟩
  obtain ⟨b1, hb1⟩ : ∃ b1, b1 = c1 % 256 := ⟨_, rfl⟩
  obtain ⟨b2, hb2⟩ : ∃ b2, b2 = c2 % 256 := ⟨_, rfl⟩
  obtain ⟨b3, hb3⟩ : ∃ b3, b3 = c3 % 256 := ⟨_, rfl⟩
  have f0 : IntKind.u8.wrap (c : Int) = (b0 : Int) := by rw [IntKind.wrap_u8']; omega
  have f1 : IntKind.u8.wrap (c1 : Int) = (b1 : Int) := by rw [IntKind.wrap_u8']; omega
  have f2 : IntKind.u8.wrap (c2 : Int) = (b2 : Int) := by rw [IntKind.wrap_u8']; omega
  have f3 : IntKind.u8.wrap (c3 : Int) = (b3 : Int) := by rw [IntKind.wrap_u8']; omega
  have HCE := Lib.hid (le4_cells (c := c) (b0 := b0) (b1 := b1) (b2 := b2) (b3 := b3) hb0 (by rw [hb1, hc1]) (by rw [hb2, hc2]) (by rw [hb3, hc3]))
  have hc0 : 0 ≤ (c : Int) := by omega
  clear h hb hlen hc hc1 hc2 hc3 hb0 hb1 hb2 hb3
  go_enter Try.func29, Try.ntmps29
  go_wp2_with fail
  refine HSUM.out.mono ?_
  rintro e w' ⟨rfl, rfl⟩
  go_wp2_with (at_builtin; refine append_bytes rfl (.tmp 6) (.tmp 18) rfl W0.heap.size _ bs.length bs rfl (H.out.alloc _) (.slice (some ⟨w.heap.size, 0, none⟩) 4 4) rfl (le4 c) (src_new1 w _ 4 (le4 c) rfl (by decide) HCE.out) ?_ ?_ ?_)
  · have := HLEN.out; rw [le4_len]; omega
  · have := HB.out.size; simp; omega
  intro v4 w4 ho4 hg4
  have HO4 := Lib.hid ho4
  have HB4 := Lib.hid (bw_grown (HB.out.alloc _) hg4 (row_own H.out))
  clear ho4 hg4
  go_wp2
  go_ret
  refine ⟨v4, rfl, ?_, HB4.out⟩
  rw [← HC.out, List.length_append, List.map_append]; exact HO4.out
end Go.Proofs.Ytaaeaaahllicbaa
