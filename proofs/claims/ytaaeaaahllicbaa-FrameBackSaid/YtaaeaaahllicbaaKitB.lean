/- LentBytes, KeptBytes. -/
import Derived.Test.YtaaeaaahllicbaaCodR
namespace Go.Proofs.Ytaaeaaahllicbaa
open Go.RowKit Go.Maps

/-- a row handed in, a mark behind it -/
def Lent (w : World) (base g cap : Nat) (bs : List UInt8) : Prop := w.ownsRow base 5 1 (.slice (some ⟨g, 0, none⟩) (bs.length + 1) cap) (bs.length + 1) ((bs ++ [201]).map bV)
theorem Lent.src {w : World} {base g cap : Nat} {bs : List UInt8} (h : Lent w base g cap bs) : Src w (.slice (some ⟨g, 0, none⟩) bs.length cap) (bs.map bV) := by
  have h1 := Src.of_row h
  rcases h1 with ⟨ao, c, hv, hx, _⟩ | ⟨b, off, c, hv, h1, h2, h3, h4⟩
  · simp at hx
  · injection hv with e1 e2 e3
    cases e1; subst e3
    refine .inr ⟨g, 0, cap, by rw [List.length_map], ?_, h2, h3, fun j u hu => h4 j u ?_⟩
    · simp at h1 ⊢; omega
    · have hj : j < (bs.map bV).length := (List.getElem?_eq_some_iff.1 hu).1
      rw [List.map_append, List.getElem?_append_left hj]; exact hu
theorem Lent.mark {w : World} {base g cap : Nat} {bs : List UInt8} (h : Lent w base g cap bs) : w.cell? ⟨g, bs.length, none⟩ = some (.int .u8 201) ∧ bs.length + 1 ≤ cap ∧ base ≤ g ∧ g < w.heap.size := by
  have h1 := row_cell h rfl (i := bs.length) (by simp)
  have h2 := row_base' h _ _ _ rfl
  have h3 := row_lt h rfl
  refine ⟨?_, ?_, h2, h3⟩
  · have := h1.1
    simp only [Nat.zero_add, List.map_append, List.map_cons, List.map_nil] at this
    rw [this]
    simp [bV]
  · obtain ⟨_, h5 | ⟨g', cap', cur', hv', _, _, hn', _⟩⟩ := h
    · cases h5.1
    · cases hv'; exact hn'
theorem Lent.keep {w w' : World} {base g cap : Nat} {bs : List UInt8} (h : Lent w base g cap bs) (hb : w'.heap[g]? = w.heap[g]?) : Lent w' base g cap bs := row_keep h (fun a n c e => by cases e; exact hb)

def LentPost (w : World) (bs : List UInt8) (e : Ending) (w' : World) : Prop := ∃ g cap, e = .returned (.slice (some ⟨g, 0, none⟩) bs.length cap) ∧ Lent w' w.heap.size g cap bs ∧ BW w w'

set_option maxHeartbeats 2000000 in
set_option maxRecDepth 100000 in
theorem lent_any {w : World} {v : Value} {bs : List UInt8} (h : Src w v (bs.map bV)) (hn : (bs.length : Int) ≤ 140737488351232) : Calls Try.prog 8 #[v] w (LentPost w bs) := by
  obtain ⟨ao, cap, rfl⟩ := h.len
  rw [List.length_map] at h ⊢
  have H := Lib.hid h
  have HNN := Lib.hid hn
  have HSB : Hid (∀ W : World, Src (W.alloc (.cells #[.int .u8 201] 5)) (.slice (some ⟨W.heap.size, 0, none⟩) 1 1) (([201] : List UInt8).map bV)) := fun W => src_new1 W _ 1 [201] rfl (by decide) rfl
  clear h
  go_enter Try.func8, Try.ntmps8
  go_wp2_with (at_builtin; refine append_bytes rfl (.tmp 4) (.tmp 5) rfl w.heap.size (.slice none 0 0) 0 [] rfl ⟨rfl, .inl ⟨rfl, rfl⟩⟩ (.slice ao bs.length cap) rfl bs H.out ?_ ?_ ?_)
  · have := HNN.out; omega
  · exact Nat.le_refl _
  intro v1 w1 ho1 hg1
  have HO1 : Hid (w1.ownsRow w.heap.size 5 1 v1 bs.length (bs.map bV)) := by unfold Hid; simpa using ho1
  have HB1 := Lib.hid (bw_grown (BW.refl w) hg1 (fun k e => by cases e))
  clear ho1 hg1
  go_wp2_with (at_builtin; refine append_bytes rfl (.tmp 7) (.tmp 8) rfl w.heap.size v1 bs.length bs rfl (HO1.out.alloc _) (.slice (some ⟨w1.heap.size, 0, none⟩) 1 1) rfl [201] (HSB.out w1) ?_ ?_ ?_)
  · have := HNN.out; show bs.length + 1 ≤ _; omega
  · have := HB1.out.size; simp; omega
  intro v2 w2 ho2 hg2
  have ho2' : w2.ownsRow w.heap.size 5 1 v2 (bs.length + 1) ((bs ++ [201]).map bV) := by simpa using ho2
  have HB2 := Lib.hid (bw_grown (HB1.out.alloc _) hg2 (row_own HO1.out))
  obtain ⟨vo, vn, vc, rfl⟩ := row_form ho2'
  obtain rfl : vn = bs.length + 1 := row_len ho2' rfl
  obtain ⟨g, rfl⟩ : ∃ g, vo = some ⟨g, 0, none⟩ := by
    obtain ⟨_, h5 | ⟨g', cap', cur', hv', _⟩⟩ := ho2'
    · cases h5.1
    · cases hv'; exact ⟨_, rfl⟩
  have HL : Hid (Lent w2 w.heap.size g vc bs) := ho2'
  have hm := HL.out.mark
  have hnc : bs.length ≤ vc := by omega
  clear ho2 ho2' hg2 hm
  go_wp2
  go_ret
  exact ⟨g, vc, rfl, HL.out, HB2.out⟩

set_option maxHeartbeats 2000000 in
set_option maxRecDepth 100000 in
theorem kept_any {w : World} {base g cap : Nat} {v : Value} {bs : List UInt8} (hl : Lent w base g cap bs) (h : Src w v (bs.map bV)) (hn : (bs.length : Int) ≤ 140737488351232) :
    Calls Try.prog 15 #[.slice (some ⟨g, 0, none⟩) bs.length cap, v] w (DrewTrue w) := by
  have HC := Lib.hid (bytes_true hl.src h)
  obtain ⟨h1, h2, _, _⟩ := hl.mark
  obtain ⟨n, hln⟩ : ∃ n, bs.length = n := ⟨_, rfl⟩
  rw [hln] at h1 h2 hn HC ⊢
  clear hl h hln
  have hi1 : (0 : Int) ≤ (n : Int) := by omega
  have hi2 : (n : Int) < (n : Int) + 1 := by omega
  go_enter Try.func15, Try.ntmps15
  go_wp2_with fail
  refine HC.out.mono ?_
  rintro e w1 ⟨rfl, nn, rfl⟩
  go_wp2
  go_ret
  exact ⟨rfl, nn, rfl⟩

end Go.Proofs.Ytaaeaaahllicbaa
