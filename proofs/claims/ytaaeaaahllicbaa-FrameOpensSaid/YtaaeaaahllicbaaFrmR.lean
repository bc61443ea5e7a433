/- awake. -/
import Derived.Test.YtaaeaaahllicbaaFrmQ
import Derived.Lib.SlBytesConst
namespace Go.Proofs.Ytaaeaaahllicbaa
open Go.RowKit Go.Maps Crc

def ss0 : List (List UInt8) := [[5, 6], [], [7]]
def body1 : List UInt8 := [76, 84, 1, 1, 3, 2, 0, 1, 5, 6, 7]
theorem body0 : bodyF 1 ss0 = body1 := by
  show [76, 84, 1, 1] ++ (form 3 ++ (form 2 ++ (form 0 ++ (form 1 ++ [])))) ++ [5, 6, 7] = _
  rw [form_last (by decide), form_last (by decide), form_last (by decide), form_last (by decide)]; rfl
theorem seal0 : sealP 1 ss0 = some (body1 ++ le4 (crcP body1)) := by
  have h : sealF 1 ss0 = body1 ++ le4 (crcP body1) := by unfold sealF; rw [body0]
  unfold sealP
  rw [h, if_neg]
  rw [List.length_append, le4_len]; decide
def nine : List UInt8 := [49, 50, 51, 52, 53, 54, 55, 56, 57]
theorem crc9 : crcP nine = 3421780262 := by decide +kernel
theorem rows3 {W : World} {x0 x1 x2 : Value} {s0 s1 s2 : List UInt8} (h0 : Src W x0 (s0.map bV)) (h1 : Src W x1 (s1.map bV)) (h2 : Src W x2 (s2.map bV)) : SrcRows (W.alloc (.cells #[x0, x1, x2] 23)) (.slice (some ⟨W.heap.size, 0, none⟩) 3 3) [s0, s1, s2] := by
  refine ⟨[x0, x1, x2], rfl, src_new W #[x0, x1, x2] 23 3 rfl (by decide), fun i x s hx hs => ?_⟩
  match i, hx, hs with
  | 0, hx, hs => cases hx; cases hs; exact h0.below (bw_alloc _ _)
  | 1, hx, hs => cases hx; cases hs; exact h1.below (bw_alloc _ _)
  | 2, hx, hs => cases hx; cases hs; exact h2.below (bw_alloc _ _)
  | i + 3, hx, hs => simp at hx
/-- the three sections, in new memory -/
theorem rows0 (w : World) : SrcRows (((w.alloc (.cells #[.int .u8 5, .int .u8 6] 5)).alloc (.cells #[.int .u8 7] 5)).alloc (.cells #[.slice (some ⟨w.heap.size, 0, none⟩) 2 2, .slice none 0 0, .slice (some ⟨w.heap.size + 1, 0, none⟩) 1 1] 23)) (.slice (some ⟨w.heap.size + 1 + 1, 0, none⟩) 3 3) ss0 := by
  have h0 := (src_new1 w #[.int .u8 5, .int .u8 6] 2 [5, 6] rfl (by decide) rfl).below (bw_alloc _ (.cells #[.int .u8 7] 5))
  have h2 := src_new1 (w.alloc (.cells #[.int .u8 5, .int .u8 6] 5)) #[.int .u8 7] 1 [7] rfl (by decide) rfl
  have e1 : (w.alloc (.cells #[.int .u8 5, .int .u8 6] 5)).heap.size = w.heap.size + 1 := by simp
  rw [e1] at h2
  have h3 := rows3 (s1 := []) h0 (Src.nil _) h2
  have e2 : ((w.alloc (.cells #[.int .u8 5, .int .u8 6] 5)).alloc (.cells #[.int .u8 7] 5)).heap.size = w.heap.size + 1 + 1 := by simp
  rw [e2] at h3
  exact h3
theorem src_marked (w : World) (xs : Array Value) (fr : Nat × Nat) (n : Nat) (bs : List UInt8) (hn : xs.size = n) (hs : (n : Int) ≤ 9223372036854775807) (hx : xs.toList = bs.map bV) : Src (w.alloc (.cells xs 5 fr)) (.slice (some ⟨w.heap.size, 0, none⟩) n n) (bs.map bV) := by
  rw [← hx]
  refine .inr ⟨w.heap.size, 0, n, by simp [hn], by simp [hn], hs, by simp, fun j u hu => ?_⟩
  refine cell_of (heap_new w _) ?_
  rw [Nat.zero_add, ← Array.getElem?_toList]; exact hu
theorem nine_sum (w : World) : Calls Try.prog 13 #[.slice (some ⟨w.heap.size + 1, 0, none⟩) 1 1] ((w.alloc (.cells #[.int .u8 49, .int .u8 50, .int .u8 51, .int .u8 52, .int .u8 53, .int .u8 54, .int .u8 55, .int .u8 56, .int .u8 57] 5 (9, 10))).alloc (.cells #[.slice (some ⟨w.heap.size, 0, none⟩) 9 9] 23)) fun e w' => e = .returned (.int .u32 3421780262) ∧ BW w w' := by
  have h1 := SrcRows.one (src_marked w #[.int .u8 49, .int .u8 50, .int .u8 51, .int .u8 52, .int .u8 53, .int .u8 54, .int .u8 55, .int .u8 56, .int .u8 57] (9, 10) 9 nine rfl (by decide) rfl)
  have e1 : (w.alloc (.cells #[.int .u8 49, .int .u8 50, .int .u8 51, .int .u8 52, .int .u8 53, .int .u8 54, .int .u8 55, .int .u8 56, .int .u8 57] 5 (9, 10))).heap.size = w.heap.size + 1 := by simp
  rw [e1] at h1
  refine (sum_any h1 (by decide) (by decide)).mono ?_
  rintro e w' ⟨rfl, hb⟩
  rw [show ([nine] : List (List UInt8)).flatten = nine from rfl, crc9]
  exact ⟨rfl, ((bw_alloc w _).alloc _).trans hb⟩
theorem ss0_len : ∀ s ∈ ss0, (s.length : Int) ≤ 140737488351232 := by decide
set_option maxHeartbeats 4000000 in
set_option maxRecDepth 100000 in
theorem awake_any (w : World) : Calls Try.prog 9 #[] w (TruePost w) := by
  have H0 := Lib.hid (seal_any (kind := 1) (rows0 w) ss0_len (by decide))
  rw [show bV 1 = .int .u8 1 from rfl] at H0
  have kc := fun (w : World) (C : Array Value) (n c : Nat) => Lib.run_convert_bytes_const (P := Try.prog) w 23 5 C n c Try.underlying23 Try.underlying5
  go_enter Try.func9, Try.ntmps9
  go_wp2_with fail
  refine H0.out.mono ?_
  rintro e w1 ⟨v1, er, rfl, hb1, ⟨b, hs, rfl, ho1⟩ | ⟨hs, _⟩⟩
  case inr => rw [seal0] at hs; cases hs
  rw [seal0] at hs
  injection hs with hs
  subst hs
  have HB1 : Hid (BW w w1) := (((bw_alloc w _).alloc _).alloc _).trans hb1
  have HO1 := Lib.hid (Src.of_row ho1)
  have HOP := Lib.hid (open_any (kind := 1) (Src.of_row ho1) (by decide))
  rw [show bV 1 = .int .u8 1 from rfl] at HOP
  clear hb1 ho1
  obtain ⟨o1, n1, c1, rfl⟩ : ∃ o1 n1 c1, v1 = .slice o1 n1 c1 := by obtain ⟨o, c, e⟩ := HO1.out.len; exact ⟨_, _, _, e⟩
  go_wp2_with fail
  refine HOP.out.mono ?_
  rintro e w2 ⟨v2, er, rfl, hb2, ⟨h1, _⟩ | ⟨_, h1, _⟩ | ⟨_, ss, vs, h1, rfl, hbag⟩⟩
  case inl => exact absurd h1 (by decide)
  case inr.inl => rw [open_seal seal0] at h1; cases h1
  rw [open_seal seal0] at h1
  injection h1 with h1
  subst h1
  have HB2 : Hid (BW w w2) := HB1.out.trans hb2
  have HO2 := Lib.hid (HO1.out.below hb2)
  have HR2 := Lib.hid hbag.rows
  clear hb2 hbag
  obtain ⟨o2, c2, rfl⟩ := HR2.out.len
  go_wp2_with fail
  refine (nine_sum w2).mono ?_
  rintro e w3 ⟨rfl, hb3⟩
  have HB3 := Lib.hid (HB2.out.trans hb3)
  have HO3 := Lib.hid (HO2.out.below hb3)
  have HR3 := Lib.hid (HR2.out.below hb3)
  clear hb3
  have HSE : Hid (Calls Try.prog 22 #[.slice (some ⟨w3.heap.size, 0, none⟩) 11 11] (w3.alloc (.cells #[.int .u8 76, .int .u8 84, .int .u8 1, .int .u8 1, .int .u8 3, .int .u8 2, .int .u8 0, .int .u8 1, .int .u8 5, .int .u8 6, .int .u8 7] 5)) (SealedPost w3 body1)) :=
    sealed_any (bw_alloc w3 _) (own_new w3 #[.int .u8 76, .int .u8 84, .int .u8 1, .int .u8 1, .int .u8 3, .int .u8 2, .int .u8 0, .int .u8 1, .int .u8 5, .int .u8 6, .int .u8 7] 5 11 rfl (by decide)) (by decide)
  go_wp2_with fail
  refine HSE.out.mono ?_
  rintro e w4 ⟨v4, rfl, ho4, hb4⟩
  have HB4 := Lib.hid (HB3.out.trans hb4)
  have HO4 := Lib.hid (HO3.out.below hb4)
  have HR4 := Lib.hid (HR3.out.below hb4)
  have HV4 := Lib.hid (Src.of_row ho4)
  clear hb4 ho4
  go_wp2_with fail
  refine (bytes_b HO4.out HV4.out).mono ?_
  rintro e w5 ⟨rfl, hb5⟩
  have HB5 := Lib.hid (HB4.out.trans hb5)
  have HR5 := Lib.hid (((((HR4.out.below hb5).below (bw_alloc w5 (.cells #[.int .u8 5, .int .u8 6] 5))).below (bw_alloc _ (.cells #[.int .u8 7] 5)))).below (bw_alloc _ (.cells #[.slice (some ⟨w5.heap.size, 0, none⟩) 2 2, .slice none 0 0, .slice (some ⟨w5.heap.size + 1, 0, none⟩) 1 1] 23)))
  clear hb5
  go_wp2_with fail
  refine (blocks_b HR5.out (rows0 w5) (by decide)).mono ?_
  rintro e w6 ⟨rfl, hb6⟩
  have HB6 : Hid (BW w w6) := (((HB5.out.alloc _).alloc _).alloc _).trans hb6
  clear hb6
  go_wp2
  go_ret
  exact ⟨rfl, HB6.out⟩
end Go.Proofs.Ytaaeaaahllicbaa
