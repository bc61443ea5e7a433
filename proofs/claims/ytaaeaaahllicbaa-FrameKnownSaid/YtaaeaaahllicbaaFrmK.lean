/- Rows of rows of bytes: are they the same? An argument of rows. -/
import Derived.Test.YtaaeaaahllicbaaFrmI
import Derived.Test.YtaaeaaahllicbaaCodO4
import Derived.Deep.Matrix
namespace Go.Proofs.Ytaaeaaahllicbaa
open Go.RowKit Go.Maps Crc

theorem SrcRows.drew {w : World} {v : Value} {ss : List (List UInt8)} (h : SrcRows w v ss) (n : Nat) : SrcRows (w.drewN n) v ss := h.below (bw_drew (BW.refl w) n)
set_option maxHeartbeats 2000000 in
set_option maxRecDepth 100000 in
theorem blocks_true {w : World} {v1 v2 : Value} {ss : List (List UInt8)} (h1 : SrcRows w v1 ss) (h2 : SrcRows w v2 ss) (hn : (ss.length : Int) ≤ 9223372036854775807) : Calls Try.prog 21 #[v1, v2] w (DrewTrue w) := by
  obtain ⟨a1, c1, rfl⟩ := h1.len
  obtain ⟨a2, c2, rfl⟩ := h2.len
  obtain ⟨n, hnn⟩ : ∃ n, n = ss.length := ⟨_, rfl⟩
  rw [← hnn] at h1 h2 hn ⊢
  have H1 := Lib.hid h1; have H2 := Lib.hid h2; have HN := Lib.hid hnn
  have hne : ((n : Int) != (n : Int)) = false := by simp
  clear h1 h2 hnn
  go_enter Try.func21, Try.ntmps21
  go_wp2
  go_loopg [5] n (fun g s5 wx => ∃ i : Nat, i + g = n ∧ s5 = .int .i64 i ∧ ∃ nn, wx = w.drewN nn)
  case atStart => exact ⟨0, by omega, rfl, 0, rfl⟩
  case round =>
    obtain ⟨i, hig, rfl, nn, rfl⟩ := hrel
    have HIG := Lib.hid hig
    cases gk with
    | zero =>
      have hge : (n : Int) ≤ (i : Int) := by omega
      have hd : decide (i < n) = false := decide_eq_false (by omega)
      clear hig
      go_wp2
      go_ret
      exact ⟨rfl, nn, rfl⟩
    | succ g =>
      have hi : (i : Int) < (n : Int) := by omega
      have hi0 : (0 : Int) ≤ (i : Int) := by omega
      have hil : i < ss.length := by have := HN.out; omega
      obtain ⟨b1, o1, x1, y1, rfl, hc1, hs1⟩ := H1.out.get (i := i) (s := ss[i]) (List.getElem?_eq_getElem hil)
      obtain ⟨b2, o2, x2, y2, rfl, hc2, hs2⟩ := H2.out.get (i := i) (s := ss[i]) (List.getElem?_eq_getElem hil)
      have HB := Lib.hid (fun k => bytes_true (hs1.drew k) (hs2.drew k))
      generalize (ss[i]).length = sl at *
      clear hig hil hs1 hs2
      go_wp2
      go_quiet ((go_at_call 12; refine (HB.out _).mono ?_; rintro e w' ⟨he, m, rfl⟩; exact ⟨he, _, by rw [World.drewN_drewN, Nat.add_assoc]⟩))
      go_wp2
      go_roundg g
      case measure => omega
      case rel => exact ⟨i + 1, by have := HIG.out; omega, by first | rfl | simp, _, rfl⟩
theorem blocks_b {w : World} {v1 v2 : Value} {ss : List (List UInt8)} (h1 : SrcRows w v1 ss) (h2 : SrcRows w v2 ss) (hn : (ss.length : Int) ≤ 9223372036854775807) : Calls Try.prog 21 #[v1, v2] w (TruePost w) := by
  refine (blocks_true h1 h2 hn).mono ?_
  rintro e w' ⟨he, n, rfl⟩
  exact ⟨he, drewN_below w n⟩

section
open Go.ChangeShapes Go.WideShapes Go.Deep
variable {H : Type} {enc : TypeId × Value → H}
theorem src_cells {W : World} {a : Addr} {n cap : Nat} {us : List Value} (hl : us.length = n) (hn : n ≤ cap) (hm : cap ≤ maxLen) (h : ∀ (j : Nat) (u : Value), us[j]? = some u → W.cell? (a.add j) = some u) : Src W (.slice (some a) n cap) us := by
  have hcapm : (cap : Int) ≤ 9223372036854775807 := by unfold maxLen at hm; omega
  by_cases h0 : n = 0
  · subst h0
    exact .inl ⟨some a, cap, rfl, List.length_eq_zero_iff.1 hl, fun e => (by cases e), hcapm⟩
  · have hc0 := h 0 _ (List.getElem?_eq_getElem (by omega))
    have hsp : a.spot = none := by
      rw [show a.add 0 = a by simp [Addr.add]] at hc0
      unfold World.cell? at hc0
      split at hc0
      · split at hc0
        · cases hc0
        · rename_i hs; simpa using hs
      · cases hc0
    have hlt : a.block < W.heap.size := by have := cell_lt hc0; rw [add_block] at this; exact this
    obtain ⟨ab, ao, asp⟩ := a
    simp only at hsp
    subst hsp
    refine .inr ⟨ab, ao, cap, by rw [hl], by rw [hl]; exact hn, hcapm, hlt, fun j u hu => ?_⟩
    have h1 := h j u hu
    rw [addOff] at h1; exact h1
def byteOf (z : Int) : UInt8 := UInt8.ofNat z.toNat
theorem byteOf_eq {z : Int} (h : (Lit.int .u8 z).wf = true) : bV (byteOf z) = .int .u8 z := by
  unfold bV byteOf
  have h1 : 0 ≤ z ∧ z ≤ 255 := by
    unfold Lit.wf at h
    rw [Bool.and_eq_true, decide_eq_true_eq, decide_eq_true_eq] at h
    exact h
  have h2 : z.toNat < 256 := by omega
  congr 1
  rw [UInt8.toNat_ofNat']
  omega
/-- an argument of rows of bytes -/
theorem arg_rows {W : World} {ao : Option Addr} {ln cp : Nat} {d : DataW H} {p : List MemPlace} {b0 : Nat} {hd : Bool} (h : DataW.Trod enc Try.prog W b0 (fun _ => true) hd 22 (.slice ao ln cp) d p)
    (hw : ∀ m ∈ d.weights Try.prog 22, m ≤ reachBytes) : ∃ ss : List (List UInt8), SrcRows W (.slice ao ln cp) ss ∧ (∀ s ∈ ss, (s.length : Int) ≤ 140737488351232) ∧ (ss.length : Int) * 24 ≤ 140737488351232 := by
  obtain ⟨f, h0⟩ := h
  have h1 : DataW.trod enc Try.prog W b0 (fun _ => true) hd f 22 [.slice ao ln cp] = some (d, p) := h0
  have hrb : reachBytes = 140737488351232 := by decide +kernel
  have hb1 : Try.prog.bytesOf 5 = 1 := by kernel_rfl
  have hb24 : Try.prog.bytesOf 23 = 24 := by kernel_rfl
  rcases open_int_rows Try.underlying22 Try.underlying23 Try.underlying5 (by kernel_rfl) (by kernel_rfl) h1 with ⟨hcs, _⟩ | ⟨a, len, cap, A, L, C, Z, hcs, _, hlc, hm, hx, hcell⟩
  · simp at hcs
    obtain ⟨rfl, rfl, rfl⟩ := hcs
    exact ⟨[], ⟨[], rfl, Src.nil _, fun i x s h => (by simp at h)⟩, fun s h => (by cases h), by simp⟩
  · simp at hcs
    obtain ⟨rfl, rfl, rfl⟩ := hcs
    simp only [Prod.mk.injEq] at hx
    have hsl : ∀ r, r < ln → (((Z r).take (L r)).map byteOf).length = L r := fun r hr => by
      obtain ⟨_, h2, _, h4, _⟩ := hcell r (by omega)
      rw [List.length_map, List.length_take]; omega
    refine ⟨(List.range ln).map fun r => ((Z r).take (L r)).map byteOf, ⟨(List.range ln).map fun r => .slice (A r) (L r) (C r), by simp, ?_, ?_⟩, ?_, ?_⟩
    · refine src_cells (by simp) hlc hm fun j u hu => ?_
      rw [List.getElem?_map] at hu
      have hj : j < ln := by
        rcases Nat.lt_or_ge j ln with h | h
        · exact h
        · rw [List.getElem?_eq_none (by simpa using h)] at hu; cases hu
      rw [List.getElem?_range hj] at hu
      cases hu
      exact (hcell j (by omega)).1
    · intro i x s hx' hs
      rw [List.getElem?_map] at hx' hs
      have hi : i < ln := by
        rcases Nat.lt_or_ge i ln with h | h
        · exact h
        · rw [List.getElem?_eq_none (by simpa using h)] at hs; cases hs
      rw [List.getElem?_range hi] at hx' hs
      cases hx'; cases hs
      obtain ⟨_, h2, h3, h4, h5, h6, h7⟩ := hcell i (by omega)
      show Src W (.slice (A i) (L i) (C i)) ((((Z i).take (L i)).map byteOf).map bV)
      cases hA : A i with
      | none =>
        have h8 := h6 hA
        have h9 : L i = 0 := by omega
        rw [h9, h8]; exact Src.nil _
      | some a' =>
        refine src_cells (by rw [List.length_map]; exact hsl i hi) h2 h3 fun j u hu => ?_
        have hc := (h7 a' hA).2
        rw [List.map_map, List.getElem?_map] at hu
        have hj : j < L i := by
          rcases Nat.lt_or_ge j (L i) with h | h
          · exact h
          · rw [List.getElem?_eq_none (by rw [List.length_take]; omega)] at hu; cases hu
        have hjz : j < (Z i).length := by omega
        rw [List.getElem?_take, if_pos hj, List.getElem?_eq_getElem hjz] at hu
        cases hu
        rw [hc j (by omega)]
        show some _ = some (bV (byteOf _))
        rw [byteOf_eq (h5 _ (List.getElem_mem _)), List.getD_eq_getElem?_getD, List.getElem?_eq_getElem hjz]; rfl
    · intro s hs
      obtain ⟨r, hr, rfl⟩ := List.mem_map.1 hs
      have hr := List.mem_range.1 hr
      rw [hsl r hr]
      obtain ⟨_, h2, h3, h4, h5, h6, h7⟩ := hcell r (by omega)
      cases hA : A r with
      | none => have h8 := h6 hA; omega
      | some a' =>
        have h9 := hw ((((Z r).take (L r)).length + ((Z r).drop (L r)).length) * 1) (by
          rw [hx.1]
          refine weights_elem Try.underlying22 (List.mem_map.2 ⟨r, List.mem_range.2 hr, rfl⟩) _ ?_
          simp only [intRow, hA, DataW.weights, Try.underlying23, List.mem_cons]
          left
          simp only [lits, List.length_map]
          rw [hb1])
        rw [hrb] at h9
        simp only [List.length_take, List.length_drop] at h9
        omega
    · have h9 := hw ((ln + (cp - ln)) * 24) (by
        rw [hx.1]
        simp only [DataW.weights, Try.underlying22, List.mem_cons, List.length_map, List.length_range]
        left
        rw [hb24])
      rw [hrb] at h9
      rw [List.length_map, List.length_range]
      omega
end
end Go.Proofs.Ytaaeaaahllicbaa
