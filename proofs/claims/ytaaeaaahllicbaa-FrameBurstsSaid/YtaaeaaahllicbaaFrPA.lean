/- The program's small functions: the check's bytes, what fits, equal bytes. -/
import Derived.Test.YtaaeaaahllicbaaFrmK
import Derived.Test.YtaaeaaahllicbaaCodL
namespace Go.Proofs.Ytaaeaaahllicbaa
open Go.RowKit Go.Maps Crc

set_option maxHeartbeats 2000000 in
set_option maxRecDepth 100000 in
theorem checkForm_any (c : Nat) (hc32 : c < 4294967296) (w : World) : Calls Try.prog 26 #[.int .u32 (c : Int)] w (BytesPost w (le4 c)) := by
  obtain ⟨c1, hc1⟩ : ∃ c1, c1 = c / 256 := ⟨_, rfl⟩
  obtain ⟨c2, hc2⟩ : ∃ c2, c2 = c / 65536 := ⟨_, rfl⟩
  obtain ⟨c3, hc3⟩ : ∃ c3, c3 = c / 16777216 := ⟨_, rfl⟩
  have e1 : (c : Int) / 256 = (c1 : Int) := by omega
  have e2 : (c : Int) / 65536 = (c2 : Int) := by omega
  have e3 : (c : Int) / 16777216 = (c3 : Int) := by omega
  obtain ⟨b0, hb0⟩ : ∃ b0, b0 = c % 256 := ⟨_, rfl⟩
  obtain ⟨b1, hb1⟩ : ∃ b1, b1 = c1 % 256 := ⟨_, rfl⟩
  obtain ⟨b2, hb2⟩ : ∃ b2, b2 = c2 % 256 := ⟨_, rfl⟩
  obtain ⟨b3, hb3⟩ : ∃ b3, b3 = c3 % 256 := ⟨_, rfl⟩
  have f0 : IntKind.u8.wrap (c : Int) = (b0 : Int) := by rw [IntKind.wrap_u8']; omega
  have f1 : IntKind.u8.wrap (c1 : Int) = (b1 : Int) := by rw [IntKind.wrap_u8']; omega
  have f2 : IntKind.u8.wrap (c2 : Int) = (b2 : Int) := by rw [IntKind.wrap_u8']; omega
  have f3 : IntKind.u8.wrap (c3 : Int) = (b3 : Int) := by rw [IntKind.wrap_u8']; omega
  have HCE := Lib.hid (le4_cells (c := c) (b0 := b0) (b1 := b1) (b2 := b2) (b3 := b3) hb0 (by rw [hb1, hc1]) (by rw [hb2, hc2]) (by rw [hb3, hc3]))
  have hc0 : 0 ≤ (c : Int) := by omega
  clear hc1 hc2 hc3 hb0 hb1 hb2 hb3
  go_enter Try.func26, Try.ntmps26
  go_wp2
  go_ret
  refine ⟨_, rfl, ?_, bw_alloc _ _⟩
  rw [← HCE.out]
  exact own_new w _ 5 4 rfl (by decide)

set_option maxHeartbeats 2000000 in
set_option maxRecDepth 100000 in
theorem equal_any {w : World} {v1 v2 : Value} {l1 l2 : List UInt8} (h1 : Src w v1 (l1.map bV)) (h2 : Src w v2 (l2.map bV)) (r : Bool) (hr : (l1 == l2) = r) : Calls Try.prog 31 #[v1, v2] w fun e w' => e = .returned (.bool r) ∧ w = w' := by
  obtain ⟨a1, c1, rfl⟩ := h1.len
  obtain ⟨a2, c2, rfl⟩ := h2.len
  have k1 := src_string h1
  have k2 := src_string h2
  rw [List.length_map] at k1 k2 ⊢
  rw [List.length_map]
  generalize l1.length = n1 at k1 ⊢
  generalize l2.length = n2 at k2 ⊢
  have HR := Lib.hid hr
  clear hr h1 h2
  go_enter Try.func31, Try.ntmps31
  go_wp2
  go_ret
  exact ⟨ret_bool (by simpa using HR.out), rfl⟩

/-- do the parts have at most so many bytes together? -/
def fitB : List (List UInt8) → Nat → Bool
  | [], _ => true
  | p :: r, m => if m < p.length then false else fitB r (m - p.length)
theorem fitB_eq : ∀ (ps : List (List UInt8)) (m : Nat), fitB ps m = decide (ps.flatten.length ≤ m)
  | [], m => by simp [fitB]
  | p :: r, m => by
    rw [fitB, List.flatten_cons, List.length_append]
    split
    · rw [eq_comm, decide_eq_false_iff_not]; omega
    · rw [fitB_eq r]; rw [decide_eq_decide]; omega

set_option maxHeartbeats 2000000 in
set_option maxRecDepth 100000 in
theorem fit_any {w : World} {v : Value} {ss : List (List UInt8)} (h : SrcRows w v ss) (hl : ∀ s ∈ ss, (s.length : Int) ≤ 140737488351232) (hn : (ss.length : Int) ≤ 9223372036854775807) (m : Nat) (hm : (m : Int) ≤ 9223372036854775807) (r : Bool) (hr : fitB ss m = r) :
    Calls Try.prog 25 #[v, .int .i64 (m : Int)] w fun e w' => e = .returned (.bool r) ∧ w = w' := by
  obtain ⟨ao, cap, rfl⟩ := h.len
  obtain ⟨n, hnn⟩ : ∃ n, n = ss.length := ⟨_, rfl⟩
  rw [← hnn] at h hn ⊢
  have H := Lib.hid h
  have HN := Lib.hid hnn
  have HL := Lib.hid hl
  have HR := Lib.hid hr
  clear h hnn hl hr
  go_enter Try.func25, Try.ntmps25
  go_wp2
  go_loopg [1, 9] n (fun g s1 s9 wx => ∃ (i k : Nat), i + g = n ∧ s9 = .int .i64 i ∧ s1 = .int .i64 (k : Int) ∧ (k : Int) ≤ 9223372036854775807 ∧ fitB ss m = fitB (ss.drop i) k ∧ w = wx)
  case atStart => exact ⟨0, m, by omega, rfl, rfl, hm, rfl, rfl⟩
  case round =>
    obtain ⟨i, k, hig, rfl, rfl, hk, hf, rfl⟩ := hrel
    have HF := Lib.hid hf
    have HIG := Lib.hid hig
    clear hf
    cases gk with
    | zero =>
      have hge : (n : Int) ≤ (i : Int) := by omega
      have hd0 : decide (i < n) = false := decide_eq_false (by omega)
      have HFIN : Hid (r = true) := by
        unfold Hid
        rw [← HR.out, HF.out, List.drop_eq_nil_of_le (by have := HN.out; omega)]; rfl
      clear hig
      go_wp2
      go_ret
      exact ⟨ret_bool HFIN.out.symm, rfl⟩
    | succ g =>
      have hi : (i : Int) < (n : Int) := by omega
      have hi0 : (0 : Int) ≤ (i : Int) := by omega
      have hil : i < ss.length := by have := HN.out; omega
      obtain ⟨x, hx⟩ : ∃ x, x = ss[i] := ⟨_, rfl⟩
      obtain ⟨b0, off, xo, xc, rfl, hc0, _⟩ := H.out.get (i := i) (s := x) (by rw [hx]; exact List.getElem?_eq_getElem hil)
      have HD : Hid (fitB (ss.drop i) k = if k < x.length then false else fitB (ss.drop (i + 1)) (k - x.length)) := by
        unfold Hid; rw [List.drop_eq_getElem_cons hil, fitB, hx]
      have hxl : (x.length : Int) ≤ 140737488351232 := by rw [hx]; exact HL.out _ (List.getElem_mem _)
      obtain ⟨sl, hsl⟩ : ∃ sl, sl = x.length := ⟨_, rfl⟩
      rw [← hsl] at hc0 hxl HD
      clear hig hx hsl hil
      by_cases hlt : k < sl
      · have hd : decide (k < sl) = true := decide_eq_true hlt
        have HFIN : Hid (r = false) := by
          unfold Hid
          rw [← HR.out, HF.out, HD.out, if_pos hlt]
        clear hlt HD
        go_wp2
        go_ret
        exact ⟨ret_bool HFIN.out.symm, rfl⟩
      · have hd : decide (k < sl) = false := decide_eq_false hlt
        have hks : (sl : Int) ≤ (k : Int) := by omega
        have HNX : Hid (fitB ss m = fitB (ss.drop (i + 1)) (k - sl)) := by
          unfold Hid
          rw [HF.out, HD.out, if_neg hlt]
        clear hlt HD
        go_wp2
        go_roundg g
        case measure => omega
        case rel => exact ⟨i + 1, k - sl, by have := HIG.out; omega, by first | rfl | simp, by go_num, by omega, HNX.out, rfl⟩
end Go.Proofs.Ytaaeaaahllicbaa
