/- The program's table of 16, filled by a closure; its Sum. -/
import Derived.Test.YtaaeaaahllicbaaFrmK
import Derived.Laws.Rows
namespace Go.Proofs.Ytaaeaaahllicbaa
open Go.RowKit Go.Maps Crc

def tabA : Array Value := ((List.range 16).map fun n => Value.int .u32 (tabP n : Int)).toArray
def tabU (i : Nat) : Array Value := ((List.range 16).map fun n => if n < i then Value.int .u32 (tabP n : Int) else .int .u32 0).toArray
theorem tabU_size (i : Nat) : (tabU i).size = 16 := by simp [tabU]
theorem tabU_all {i : Nat} (h : 16 ≤ i) : tabU i = tabA := by
  unfold tabU tabA
  congr 1
  apply List.map_congr_left
  intro k hk
  rw [if_pos (by have := List.mem_range.1 hk; omega)]
theorem tabU_next {i : Nat} (h : i < 16) : (tabU i).setIfInBounds i (.int .u32 (tabP i : Int)) = tabU (i + 1) := by
  apply Array.ext_getElem?
  intro k
  rw [Array.getElem?_setIfInBounds]
  unfold tabU
  simp only [List.size_toArray, List.length_map, List.length_range, List.getElem?_toArray, List.getElem?_map]
  by_cases hk : k < 16
  · rw [List.getElem?_range hk]
    simp only [Option.map_some]
    by_cases e : i = k
    · subst e; simp [h]
    · rw [if_neg e]
      congr 1
      by_cases h2 : k < i
      · rw [if_pos h2, if_pos (by omega)]
      · rw [if_neg h2, if_neg (by omega)]
  · rw [List.getElem?_eq_none (by simp; omega)]
    rw [if_neg (by omega)]
    rfl
theorem tabA_get {i : Nat} (h : i < 16) : tabA[i]? = some (.int .u32 (tabP i : Int)) := by
  unfold tabA
  simp only [List.getElem?_toArray, List.getElem?_map, List.getElem?_range h]; rfl
theorem run0 (k row : Nat) : run row (List.replicate (k + 1) false) = stp (run row (List.replicate k false)) false := by
  rw [List.replicate_succ', run_snoc]

set_option maxHeartbeats 2000000 in
set_option maxRecDepth 100000 in
theorem fill_any {w : World} {g i : Nat} {cs : Array Value} {t : TypeId} (hg : w.heap[g]? = some (.cells cs t (0, 0))) (hs : cs.size = 16) (hi : i < 16) :
    Calls Try.prog 38 #[.int .u32 (i : Int), .pointer (some ⟨g, 0, none⟩)] w fun e w' => (∃ v, e = .returned v) ∧ w.setCell ⟨g, i, none⟩ (.int .u32 (tabP i : Int)) = w' := by
  have hi1 : (i : Int) < 16 := by omega
  have hi0 : (0 : Int) ≤ (i : Int) := by omega
  have hfr : w.frozen? ⟨g, i, none⟩ = false := unfrozen_of hg
  obtain ⟨y, hy⟩ : ∃ y, w.cell? ⟨g, i, none⟩ = some y := ⟨_, cell_of hg (Array.getElem?_eq_getElem (by omega))⟩
  clear hg hs
  go_enter Try.func38, Try.ntmps38
  go_wp2
  go_loopg [3, 6] 4 (fun g s3 s6 wx => ∃ (k d : Nat), k + g = 4 ∧ s6 = .int .i64 k ∧ s3 = .int .u32 (d : Int) ∧ d < 4294967296 ∧ d = run i (List.replicate k false) ∧ w = wx)
  case atStart => exact ⟨0, i, by omega, rfl, rfl, by omega, rfl, rfl⟩
  case round =>
    obtain ⟨k, d, hkg, rfl, rfl, hd32, hd, rfl⟩ := hrel
    have HD := Lib.hid hd
    have HKG := Lib.hid hkg
    clear hd
    cases gk with
    | zero =>
      have hge : (4 : Int) ≤ (k : Int) := by omega
      have hd8 : decide ((k : Int) < 4) = false := decide_eq_false (by omega)
      have hd9 : decide (k < 4) = false := decide_eq_false (by omega)
      have HT : Hid (d = tabP i) := by
        unfold Hid tabP
        rw [HD.out, show k = 4 by omega]
      clear hkg
      go_wp2
      go_end0
      exact ⟨⟨_, rfl⟩, by rw [HT.out]⟩
    | succ g2 =>
      have hk : (k : Int) < 4 := by omega
      have hk0 : (0 : Int) ≤ (k : Int) := by omega
      have hand2 := and_one hd32
      obtain ⟨q, hq⟩ : ∃ q, q = d % 2 := ⟨_, rfl⟩
      rw [← hq] at hand2
      have hq2 : q < 2 := by omega
      obtain ⟨f, hf⟩ : ∃ f, f = d / 2 := ⟨_, rfl⟩
      have hdiv : (d : Int) / 2 = (f : Int) := by omega
      have hf32 : f < 4294967296 := by omega
      have HF := Lib.hid hf
      by_cases hpq : q = 0
      · have hne : ((q : Int) == 1) = false := by simp [hpq]
        have HNX : Hid (f = run i (List.replicate (k + 1) false)) := by
          unfold Hid
          rw [run0, ← HD.out]; unfold stp
          rw [← hq, hpq, HF.out]; rfl
        clear hq hkg hpq hf
        go_wp2
        go_roundg g2
        case measure => omega
        case rel => exact ⟨k + 1, f, by have := HKG.out; omega, by first | rfl | simp, by first | rfl | simp, hf32, HNX.out, rfl⟩
      · have hne : ((q : Int) == 1) = true := by simp; omega
        have hxf := xor_pol hf32
        obtain ⟨h, hh⟩ : ∃ h, h = f ^^^ pol := ⟨_, rfl⟩
        rw [← hh] at hxf
        have HH := Lib.hid hh
        have HNX : Hid (h = run i (List.replicate (k + 1) false)) := by
          unfold Hid
          rw [run0, ← HD.out]; unfold stp
          rw [← hq, HH.out, HF.out, if_pos]
          rw [show q = 1 by omega]; rfl
        have hl : h < 4294967296 := by rw [hh]; exact Nat.xor_lt_two_pow (n := 32) hf32 pol_lt
        clear hq hkg hpq hf hh
        go_wp2
        go_roundg g2
        case measure => omega
        case rel => exact ⟨k + 1, h, by have := HKG.out; omega, by first | rfl | simp, by first | rfl | simp, hl, HNX.out, rfl⟩

theorem setRow_heap' {w : World} {g : Nat} {cs old : Array Value} {t : TypeId} (h : w.heap[g]? = some (.cells old t (0, 0))) : (w.setRow g cs).heap[g]? = some (.cells cs t (0, 0)) := setRow_heap w g old _ t _ h
theorem bw_setRow {w W : World} (h : BW w W) {g : Nat} (cs : Array Value) (hg : w.heap.size ≤ g) : BW w (W.setRow g cs) := by
  refine ⟨h.os, h.tape, h.output, by rw [size_setRow]; exact h.size, fun k hk => ?_⟩
  have : (W.setRow g cs).heap[k]? = W.heap[k]? := by
    simp only [World.setRow, Array.getElem?_modify]
    rw [if_neg (by omega)]
  exact this.trans (h.block k hk)
set_option maxHeartbeats 2000000 in
set_option maxRecDepth 100000 in
theorem table_any (w : World) : Calls Try.prog 30 #[] w fun e w' => e = .returned (.agg tabA) ∧ BW w w' := by
  go_enter Try.func30, Try.ntmps30
  go_wp2
  go_loopw [5] (fun s5 wx => ∃ i : Nat, i ≤ 16 ∧ s5 = .int .u32 (i : Int) ∧ wx.heap[w.heap.size + 1]? = some (.cells (tabU i) 55 (0, 0)) ∧ wx.heap[w.heap.size]? = some (.cells (tabU 0) 55 (0, 0)) ∧ BW w wx) (fun s5 _ => 16 - (intOf s5).toNat)
  case atStart => exact ⟨0, by omega, rfl, heap_alloc2_new w _ _, heap_alloc2_old w _ _, (bw_alloc w _).alloc _⟩
  case round =>
    obtain ⟨i, hi, rfl, h1, h0, hb⟩ := hrel
    have HB := Lib.hid hb
    have H0 := Lib.hid h0
    have H1 := Lib.hid h1
    clear hb h0 h1
    by_cases hlt : i < 16
    · have hlt1 : (i : Int) < 16 := by omega
      have hi0 : (0 : Int) ≤ (i : Int) := by omega
      have HC := Lib.hid (fill_any H1.out (tabU_size i) hlt)
      have HLT := Lib.hid hlt
      clear hlt hi
      go_wp2_with fail
      refine HC.out.mono ?_
      rintro e w2 ⟨⟨v, rfl⟩, rfl⟩
      go_wp2
      go_roundw
      case rel =>
        refine ⟨i + 1, HLT.out, by first | rfl | simp, ?_, ?_, HB.out.setCell (by simp) _⟩
        · rw [← tabU_next HLT.out]; exact heap_setCell_same wr (w.heap.size + 1) i _ _ _ H1.out
        · exact (heap_setCell_other wr ⟨w.heap.size + 1, i, none⟩ w.heap.size _ (by simp)).trans H0.out
      case measure => simp [intOf]; omega
    · obtain rfl : i = 16 := by omega
      clear hlt hi
      have HA : Hid (wr.heap[w.heap.size + 1]? = some (.cells tabA 55 (0, 0))) := by
        have h := H1.out; rw [tabU_all (Nat.le_refl _)] at h; exact h
      go_wp2_with (first | (refine wpList_load_row rfl 55 _ rfl (w.heap.size + 1) rfl 55 tabA (0, 0) _ HA.out Try.underlying55 rfl (by kernel_rfl) ?_) | (refine wpList_store_row rfl 55 _ _ rfl w.heap.size tabA rfl rfl 55 (tabU 0) H0.out (by kernel_rfl) (by kernel_rfl) (by kernel_rfl) ?_))
      refine bodyPost_ret (results_cell_row rfl _ _ w.heap.size 55 tabA (0, 0) _ rfl (setRow_heap' H0.out) Try.underlying55 rfl (by kernel_rfl)) rfl ⟨rfl, ?_⟩
      exact bw_setRow HB.out tabA (Nat.le_refl _)

def SumPost (w : World) (bs : List UInt8) (e : Ending) (w' : World) : Prop := e = .returned (.int .u32 (crcP bs : Int)) ∧ BW w w'
theorem xor_nat {x y : Nat} (h : x < 4294967296) (h2 : y < 4294967296) : bits .xor .u32 (x : Int) (y : Int) = ((x ^^^ y : Nat) : Int) := u32_xor_nat x y h h2
theorem and_15 {x : Nat} (h : x < 4294967296) : bits .and .u32 (x : Int) 15 = ((x % 16 : Nat) : Int) := by
  rw [show (15 : Int) = ((15 : Nat) : Int) from rfl, u32_and_nat _ _ h (by decide)]
  congr 1
  exact Nat.and_two_pow_sub_one_eq_mod x 4
theorem tabP_lt {n : Nat} (h : n < 16) : tabP n < 4294967296 := run_lt _ (by omega)
/-- two steps of four bits are a byte's -/
theorem byte_step {c a f g p q d h : Nat} (x : UInt8) (ha : a = c ^^^ x.toNat) (hf : f = a / 16) (hp : p = a % 16) (hd : d = f ^^^ tabP p) (hg : g = d / 16) (hq : q = d % 16) (hh : h = g ^^^ tabP q) : run c (bitsB x) = h := by
  have hx := x.toNat_lt
  rw [byte_nibs, run_append, nib_step c (x := x.toNat % 16) (by omega)]
  have e1 : (c ^^^ x.toNat % 16) % 16 = p := by
    rw [hp, ha]
    apply Nat.eq_of_testBit_eq; intro i
    rw [show (16 : Nat) = 2 ^ 4 from rfl, Nat.testBit_mod_two_pow, Nat.testBit_mod_two_pow, Nat.testBit_xor, Nat.testBit_xor, Nat.testBit_mod_two_pow]
    by_cases h : i < 4 <;> simp [h]
  have e2 : (c ^^^ x.toNat % 16) / 16 ^^^ x.toNat / 16 = f := by
    rw [hf, ha]
    apply Nat.eq_of_testBit_eq; intro i
    rw [show (16 : Nat) = 2 ^ 4 from rfl, Nat.testBit_xor, Nat.testBit_div_two_pow, Nat.testBit_div_two_pow, Nat.testBit_div_two_pow, Nat.testBit_xor, Nat.testBit_xor, Nat.testBit_mod_two_pow]
    have : ¬ i + 4 < 4 := by omega
    simp [this]
  have e3 : (c ^^^ x.toNat % 16) / 16 ^^^ tabP ((c ^^^ x.toNat % 16) % 16) ^^^ x.toNat / 16 = d := by
    rw [e1, Nat.xor_assoc, Nat.xor_comm (tabP p), ← Nat.xor_assoc, e2, hd]
  rw [nib_step _ (x := x.toNat / 16) (by omega), e3, hh, hg, hq]

set_option maxHeartbeats 4000000 in
set_option maxRecDepth 100000 in
theorem sum_any {w : World} {v : Value} {ss : List (List UInt8)} (h : SrcRows w v ss) (hl : ∀ s ∈ ss, (s.length : Int) ≤ 140737488351232) (hn : (ss.length : Int) ≤ 9223372036854775807) : Calls Try.prog 13 #[v] w (SumPost w ss.flatten) := by
  obtain ⟨ao, cap, rfl⟩ := h.len
  obtain ⟨n, hnn⟩ : ∃ n, n = ss.length := ⟨_, rfl⟩
  rw [← hnn] at h hn ⊢
  have H := Lib.hid h
  have HN := Lib.hid hnn
  have HL := Lib.hid hl
  clear h hnn hl
  go_enter Try.func13, Try.ntmps13
  go_wp2_with (first | (go_at_call 30; refine (table_any _).mono ?_; rintro e w1 ⟨rfl, hb1⟩; have HB1 := Lib.hid hb1; clear hb1) | (refine wpList_store_row rfl 55 _ _ rfl w1.heap.size tabA rfl rfl 55 _ (heap_new w1 _) (by kernel_rfl) (by kernel_rfl) (by kernel_rfl) ?_))
  obtain ⟨s, hs⟩ : ∃ s, s = w1.heap.size := ⟨_, rfl⟩
  obtain ⟨wA, hwA⟩ : ∃ wA, wA = (w1.alloc (.cells #[.int .u32 0, .int .u32 0, .int .u32 0, .int .u32 0, .int .u32 0, .int .u32 0, .int .u32 0, .int .u32 0, .int .u32 0, .int .u32 0, .int .u32 0, .int .u32 0, .int .u32 0, .int .u32 0, .int .u32 0, .int .u32 0] 55)).setRow w1.heap.size tabA := ⟨_, rfl⟩
  have HBW : Hid (BW w wA) := by
    unfold Hid; rw [hwA]; exact bw_setRow (HB1.out.alloc _) _ HB1.out.size
  have HTAB : Hid (wA.heap[s]? = some (.cells tabA 55 (0, 0))) := by
    unfold Hid; rw [hwA, hs]; exact setRow_heap' (heap_new w1 _)
  rw [← hwA, ← hs]
  have HCELL : Hid (∀ p : Nat, p < 16 → wA.cell? ⟨s, p, none⟩ = some (.int .u32 (tabP p : Int))) := fun p hp => cell_of HTAB.out (tabA_get hp)
  have HSRC := Lib.hid (H.out.below HBW.out)
  clear hwA hs HB1
  go_loopg [4, 12] n (fun g s4 s12 wx => ∃ (i c : Nat), i + g = n ∧ s12 = .int .i64 i ∧ s4 = .int .u32 (c : Int) ∧ c < 4294967296 ∧ c = run 4294967295 (bitsL (ss.take i).flatten) ∧ wA = wx)
  case atStart => exact ⟨0, 4294967295, by omega, rfl, rfl, by decide, rfl, rfl⟩
  case round =>
    obtain ⟨i, c, hig, rfl, rfl, hc32, hc, rfl⟩ := hrel
    have HC := Lib.hid hc
    have HIG := Lib.hid hig
    clear hc
    cases gk with
    | zero =>
      have hge : (n : Int) ≤ (i : Int) := by omega
      have hd0 : decide (i < n) = false := decide_eq_false (by omega)
      have HFIN : Hid (((c ^^^ 4294967295 : Nat) : Int) = (crcP ss.flatten : Int)) := by
        unfold Hid crcP
        rw [HC.out, List.take_of_length_le (by have := HN.out; omega)]
      have hx := xor_ones hc32
      have hx2 : bits .xor .u32 4294967295 (c : Int) = ((c ^^^ 4294967295 : Nat) : Int) := by
        have := u32_xor_nat 4294967295 c (by decide) hc32
        rw [Nat.xor_comm] at this; exact this
      clear hig
      go_wp2
      go_ret
      exact ⟨ret_int ((show bits .xor .u32 IntKind.u32.max (c : Int) = _ from hx2).trans HFIN.out), HBW.out⟩
    | succ g =>
      have hi : (i : Int) < (n : Int) := by omega
      have hi0 : (0 : Int) ≤ (i : Int) := by omega
      have hil : i < ss.length := by have := HN.out; omega
      obtain ⟨x, hx⟩ : ∃ x, x = ss[i] := ⟨_, rfl⟩
      obtain ⟨b0, off, xo, xc, rfl, hc0, hsx⟩ := HSRC.out.get (i := i) (s := x) (by rw [hx]; exact List.getElem?_eq_getElem hil)
      have HSX := Lib.hid hsx
      have HNEXT : Hid (bitsL (ss.take (i + 1)).flatten = bitsL (ss.take i).flatten ++ bitsL x) := by
        unfold Hid
        rw [List.take_succ_eq_append_getElem hil, List.flatten_append, bitsL_append, hx]
        simp
      have hxl : (x.length : Int) ≤ 140737488351232 := by rw [hx]; exact HL.out _ (List.getElem_mem _)
      obtain ⟨sl, hsl⟩ : ∃ sl, sl = x.length := ⟨_, rfl⟩
      rw [← hsl] at hc0 hxl HSX
      have HSL := Lib.hid hsl
      clear hig hx hsl hil hsx
      go_wp2
      go_loopg [4, 18] sl (fun g s4 s18 wx => ∃ (j d : Nat), j + g = sl ∧ s18 = .int .i64 j ∧ s4 = .int .u32 (d : Int) ∧ d < 4294967296 ∧ d = run c (bitsL (x.take j)) ∧ wA = wx)
      case atStart => exact ⟨0, c, by omega, rfl, rfl, hc32, rfl, rfl⟩
      case round =>
        obtain ⟨j, d, hjg, rfl, rfl, hd32, hd, rfl⟩ := hrel
        have HD := Lib.hid hd
        have HJG := Lib.hid hjg
        clear hd
        cases gk with
        | zero =>
          have hge : (sl : Int) ≤ (j : Int) := by omega
          have hd9 : decide (j < sl) = false := decide_eq_false (by omega)
          have HNX : Hid (d = run 4294967295 (bitsL (ss.take (i + 1)).flatten)) := by
            unfold Hid
            rw [HNEXT.out, run_append, ← HC.out, HD.out, List.take_of_length_le (by have := HSL.out; omega)]
          clear hjg
          go_wp2
          go_roundg g
          case measure => omega
          case rel => exact ⟨i + 1, d, by have := HIG.out; omega, by first | rfl | simp, rfl, hd32, HNX.out, rfl⟩
        | succ g2 =>
          have hj : (j : Int) < (sl : Int) := by omega
          have hj0 : (0 : Int) ≤ (j : Int) := by omega
          have hjl : j < x.length := by have := HSL.out; omega
          obtain ⟨z, hz⟩ : ∃ z, z = x[j] := ⟨_, rfl⟩
          obtain ⟨b1, o1, rfl, hc1⟩ := HSX.out.get (i := j) (u := bV z) (by rw [List.getElem?_map, List.getElem?_eq_getElem hjl, hz]; rfl)
          obtain ⟨y, hy⟩ : ∃ y, y = z.toNat := ⟨_, rfl⟩
          unfold bV at hc1
          rw [← hy] at hc1
          have hy256 : y < 256 := by rw [hy]; exact UInt8.toNat_lt _
          have HST : Hid (bitsL (x.take (j + 1)) = bitsL (x.take j) ++ bitsB z) := by
            unfold Hid
            rw [List.take_succ_eq_append_getElem hjl, ← hz, bitsL_append]
            show _ ++ (bitsB z ++ []) = _
            rw [List.append_nil]
          have hy0 : 0 ≤ (y : Int) := by omega
          have hwy : IntKind.u32.wrap (y : Int) = (y : Int) := by rw [IntKind.wrap_u32']; omega
          obtain ⟨a, ha⟩ : ∃ a, a = d ^^^ y := ⟨_, rfl⟩
          have x1 := xor_nat hd32 (y := y) (by omega)
          rw [← ha] at x1
          have ha32 : a < 4294967296 := by rw [ha]; exact Nat.xor_lt_two_pow (n := 32) hd32 (by omega)
          have ha0 : 0 ≤ (a : Int) := by omega
          obtain ⟨f, hf⟩ : ∃ f, f = a / 16 := ⟨_, rfl⟩
          obtain ⟨p, hp⟩ : ∃ p, p = a % 16 := ⟨_, rfl⟩
          have d1 : (a : Int) / 16 = (f : Int) := by omega
          have n1 := and_15 ha32
          rw [← hp] at n1
          have hp16 : p < 16 := by omega
          have hf32 : f < 4294967296 := by omega
          obtain ⟨t, ht⟩ : ∃ t, t = tabP p := ⟨_, rfl⟩
          have cl1 := HCELL.out p hp16
          rw [← ht] at cl1
          have ht32 : t < 4294967296 := by rw [ht]; exact tabP_lt hp16
          obtain ⟨e, he⟩ : ∃ e, e = f ^^^ t := ⟨_, rfl⟩
          have x2 := xor_nat hf32 ht32
          rw [← he] at x2
          have he32 : e < 4294967296 := by rw [he]; exact Nat.xor_lt_two_pow (n := 32) hf32 ht32
          have he0 : 0 ≤ (e : Int) := by omega
          obtain ⟨f2, hf2⟩ : ∃ f2, f2 = e / 16 := ⟨_, rfl⟩
          obtain ⟨p2, hp2⟩ : ∃ p2, p2 = e % 16 := ⟨_, rfl⟩
          have d2 : (e : Int) / 16 = (f2 : Int) := by omega
          have n2 := and_15 he32
          rw [← hp2] at n2
          have hp216 : p2 < 16 := by omega
          have hf232 : f2 < 4294967296 := by omega
          obtain ⟨t2, ht2⟩ : ∃ t2, t2 = tabP p2 := ⟨_, rfl⟩
          have cl2 := HCELL.out p2 hp216
          rw [← ht2] at cl2
          have ht232 : t2 < 4294967296 := by rw [ht2]; exact tabP_lt hp216
          obtain ⟨q, hq⟩ : ∃ q, q = f2 ^^^ t2 := ⟨_, rfl⟩
          have x3 := xor_nat hf232 ht232
          rw [← hq] at x3
          have hq32 : q < 4294967296 := by rw [hq]; exact Nat.xor_lt_two_pow (n := 32) hf232 ht232
          have HNX : Hid (q = run c (bitsL (x.take (j + 1)))) := by
            unfold Hid
            rw [HST.out, run_append, ← HD.out]
            exact (byte_step z (by rw [ha, hy]) hf hp (by rw [he, ht]) hf2 hp2 (by rw [hq, ht2])).symm
          have hpi : (p : Int) < 16 := by omega
          have hp0 : 0 ≤ (p : Int) := by omega
          have hp2i : (p2 : Int) < 16 := by omega
          have hp20 : 0 ≤ (p2 : Int) := by omega
          clear hjg hjl hz hy ha hf hp ht he hf2 hp2 ht2 hq
          go_wp2
          go_roundg g2
          case measure => omega
          case rel => exact ⟨j + 1, q, by have := HJG.out; omega, by first | rfl | simp, by first | rfl | simp, hq32, HNX.out, rfl⟩
end Go.Proofs.Ytaaeaaahllicbaa
