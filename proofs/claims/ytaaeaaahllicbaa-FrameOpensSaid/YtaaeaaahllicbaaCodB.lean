/- The reader's and the numbers' small functions; clones of bytes; a new reader. -/
import Derived.Test.YtaaeaaahllicbaaCodA
import Derived.Test.YtaaeaaahllicbaaCodM
import Derived.Laws.DeepNot64
namespace Go.Proofs.Ytaaeaaahllicbaa
open Go.RowKit Go.Maps

def RdC (w : World) (r : Nat) (v : Value) (e : Int) : Prop := w.heap[r]? = some (.cells #[v, .int .i64 e] 76 (0, 0))

/-- a reader: l is left, e its error; its own block, and that of its bytes -/
structure Rd (w : World) (r c : Nat) (l : List UInt8) (e : Int) : Prop where
  ex : ∃ v, RdC w r v e ∧ Src w v (l.map bV) ∧ (l ≠ [] → ∀ a n k, v = .slice (some a) n k → a.block = c)
  ne : l ≠ [] → r ≠ c
  lt : c < w.heap.size
  len : (l.length : Int) ≤ 140737488351232

theorem Rd.keep {w w' : World} {r c : Nat} {l : List UInt8} {e : Int} (h : Rd w r c l e) (hs : w.heap.size ≤ w'.heap.size) (h1 : w'.heap[r]? = w.heap[r]?) (h2 : c < w.heap.size → w'.heap[c]? = w.heap[c]?) : Rd w' r c l e := by
  obtain ⟨⟨v, a1, a2, a3⟩, b1, b3, b2⟩ := h
  refine ⟨⟨v, h1.trans a1, a2.keep hs ?_, a3⟩, b1, Nat.lt_of_lt_of_le b3 hs, b2⟩
  intro hne a n k hv
  have hl : l ≠ [] := by rintro rfl; exact hne rfl
  have hb := a3 hl a n k hv
  rw [hb]
  refine h2 ?_
  rcases a2 with ⟨_, _, _, h, _⟩ | ⟨b, off, cap, hv', _, _, h3, _⟩
  · exact absurd h hne
  · rw [hv'] at hv; cases hv; rw [← hb]; exact h3
theorem Rd.moved {w w' : World} {r c : Nat} {l : List UInt8} {e : Int} {F : Nat → Prop} (h : Rd w r c l e) (m : Moves F w w') (h1 : ¬ F r) (h2 : ¬ F c) : Rd w' r c l e := by
  have hr := h.ex
  obtain ⟨v, a1, _⟩ := hr
  exact h.keep m.size (m.block r (lt_of_heap a1) h1) (fun hc => m.block c hc h2)
theorem Rd.ltr {w : World} {r c : Nat} {l : List UInt8} {e : Int} (h : Rd w r c l e) : r < w.heap.size := by
  obtain ⟨v, a1, _⟩ := h.ex; exact lt_of_heap a1
theorem Rd.form {w : World} {r c : Nat} {l : List UInt8} {e : Int} (h : Rd w r c l e) : ∃ ao cap, RdC w r (.slice ao l.length cap) e ∧ Src w (.slice ao l.length cap) (l.map bV) ∧ (l ≠ [] → ∀ a, ao = some a → a.block = c) := by
  obtain ⟨v, a1, a2, a3⟩ := h.ex
  obtain ⟨ao, cap, rfl⟩ := a2.len
  rw [List.length_map] at *
  exact ⟨ao, cap, a1, a2, fun hl a ha => a3 hl a _ _ (by rw [ha])⟩

set_option maxHeartbeats 400000 in
theorem err_c {w : World} {r : Nat} {v : Value} {e : Int} (h : RdC w r v e) : Calls Try.prog 52 #[.pointer (some ⟨r, 0, none⟩)] w fun en w' => en = .returned (.int .i64 e) ∧ w = w' := by
  have c1 : w.cell? ⟨r, 1, none⟩ = some (.int .i64 e) := cell_of h rfl
  clear h
  go_enter Try.func52, Try.ntmps52
  go_wp2
  go_ret
  exact ⟨rfl, rfl⟩
set_option maxHeartbeats 400000 in
theorem err_nil (w : World) : Calls Try.prog 52 #[.pointer none] w fun en w' => en = .returned (.int .i64 20) ∧ w = w' := by
  go_enter Try.func52, Try.ntmps52
  go_wp2
  go_ret
  exact ⟨rfl, rfl⟩
set_option maxHeartbeats 400000 in
theorem left_c {w : World} {r : Nat} {ao : Option Addr} {n cap : Nat} {e : Int} (h : RdC w r (.slice ao n cap) e) : Calls Try.prog 51 #[.pointer (some ⟨r, 0, none⟩)] w fun en w' => en = .returned (.int .i64 (n : Int)) ∧ w = w' := by
  have c1 : w.cell? ⟨r, 0, none⟩ = some (.slice ao n cap) := cell_of h rfl
  clear h
  go_enter Try.func51, Try.ntmps51
  go_wp2
  go_ret
  exact ⟨rfl, rfl⟩
set_option maxHeartbeats 400000 in
theorem left_nil (w : World) : Calls Try.prog 51 #[.pointer none] w fun en w' => en = .returned (.int .i64 0) ∧ w = w' := by
  go_enter Try.func51, Try.ntmps51
  go_wp2
  go_ret
  exact ⟨rfl, rfl⟩

set_option maxHeartbeats 400000 in
theorem isLast_any (i c : Nat) (w : World) : Calls Try.prog 59 #[.int .i64 (i : Int), .int .u8 (c : Int)] w fun en w' => en = .returned (.bool (lastB i c)) ∧ w = w' := by
  by_cases h9 : i = 9
  · subst h9
    go_enter Try.func59, Try.ntmps59
    go_wp2
    go_ret
    refine ⟨ret_bool ?_, rfl⟩
    unfold lastB
    rw [if_pos rfl]
    by_cases e : c = 1
    · subst e; rfl
    · rw [beq_eq_false_iff_ne.2 e, beq_eq_false_iff_ne]; omega
  · have h9' : ((i : Int) == 9) = false := by rw [beq_eq_false_iff_ne]; omega
    have hl : lastB i c = (i == 0 || decide (0 < c)) := by unfold lastB; rw [if_neg h9]
    rw [hl]
    clear hl
    by_cases h0 : i = 0
    · subst h0
      go_enter Try.func59, Try.ntmps59
      go_wp2
      go_ret
      exact ⟨rfl, rfl⟩
    · have h0' : ((i : Int) == 0) = false := by rw [beq_eq_false_iff_ne]; omega
      go_enter Try.func59, Try.ntmps59
      go_wp2
      go_ret
      refine ⟨ret_bool ?_, rfl⟩
      rw [beq_eq_false_iff_ne.2 h0]
      simp

theorem u64_not (a : Nat) (ha : a < 18446744073709551616) : bits .xor .u64 IntKind.u64.max (a : Int) = 18446744073709551615 - (a : Int) := by
  show IntKind.u64.wrap ((BitVec.ofInt 64 18446744073709551615 ^^^ BitVec.ofInt 64 (a : Int)).toNat : Int) = _
  have h1 : BitVec.ofInt 64 18446744073709551615 = BitVec.allOnes 64 := by decide
  rw [h1, BitVec.allOnes_xor, BitVec.toNat_not, ofInt_u64 a (by omega)]
  simp [IntKind.wrap, IntKind.bits, IntKind.signed]
  omega
theorem unsigned_neg {n : Int} (h : ¬ 0 ≤ n) (h1 : -9223372036854775808 ≤ n) : bits .xor .u64 IntKind.u64.max (IntKind.u64.wrap (2 * IntKind.u64.wrap n)) = -2 * n - 1 := by
  have e : IntKind.u64.wrap (2 * IntKind.u64.wrap n) = (((2 * n + 18446744073709551616).toNat : Nat) : Int) := by
    simp [IntKind.wrap, IntKind.bits, IntKind.signed]
    omega
  rw [e, u64_not _ (by omega)]
  omega

set_option maxHeartbeats 400000 in
theorem unsignedU_any (n : Nat) (hu : n < 18446744073709551616) (w : World) : Calls Try.prog 53 #[.int .u64 (n : Int)] w fun en w' => en = .returned (.int .u64 (n : Int)) ∧ w = w' := by
  have h1 : 0 ≤ (n : Int) := by omega
  have h2 : (n : Int) ≤ 18446744073709551615 := by omega
  go_enter Try.func53, Try.ntmps53
  go_wp2
  go_ret
  exact ⟨rfl, rfl⟩
def BytesPost (w : World) (bs : List UInt8) (e : Ending) (w' : World) : Prop :=
  ∃ v, e = .returned v ∧ w'.ownsRow w.heap.size 5 1 v bs.length (bs.map bV) ∧ BW w w'

set_option maxHeartbeats 1000000 in
set_option maxRecDepth 100000 in
theorem cloneb_any {w : World} {v : Value} {bs : List UInt8} (h : Src w v (bs.map bV)) (hn : (bs.length : Int) ≤ 140737488351232) :
    Calls Try.prog 46 #[v] w (BytesPost w bs) := by
  have hv : v = .slice none 0 0 ∧ bs = [] ∨ ∃ a c, v = .slice (some a) bs.length c ∧ ∀ j u, (bs.map bV)[j]? = some u → w.cell? (a.add j) = some u := by
    rcases h with ⟨ao, cap, hv, hx, hz, _⟩ | ⟨b, off, cap, hv, _, _, _, h4⟩
    · have hb : bs = [] := by simpa using hx
      subst hb
      cases ao with
      | none => rw [hz rfl] at hv; exact .inl ⟨hv, rfl⟩
      | some a => exact .inr ⟨a, cap, hv, fun j u hu => by simp at hu⟩
    · rw [List.length_map] at hv; exact .inr ⟨⟨b, off, none⟩, cap, hv, fun j u hu => by rw [addOff]; exact h4 j u hu⟩
  clear h
  rcases hv with ⟨rfl, rfl⟩ | ⟨a, c, rfl, h3⟩
  · have hq := slice_nil_eql (P := Try.prog) w Try.underlying23 none 0 0
    go_enter Try.func46, Try.ntmps46
    go_wp2
    go_ret
    exact ⟨_, rfl, ⟨rfl, .inl ⟨rfl, rfl⟩⟩, BW.refl _⟩
  · obtain ⟨i0, hi, hz0, hz1, hz2⟩ := infoOf info_u8
    have HI := Lib.hid hi; have HZ0 := Lib.hid hz0; have HZ1 := Lib.hid hz1; have HZ2 := Lib.hid hz2
    have HB1 : Hid (0 + bs.length ≤ maxLen) := by unfold Hid maxLen; omega
    have HB2 : Hid ((0 + bs.length) * 1 ≤ 140737488355328) := by unfold Hid; omega
    have hq := slice_nil_eql (P := Try.prog) w Try.underlying23 (some a) bs.length c
    have HC : Hid (∀ j u, (bs.map bV)[j]? = some u → (w.alloc (.cells #[] 5)).cell? (a.add j) = some u) := by
      intro j u hu
      have h4 := h3 j u hu
      refine (World.cell?_of_block (w := w) (a := a.add j) (Below.heap_alloc _ _ _ ?_)).trans h4
      exact cell_lt h4
    clear hi hz0 hz1 hz2 h3
    go_enter Try.func46, Try.ntmps46
    go_wp2_with (at_builtin; refine wpList_append_own _ rfl _ _ 23 rfl w.heap.size 5 i0 (.int .u8 0) 1 1 Try.underlying23 HI.out HZ0.out HZ1.out HZ2.out rfl (by decide) (.slice (some ⟨w.heap.size, 0, none⟩) 0 0) 0 [] rfl (own_empty w _) a bs.length c (bs.map bV) rfl (len_one bs) (HC.out) (bV_one _) HB1.out HB2.out (by simp) ?_; intro v' w' hown hgr _)
    go_ret
    refine ⟨v', rfl, ?_, ((Below.refl _ w).alloc (Nat.le_refl _) _).grown hgr (by simp) (fun k e => by cases e; exact Nat.le_refl _)⟩
    simpa using hown

def NewPost (w : World) (bs : List UInt8) (e : Ending) (w' : World) : Prop := ∃ r c, e = .returned (ptr r) ∧ w.heap.size ≤ r ∧ w.heap.size ≤ c ∧ Rd w' r c bs 0 ∧ BW w w'

theorem new_rep {w w1 : World} {bs : List UInt8} {v : Value} (hn : (bs.length : Int) ≤ 140737488351232) (ho : w1.ownsRow w.heap.size 5 1 v bs.length (bs.map bV)) (hb : BW w w1) (e : Int) :
    ∃ r c, r = w1.heap.size ∧ w.heap.size ≤ r ∧ w.heap.size ≤ c ∧ Rd (w1.alloc (.cells #[v, .int .i64 e] 76)) r c bs e ∧ BW w (w1.alloc (.cells #[v, .int .i64 e] 76)) := by
  have hs := hb.size
  have hsrc := (Src.of_row ho).below (bw_alloc w1 (.cells #[v, .int .i64 e] 76))
  have hz : (w1.alloc (.cells #[v, .int .i64 e] 76)).heap.size = w1.heap.size + 1 := by simp
  by_cases hx : bs = []
  · subst hx
    exact ⟨w1.heap.size, w1.heap.size, rfl, hs, hs, ⟨⟨v, heap_new _ _, hsrc, fun h => absurd rfl h⟩, fun h => absurd rfl h, by rw [hz]; omega, hn⟩, hb.alloc _⟩
  · obtain ⟨ao, n', cc, rfl⟩ := row_form ho
    cases ao with
    | none =>
      obtain ⟨hl, h2 | ⟨g, cap, cur, hv', _⟩⟩ := ho
      · exact absurd (List.eq_nil_of_length_eq_zero h2.2) hx
      · cases hv'
    | some a =>
      have h1 := row_base' ho _ _ _ rfl
      have h2 := row_lt ho rfl
      refine ⟨w1.heap.size, a.block, rfl, hs, h1, ⟨⟨_, heap_new _ _, hsrc, fun _ a' n k e => by cases e; rfl⟩, fun _ => by omega, by rw [hz]; omega, hn⟩, hb.alloc _⟩

set_option maxHeartbeats 1000000 in
theorem new_any {w : World} {v : Value} {bs : List UInt8} (h : Src w v (bs.map bV)) (hn : (bs.length : Int) ≤ 140737488351232) : Calls Try.prog 39 #[v] w (NewPost w bs) := by
  have HC := Lib.hid (cloneb_any h hn)
  clear h
  go_enter Try.func39, Try.ntmps39
  go_wp2_with fail
  refine (HC.out).mono ?_
  rintro e w1 ⟨v', rfl, ho, hb⟩
  have HO := Lib.hid ho; have HB := Lib.hid hb; have HN := Lib.hid hn
  obtain ⟨vo, vn, vc, rfl⟩ := row_form ho
  clear ho hb hn HC
  go_wp2
  go_ret
  obtain ⟨r, c, rfl, h1, h2, h3, h4⟩ := new_rep HN.out HO.out HB.out 0
  exact ⟨_, c, rfl, h1, h2, h3, h4⟩

end Go.Proofs.Ytaaeaaahllicbaa
