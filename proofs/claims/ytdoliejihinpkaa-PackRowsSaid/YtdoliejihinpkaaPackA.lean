/- pack: the small functions; Width; the least of a row. -/
import Derived.Test.YtdoliejihinpkaaShelf
import Derived.Test.YtdoliejihinpkaaCodL
import Derived.Test.YtdoliejihinpkaaKitC
import Derived.Test.YtdoliejihinpkaaPackB
namespace Go.Proofs.Ytdoliejihinpkaa
open Go.RowKit Go.Maps

def uV (n : Nat) : Value := .int .u64 (n : Int)
def iV (n : Int) : Value := .int .i64 n
def U64s (l : List Nat) : Prop := ∀ x ∈ l, x < 18446744073709551616

/-- a cell of a row of one's own, and what the row holds behind a store -/
theorem own_set {w : World} {base n : Nat} {e : TypeId} {xo : Option Addr} {xc : Nat} {zs : List Value} (h : w.ownsRow base e 1 (.slice xo n xc) n zs) {i : Nat} (hi : i < n) {y : Value} (hy : y.oneCell' = true) :
    ∃ g, xo = some ⟨g, 0, none⟩ ∧ base ≤ g ∧ g < w.heap.size ∧ (∃ x, zs[i]? = some x ∧ w.cell? ⟨g, i, none⟩ = some x) ∧ w.frozen? ⟨g, i, none⟩ = false ∧ (w.setCell ⟨g, i, none⟩ y).ownsRow base e 1 (.slice xo n xc) n (zs.set i y) := by
  have hl : zs.length = n := by have := h.1; simpa using this
  have hcell := fun a (e : Value.slice xo n xc = .slice (some a) n xc) => row_cell h e (i := i) (by rw [hl]; exact hi)
  obtain ⟨h1, h2 | ⟨g, cap, cur, hv', hg, hh, hn', hc', hcs', htk⟩⟩ := h
  · exact absurd h2.2 (by omega)
  · injection hv' with e1 _ e3
    subst e1
    obtain ⟨hc1, _, _⟩ := hcell ⟨g, 0, none⟩ rfl
    refine ⟨g, rfl, hg, lt_of_heap hh, ⟨zs[i]'(by omega), List.getElem?_eq_getElem (by omega), ?_⟩, unfrozen_of hh, ?_⟩
    · simpa using hc1
    · refine ⟨by simp [hl], .inr ⟨g, cap, cur.setIfInBounds i y, by rw [e3], hg, heap_set hh _, hn', hc', by simpa using hcs', ?_⟩⟩
      rw [Array.toList_setIfInBounds, List.take_set, htk]

theorem isWidth_any (n : Int) (w : World) (h1 : -9223372036854775808 ≤ n) (h2 : n ≤ 9223372036854775807) : Calls Try.prog 33 #[.int .i64 n] w fun e w' => e = .returned (.bool (decide (0 ≤ n ∧ n ≤ 64))) ∧ w = w' := by
  by_cases h3 : 0 ≤ n
  · have d1 : decide (0 ≤ n) = true := decide_eq_true h3
    go_enter Try.func33, Try.ntmps33
    go_wp2
    go_ret
    refine ⟨ret_bool ?_, rfl⟩
    simp [h3]
  · have d1 : decide (0 ≤ n) = false := decide_eq_false h3
    go_enter Try.func33, Try.ntmps33
    go_wp2
    go_ret
    refine ⟨ret_bool ?_, rfl⟩
    simp [h3]
theorem isLength_any (n : Int) (w : World) (h1 : -9223372036854775808 ≤ n) (h2 : n ≤ 9223372036854775807) : Calls Try.prog 36 #[.int .i64 n] w fun e w' => e = .returned (.bool (decide (0 ≤ n ∧ n ≤ 1048576))) ∧ w = w' := by
  by_cases h3 : 0 ≤ n
  · have d1 : decide (0 ≤ n) = true := decide_eq_true h3
    go_enter Try.func36, Try.ntmps36
    go_wp2
    go_ret
    refine ⟨ret_bool ?_, rfl⟩
    simp [h3]
  · have d1 : decide (0 ≤ n) = false := decide_eq_false h3
    go_enter Try.func36, Try.ntmps36
    go_wp2
    go_ret
    refine ⟨ret_bool ?_, rfl⟩
    simp [h3]
theorem lowBits_any (k : Nat) (w : World) (h : k ≤ 8) : Calls Try.prog 35 #[.int .i64 (k : Int)] w fun e w' => e = .returned (.int .u64 (((2 ^ k - 1 : Nat) : Int))) ∧ w = w' := by
  have hk : (0 : Int) ≤ (k : Int) := by omega
  have hm : min (k : Nat) 64 = k := by omega
  go_enter Try.func35, Try.ntmps35
  go_wp2
  go_ret
  refine ⟨ret_int ?_, rfl⟩
  have : k = 0 ∨ k = 1 ∨ k = 2 ∨ k = 3 ∨ k = 4 ∨ k = 5 ∨ k = 6 ∨ k = 7 ∨ k = 8 := by omega
  rcases this with rfl | rfl | rfl | rfl | rfl | rfl | rfl | rfl | rfl <;> decide
end Go.Proofs.Ytdoliejihinpkaa
