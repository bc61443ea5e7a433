/- Two rows that were handed out (made by mkPairs.py). -/
import Derived.Test.YtdoliejihinpkaaKitU
import Derived.Test.YtdoliejihinpkaaKitG
namespace Go.Proofs.Ytdoliejihinpkaa
open Go.RowKit Go.Maps
/-- two rows, made one behind the other -/
theorem ap_two {w1 w2 w3 W : World} {vx vy : Value} {cx cy : List UInt8} (hx : w2.ownsRow w1.heap.size 5 1 vx cx.length (cx.map bV)) (hy : w3.ownsRow w2.heap.size 5 1 vy cy.length (cy.map bV))
    (b12 : BW w1 w2) (b23 : BW w2 w3) (s3 : w3.heap.size ≤ W.heap.size) (b3 : ∀ z, w1.heap.size ≤ z → z < w3.heap.size → W.heap[z]? = w3.heap[z]?) :
    ∃ (V : Nat → Value) (n : Nat → Nat) (role : Nat → Option Nat), Ap1 W w1.heap.size 2 V n role 0 0 ∧ (List.range 2).map V = [vx, vy] ∧ (∀ x, role x ≠ some 2) ∧ (∀ b, b < w1.heap.size ∨ w3.heap.size ≤ b → role b = none) ∧ (∀ j, j < 2 → n j = cx.length ∨ n j = cy.length) := by
  have s12 := b12.size; have s23 := b23.size
  have rx : ∀ a m c, vx = .slice (some a) m c → w1.heap.size ≤ a.block ∧ a.block < w2.heap.size := fun a m c e => ⟨row_base' hx a m c e, row_lt hx e⟩
  have ry : ∀ a m c, vy = .slice (some a) m c → w2.heap.size ≤ a.block ∧ a.block < w3.heap.size := fun a m c e => ⟨row_base' hy a m c e, row_lt hy e⟩
  refine ⟨fun j => if j = 0 then vx else vy, fun j => if j = 0 then cx.length else cy.length,
    fun b => if w1.heap.size ≤ b ∧ b < w2.heap.size then some 0 else if w2.heap.size ≤ b ∧ b < w3.heap.size then some 1 else none, ⟨?_, ?_, ⟨?_⟩, ?_⟩, by rfl, ?_, ?_, ?_⟩
  · intro j hj
    match j, hj with
    | 0, _ => exact ⟨cx, row_keep (row_base hx (Nat.le_refl _)) (fun a m c e => (b3 _ (rx a m c e).1 (by have := (rx a m c e).2; omega)).trans (b23.block _ (rx a m c e).2)), fun h => absurd h (Nat.not_lt_zero _), fun _ => by simp [full1]⟩
    | 1, _ => exact ⟨cy, row_keep (row_base hy s12) (fun a m c e => b3 _ (by have := (ry a m c e).1; omega) (ry a m c e).2), fun h => absurd h (Nat.not_lt_zero _), fun h => by omega⟩
  · intro j hj
    match j, hj with
    | 0, _ => intro a m c e; have := rx a m c e; show (if _ then _ else _ : Option Nat) = _; rw [if_pos this]
    | 1, _ => intro a m c e; have := ry a m c e; show (if _ then _ else _ : Option Nat) = _; rw [if_neg (by omega), if_pos this]
  · intro b hb
    split at hb
    · omega
    · split at hb
      · omega
      · exact absurd rfl hb
  · intro b hb
    split at hb
    · omega
    · split at hb
      · omega
      · exact absurd rfl hb
  · intro x
    show (if _ then _ else _ : Option Nat) ≠ _
    split
    · simp
    · split <;> simp
  · intro b hb
    show (if _ then _ else _ : Option Nat) = _
    rw [if_neg (by omega), if_neg (by omega)]
  · intro j hj
    match j, hj with
    | 0, _ => exact .inl rfl
    | 1, _ => exact .inr rfl

namespace AU
/-- two rows, made one behind the other -/
theorem ap_two {w1 w2 w3 W : World} {vx vy : Value} {cx cy : List Nat} (hx : w2.ownsRow w1.heap.size 52 1 vx cx.length (cx.map uV)) (hy : w3.ownsRow w2.heap.size 52 1 vy cy.length (cy.map uV))
    (b12 : BW w1 w2) (b23 : BW w2 w3) (s3 : w3.heap.size ≤ W.heap.size) (b3 : ∀ z, w1.heap.size ≤ z → z < w3.heap.size → W.heap[z]? = w3.heap[z]?) :
    ∃ (V : Nat → Value) (n : Nat → Nat) (role : Nat → Option Nat), Ap1 W w1.heap.size 2 V n role 0 0 ∧ (List.range 2).map V = [vx, vy] ∧ (∀ x, role x ≠ some 2) ∧ (∀ b, b < w1.heap.size ∨ w3.heap.size ≤ b → role b = none) ∧ (∀ j, j < 2 → n j = cx.length ∨ n j = cy.length) := by
  have s12 := b12.size; have s23 := b23.size
  have rx : ∀ a m c, vx = .slice (some a) m c → w1.heap.size ≤ a.block ∧ a.block < w2.heap.size := fun a m c e => ⟨row_base' hx a m c e, row_lt hx e⟩
  have ry : ∀ a m c, vy = .slice (some a) m c → w2.heap.size ≤ a.block ∧ a.block < w3.heap.size := fun a m c e => ⟨row_base' hy a m c e, row_lt hy e⟩
  refine ⟨fun j => if j = 0 then vx else vy, fun j => if j = 0 then cx.length else cy.length,
    fun b => if w1.heap.size ≤ b ∧ b < w2.heap.size then some 0 else if w2.heap.size ≤ b ∧ b < w3.heap.size then some 1 else none, ⟨?_, ?_, ⟨?_⟩, ?_⟩, by rfl, ?_, ?_, ?_⟩
  · intro j hj
    match j, hj with
    | 0, _ => exact ⟨cx, row_keep (row_base hx (Nat.le_refl _)) (fun a m c e => (b3 _ (rx a m c e).1 (by have := (rx a m c e).2; omega)).trans (b23.block _ (rx a m c e).2)), fun h => absurd h (Nat.not_lt_zero _), fun _ => by simp [full1]⟩
    | 1, _ => exact ⟨cy, row_keep (row_base hy s12) (fun a m c e => b3 _ (by have := (ry a m c e).1; omega) (ry a m c e).2), fun h => absurd h (Nat.not_lt_zero _), fun h => by omega⟩
  · intro j hj
    match j, hj with
    | 0, _ => intro a m c e; have := rx a m c e; show (if _ then _ else _ : Option Nat) = _; rw [if_pos this]
    | 1, _ => intro a m c e; have := ry a m c e; show (if _ then _ else _ : Option Nat) = _; rw [if_neg (by omega), if_pos this]
  · intro b hb
    split at hb
    · omega
    · split at hb
      · omega
      · exact absurd rfl hb
  · intro b hb
    split at hb
    · omega
    · split at hb
      · omega
      · exact absurd rfl hb
  · intro x
    show (if _ then _ else _ : Option Nat) ≠ _
    split
    · simp
    · split <;> simp
  · intro b hb
    show (if _ then _ else _ : Option Nat) = _
    rw [if_neg (by omega), if_neg (by omega)]
  · intro j hj
    match j, hj with
    | 0, _ => exact .inl rfl
    | 1, _ => exact .inr rfl

end AU
end Go.Proofs.Ytdoliejihinpkaa
