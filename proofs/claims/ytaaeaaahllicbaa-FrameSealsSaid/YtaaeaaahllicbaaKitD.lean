/- ApartBytes. -/
import Derived.Test.YtaaeaaahllicbaaKitC
import Derived.Test.YtaaeaaahllicbaaCodP
import Derived.Test.YtaaeaaahllicbaaRowSet
namespace Go.Proofs.Ytaaeaaahllicbaa
open Go.RowKit Go.Maps

def mk1 (i k : Nat) : UInt8 := UInt8.ofNat ((37 * i + k) % 256)
def mk2 (i k : Nat) : UInt8 := UInt8.ofNat ((11 * i + k) % 256)
def full1 (i n : Nat) : List UInt8 := (List.range n).map (mk1 i)
def full2 (i n : Nat) : List UInt8 := (List.range n).map (mk2 i)
theorem mk1_v (i k : Nat) : bV (mk1 i k) = .int .u8 ((37 * (i : Int) + (k : Int)) % 256) := by
  unfold mk1; rw [byte1 (Nat.mod_lt _ (by decide))]; congr 1
theorem mk2_v (i k : Nat) : bV (mk2 i k) = .int .u8 ((11 * (i : Int) + (k : Int)) % 256) := by
  unfold mk2; rw [byte1 (Nat.mod_lt _ (by decide))]; congr 1
theorem full2_succ (i n : Nat) : full2 i (n + 1) = full2 i n ++ [mk2 i n] := by
  unfold full2; rw [List.range_succ, List.map_append]; rfl
theorem full1_len (i n : Nat) : (full1 i n).length = n := by unfold full1; simp
theorem full2_len (i n : Nat) : (full2 i n).length = n := by unfold full2; simp

/-- rows that are written full: those before i, and i's up to k -/
structure Ap1 (w : World) (B N : Nat) (V : Nat → Value) (n : Nat → Nat) (role : Nat → Option Nat) (i k : Nat) : Prop where
  row : ∀ j, j < N → ∃ C : List UInt8, w.ownsRow B 5 1 (V j) (n j) (C.map bV) ∧ (j < i → C = full1 j (n j)) ∧ (j = i → C.take k = full1 i k)
  rol : ∀ j, j < N → Rol role j (V j)
  roles : Roles w role
  rb : ∀ b, role b ≠ none → B ≤ b

theorem Ap1.next {w : World} {B N : Nat} {V : Nat → Value} {n : Nat → Nat} {role : Nat → Option Nat} {i : Nat} (h : Ap1 w B N V n role i (n i)) : Ap1 w B N V n role (i + 1) 0 := by
  refine ⟨fun j hj => ?_, h.rol, h.roles, h.rb⟩
  obtain ⟨C, h1, h2, h3⟩ := h.row j hj
  refine ⟨C, h1, fun hji => ?_, fun _ => by simp [full1]⟩
  rcases Nat.lt_or_ge j i with h4 | h4
  · exact h2 h4
  · have e : j = i := by omega
    subst e
    have := h3 rfl
    rw [List.take_of_length_le (by have := h1.1; simp at this; omega)] at this
    exact this
/-- the cell at (i, k), and what is there when it is written -/
theorem Ap1.at {w : World} {B N : Nat} {V : Nat → Value} {n : Nat → Nat} {role : Nat → Option Nat} {i k : Nat} (h : Ap1 w B N V n role i k) (hi : i < N) (hk : k < n i) :
    ∃ g c, V i = .slice (some ⟨g, 0, none⟩) (n i) c ∧ w.frozen? ⟨g, k, none⟩ = false ∧ (∃ x, w.cell? ⟨g, k, none⟩ = some x) ∧ Ap1 (w.setCell ⟨g, k, none⟩ (bV (mk1 i k))) B N V n role i (k + 1) ∧ Turn i role role w (w.setCell ⟨g, k, none⟩ (bV (mk1 i k))) := by
  obtain ⟨C, h1, h2, h3⟩ := h.row i hi
  obtain ⟨vo, vn, vc, hV⟩ := row_form h1
  obtain rfl : vn = n i := row_len h1 hV
  have h1' := h1
  rw [hV] at h1'
  obtain ⟨g, e1, _, ⟨x, _, _, hx⟩, hf, _⟩ := row_set_cell h1' hk 0 (by decide) (by decide)
  subst e1
  have hg := h.rol i hi _ _ _ hV
  have ht : Turn i role role w (w.setCell ⟨g, k, none⟩ (bV (mk1 i k))) := Turn.setCell hg _
  refine ⟨g, vc, hV, hf, ⟨_, hx⟩, ⟨fun j hj => ?_, h.rol, ⟨fun b hb => by have := h.roles.lt b hb; simpa [World.setCell] using this⟩, h.rb⟩, ht⟩
  by_cases e : j = i
  · subst e
    have hlt := (mk1 j k).toNat_lt
    obtain ⟨g', e1, _, _, _, h9⟩ := row_set_cell h1' hk ((mk1 j k).toNat : Int) (by omega) (by omega)
    cases e1
    have hun : UInt8.ofNat (((mk1 j k).toNat : Int)).toNat = mk1 j k := by simp
    rw [hun] at h9
    refine ⟨C.set k (mk1 j k), by rw [hV]; exact h9, fun h => absurd h (Nat.lt_irrefl _), fun _ => ?_⟩
    have hl : C.length = n j := by have := h1.1; simpa using this
    rw [List.take_succ_eq_append_getElem (by rw [List.length_set]; omega), List.take_set_of_le (Nat.le_refl _), h3 rfl, List.getElem_set_self]
    unfold full1
    rw [List.range_succ, List.map_append]; rfl
  · obtain ⟨C', g1, g2, _⟩ := h.row j hj
    exact ⟨C', ht.row g1 (h.rol j hj) e, g2, fun h => absurd h e⟩

/-- rows that are gone on with: those before i are done, i's has k more -/
structure Ap2 (w : World) (B N : Nat) (V : Nat → Value) (n : Nat → Nat) (role : Nat → Option Nat) (M : Nat → Value) (mv : Value) (i : Nat) : Prop where
  src : ∀ j, j < N → Src w (V j) ((full1 j (n j)).map bV)
  own : ∀ j, i ≤ j → j < N → w.ownsRow B 5 1 (V j) (n j) ((full1 j (n j)).map bV)
  done : ∀ j, j < i → w.ownsRow B 5 1 (M j) (n j + 70) ((full1 j (n j) ++ full2 j 70).map bV)
  rol : ∀ j, j < N → Rol role j (V j)
  mrol : ∀ j, j < i → Rol role j (M j)
  more : w.ownsRow B 23 1 mv i ((List.range i).map M)
  morol : Rol role N mv
  roles : Roles w role
  rb : ∀ b, role b ≠ none → B ≤ b

end Go.Proofs.Ytaaeaaahllicbaa
