/- A byte stored in a row. -/
import Derived.Test.YtaaeaaahllicbaaKitC
namespace Go.Proofs.Ytaaeaaahllicbaa
open Go.RowKit Go.Maps
theorem row_set_cell {w : World} {base n : Nat} {xo : Option Addr} {xc : Nat} {zs : List UInt8} (h : w.ownsRow base 5 1 (.slice xo n xc) n (zs.map bV)) {i : Nat} (hi : i < n) (y : Int) (hy0 : 0 ≤ y) (hy1 : y < 256) :
    ∃ g, xo = some ⟨g, 0, none⟩ ∧ base ≤ g ∧ (∃ x : Int, 0 ≤ x ∧ x < 256 ∧ w.cell? ⟨g, i, none⟩ = some (.int .u8 x)) ∧ w.frozen? ⟨g, i, none⟩ = false ∧ (w.setCell ⟨g, i, none⟩ (.int .u8 y)).ownsRow base 5 1 (.slice xo n xc) n ((zs.set i (UInt8.ofNat y.toNat)).map bV) := by
  have hl : zs.length = n := by have := h.1; simpa using this
  have hcell := fun a (e : Value.slice xo n xc = .slice (some a) n xc) => row_cell h e (i := i) (by rw [List.length_map, hl]; exact hi)
  obtain ⟨h1, h2 | ⟨g, cap, cur, hv', hg, hh, hn', hc', hcs', htk⟩⟩ := h
  · exact absurd h2.2 (by omega)
  · injection hv' with e1 _ e3
    subst e1
    obtain ⟨hc1, _, _⟩ := hcell ⟨g, 0, none⟩ rfl
    refine ⟨g, rfl, hg, ?_, unfrozen_of hh, ?_⟩
    · refine ⟨(zs[i]'(by omega)).toNat, by omega, by have := (zs[i]'(by omega)).toNat_lt; omega, ?_⟩
      simp only [Nat.zero_add, List.getElem_map] at hc1
      exact hc1
    · refine ⟨by simp [hl], .inr ⟨g, cap, cur.setIfInBounds i (.int .u8 y), by rw [e3], hg, heap_set hh _, hn', hc', by simpa using hcs', ?_⟩⟩
      rw [Array.toList_setIfInBounds, List.take_set, htk, List.map_set]
      congr 1
      unfold bV
      have : (UInt8.ofNat y.toNat).toNat = y.toNat := by rw [UInt8.toNat_ofNat']; omega
      rw [this]
      congr 1
      omega
end Go.Proofs.Ytaaeaaahllicbaa
