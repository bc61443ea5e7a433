/- An argument that is a step, by value. -/
import Derived.Test.YtjiklpoggpdngaaLawG
namespace Go.Proofs.Ytjiklpoggpdngaa
open Go.RowKit Go.Maps Go.Sort
open Go.ChangeShapes Go.WideShapes Go.Deep
section
variable {H : Type} {enc : TypeId × Value → H} {w : World} {base : Nat} {spare : Nat → Bool} {held : Bool}

set_option maxRecDepth 100000 in
theorem open_step {r : Reach} {b0 : Nat} {v : Value} {d : DataW H} {p : List MemPlace} (hv : Value.okWide Try.prog w r b0 33 v) (h : DataW.Trod enc Try.prog w base spare held 33 v d p) (hw : ∀ m ∈ d.weights Try.prog 33, m ≤ reachBytes) :
    ∃ s : Stp, StpOk w s ∧ v = .agg (stpCells s) := by
  obtain ⟨fs, hu, hone, hsz, hty, hcl⟩ := stp_struct
  obtain ⟨cs, rfl, hcs⟩ := okWide_struct hu hv
  obtain ⟨fuel, hf⟩ := h
  obtain ⟨ys, n', hn', hy, hlen, hyl, hg⟩ := DataW.trod_struct hu hf
  simp only [Prod.mk.injEq] at hy
  have hc9 : cs.size = 9 := hcs.trans hcl
  have hcl9 : (Value.agg cs).cells.toList = cs.toList := rfl
  have key : ∀ (j : Nat) (f : Field), fs[j]? = some f → ∃ (v : Value) (y : DataW H × List MemPlace), cs[j]? = some v ∧ ys[j]? = some y ∧ DataW.trod enc Try.prog w base spare held n' f.type [v] = some y := by
    intro j f hj
    obtain ⟨ho, hk⟩ := hone_of hone j f hj
    have hjl : j < fs.size := (Array.getElem?_eq_some_iff.1 hj).1
    have hjc : j < cs.size := by omega
    have h1 := hg j f hj
    rw [ho, hk, hcl9] at h1
    have hone' : (cs.toList.drop j).take 1 = [cs[j]] := by
      rw [List.drop_eq_getElem_cons (by simpa using hjc)]
      simp
    rw [hone'] at h1
    have hys : ys[j]? = some (ys[j]'(by omega)) := List.getElem?_eq_getElem (by omega)
    exact ⟨cs[j], _, Array.getElem?_eq_getElem hjc, hys, h1.trans hys⟩
  obtain ⟨s, hs, hcell⟩ := stp_of hu hty (C := fun j u => cs[j]? = some u) key (by rw [hy.1] at hw; exact hw)
  refine ⟨s, hs, ?_⟩
  congr 1
  apply Array.ext
  · rw [hc9]; rfl
  · intro i h1 h2
    have h3 := hcell i (stpCells s)[i] (Array.getElem?_eq_getElem h2)
    rw [Array.getElem?_eq_getElem h1] at h3
    exact Option.some.inj h3
end
end Go.Proofs.Ytjiklpoggpdngaa
