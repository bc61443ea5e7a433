/- Stage 7: arguments opened: keys, rows of keys. -/
import Derived.Test.YtghghekdheeknaaDoorOrdG
import Derived.Deep.Strs
import Derived.Deep.Slices
import Derived.Deep.Fields
import Derived.ChangeSame
import Derived.OpenShut
import Derived.SizedLaws
namespace Go.Proofs.YtghghekdheeknaaDoor
open Go.RowKit Go.Maps Odr Go.Shelf
section
open Go.ChangeShapes Go.WideShapes Go.Deep
variable {H : Type} {enc : TypeId × Value → H} {P : Program} {w : World} {base : Nat} {spare : Nat → Bool} {held : Bool}
theorem open_slice_fields {t e : TypeId} {fs : Array Field} {fuel : Nat} {cs : List Value} {x : DataW H × List MemPlace} (ht : P.underlying t = some (.slice e)) (he : P.underlying e = some (.struct fs))
    (hone : oneCellFields P fs = true) (hC : P.cellsOf e = fs.size) (h : DataW.trod enc P w base spare held fuel t cs = some x) :
    (cs = [.slice none 0 0] ∧ x = (.nil, [])) ∨
    ∃ (a : Addr) (len cap m : Nat) (D : Nat → DataW H) (Pl : Nat → List MemPlace), cs = [.slice (some a) len cap] ∧ base ≤ a.block ∧ len ≤ cap ∧ cap ≤ maxLen ∧ m = (if spare a.block then cap else len) ∧
      x = (.slice ((List.range len).map D) ((List.range (m - len)).map fun j => D (len + j)), MemPlace.row a (m * fs.size) ++ (List.range m).flatMap Pl) ∧
      ∀ i, i < m → ∃ (ys : List (DataW H × List MemPlace)) (n : Nat), D i = .agg (ys.map (·.1)) ∧ Pl i = ys.flatMap (·.2) ∧ ys.length = fs.size ∧
        ∀ (j : Nat) (f : Field), fs[j]? = some f → ∃ (v : Value) (y : DataW H × List MemPlace), w.cell? (a.add (i * fs.size + j)) = some v ∧ ys[j]? = some y ∧ DataW.trod enc P w base spare held n f.type [v] = some y := by
  rcases open_slice ht h with h0 | ⟨a, len, cap, m, n, D, Pl, hcs, hb, hl, hm, hmm, hx, hi⟩
  · exact .inl h0
  · refine .inr ⟨a, len, cap, m, D, Pl, hcs, hb, hl, hm, hmm, by rw [hC] at hx; exact hx, fun i him => ?_⟩
    obtain ⟨cs', hc, ht'⟩ := hi i him
    rw [hC] at hc
    obtain ⟨ys, n', hn', hy, hlen, hyl, hf⟩ := DataW.trod_struct he ht'
    obtain ⟨_, hcl, hat⟩ := World.cells?_some hc
    simp only [Prod.mk.injEq] at hy
    refine ⟨ys, n', hy.1, hy.2, hyl, fun j f hj => ?_⟩
    obtain ⟨ho, hk⟩ := hone_of hone j f hj
    have hjl : j < fs.size := (Array.getElem?_eq_some_iff.1 hj).1
    have hcell := hat j hjl
    have hv : cs'[j]? = some (cs'[j]'(by omega)) := List.getElem?_eq_getElem (by omega)
    have h1 := hf j f hj
    rw [ho, hk] at h1
    have hone' : (cs'.drop j).take 1 = [cs'[j]'(by omega)] := by
      rw [List.drop_eq_getElem_cons (by omega)]
      rfl
    rw [hone'] at h1
    have hys : ys[j]? = some (ys[j]'(by omega)) := List.getElem?_eq_getElem (by omega)
    refine ⟨_, _, ?_, hys, h1.trans hys⟩
    rw [← Go.Deep.add_add, hcell, hv]

theorem wf64 {n : Int} (h : (Lit.int .i64 n).wf = true) : -9223372036854775808 ≤ n ∧ n ≤ 9223372036854775807 := by
  unfold Lit.wf at h
  rw [Bool.and_eq_true, decide_eq_true_eq, decide_eq_true_eq] at h
  exact h
def keyD (k : PKey) : DataW H := .agg [.lit (.int .i64 k.kind), .lit (.int .i64 k.num), .lit (.string k.text)]
theorem key_struct : ∃ f0 f1 f2, Tryd.prog.underlying 45 = some (.struct #[f0, f1, f2]) ∧ f0.type = 3 ∧ f1.type = 2 ∧ f2.type = 9 ∧ f0.offset = 0 ∧ f1.offset = 1 ∧ f2.offset = 2 := ⟨_, _, _, Tryd.underlying45, rfl, rfl, rfl, rfl, rfl, rfl⟩
theorem cellsI : Tryd.prog.cellsOf 3 = 1 := by kernel_rfl
theorem cells6 : Tryd.prog.cellsOf 2 = 1 := by kernel_rfl
theorem cellsS : Tryd.prog.cellsOf 9 = 1 := by kernel_rfl
theorem cellsK : Tryd.prog.cellsOf 45 = 3 := by kernel_rfl
/-- the cells of a value that reads as a key -/
theorem key_of {fuel : Nat} {cs : List Value} {x : DataW H × List MemPlace} (h : DataW.trod enc Tryd.prog w base spare held fuel 45 cs = some x) : ∃ k : PKey, cs = keyC k ∧ x = (keyD k, []) ∧ i64 k.kind ∧ i64 k.num ∧ k.text.length ≤ maxLen := by
  obtain ⟨f0, f1, f2, hu, e0, e1, e2, o0, o1, o2⟩ := key_struct
  obtain ⟨y0, y1, y2, n, rfl, hl, h0, h1, h2⟩ := trod_struct3 hu h
  rw [e0, o0, cellsI] at h0
  rw [e1, o1, cells6] at h1
  rw [e2, o2, cellsS] at h2
  rw [cellsK] at hl
  obtain ⟨i0, c0, rfl, w0⟩ := DataW.trod_int Tryd.underlying3 h0
  obtain ⟨i1, c1, rfl, w1⟩ := DataW.trod_int Tryd.underlying2 h1
  obtain ⟨s2, c2, rfl, w2⟩ := DataW.trod_string Tryd.underlying9 h2
  refine ⟨⟨i0, i1, s2.data.toList⟩, ?_, rfl, wf64 w0, wf64 w1, ?_⟩
  · match cs, hl with
    | [a, b, c], _ =>
      simp at c0 c1 c2
      subst c0; subst c1; subst c2
      unfold keyC; rw [← text_is]
  · show s2.data.toList.length ≤ maxLen
    rw [Array.length_toList]; exact w2
/-- AN ARGUMENT THAT IS A KEY -/
theorem arg_key {b0 : Nat} {sp : Nat → Bool} {hd : Bool} {v : Value} {d : DataW H} {p : List MemPlace} (hv : ∃ cs, v = .agg cs ∧ cs.size = Tryd.prog.cellsOf 45) (h : DataW.Trod enc Tryd.prog w b0 sp hd 45 v d p) :
    ∃ k : PKey, v = keyV k ∧ d = keyD k ∧ p = [] ∧ i64 k.kind ∧ i64 k.num ∧ k.text.length ≤ maxLen := by
  obtain ⟨cs, rfl, hcs⟩ := hv
  obtain ⟨f, hf⟩ := h
  obtain ⟨k, h1, h2, h3, h4, h5⟩ := key_of hf
  have h1' : cs.toList = keyC k := h1
  have e : cs = (keyC k).toArray := by rw [← h1']
  injection h2 with h2 h6
  refine ⟨k, ?_, h2, h6, h3, h4, h5⟩
  rw [e]; rfl
end
end Go.Proofs.YtghghekdheeknaaDoor
