/- An argument that is a row of calls. -/
import Derived.Test.YthepoplekabcoaaCodO
import Derived.Test.YthepoplekabcoaaReads
namespace Go.Proofs.Ythepoplekabcoaa
open Go.RowKit Go.Maps
section
open Go.ChangeShapes Go.WideShapes Go.Deep
variable {H : Type} {enc : TypeId × Value → H} {P : Program} {w : World} {base : Nat} {spare : Nat → Bool} {held : Bool}
theorem open_slice_fields {t e : TypeId} {fs : Array Field} {fuel : Nat} {cs : List Value} {x : DataW H × List MemPlace} (ht : P.underlying t = some (.slice e)) (he : P.underlying e = some (.struct fs))
    (hone : oneCellFields P fs = true) (hC : P.cellsOf e = fs.size) (h : DataW.trod enc P w base spare held fuel t cs = some x) :
    (cs = [.slice none 0 0] ∧ x = (.nil, [])) ∨
    ∃ (a : Addr) (len cap m : Nat) (D : Nat → DataW H) (Pl : Nat → List MemPlace), cs = [.slice (some a) len cap] ∧ base ≤ a.block ∧ len ≤ cap ∧ cap ≤ maxLen ∧ m = (if spare a.block then cap else len) ∧
      x = (.slice ((List.range len).map D) ((List.range (m - len)).map fun j => D (len + j)), MemPlace.row a (m * fs.size) ++ (List.range m).flatMap Pl) ∧
      ∀ i, i < m → ∃ (ys : List (DataW H × List MemPlace)) (n : Nat), D i = .agg (ys.map (·.1)) ∧ Pl i = ys.flatMap (·.2) ∧ ys.length = fs.size ∧
        ∀ (j : Nat) (f : Field), fs[j]? = some f → ∃ (v : Value) (y : DataW H × List MemPlace), w.cell? (a.add (i * fs.size + j)) = some v ∧ ys[j]? = some y ∧ DataW.trod enc P w base spare held n f.type [v] = some y := by
  rcases open_slice ht h with h0 | ⟨a, len, cap, m, n, D, Pl, hcs, hb, hl, hm, hmm, hx, hi⟩
  · exact .inl h0
  · refine .inr ⟨a, len, cap, m, D, Pl, hcs, hb, hl, hm, hmm, by rw [hC] at hx; exact hx, fun i him => ?_⟩
    obtain ⟨cs', hc, ht'⟩ := hi i him
    rw [hC] at hc
    obtain ⟨ys, n', hn', hy, hlen, hyl, hf⟩ := DataW.trod_struct he ht'
    obtain ⟨_, hcl, hat⟩ := World.cells?_some hc
    simp only [Prod.mk.injEq] at hy
    refine ⟨ys, n', hy.1, hy.2, hyl, fun j f hj => ?_⟩
    obtain ⟨ho, hk⟩ := hone_of hone j f hj
    have hjl : j < fs.size := (Array.getElem?_eq_some_iff.1 hj).1
    have hcell := hat j hjl
    have hv : cs'[j]? = some (cs'[j]'(by omega)) := List.getElem?_eq_getElem (by omega)
    have h1 := hf j f hj
    rw [ho, hk] at h1
    have hone' : (cs'.drop j).take 1 = [cs'[j]'(by omega)] := by
      rw [List.drop_eq_getElem_cons (by omega)]
      rfl
    rw [hone'] at h1
    have hys : ys[j]? = some (ys[j]'(by omega)) := List.getElem?_eq_getElem (by omega)
    refine ⟨_, _, ?_, hys, h1.trans hys⟩
    rw [← Go.Deep.add_add, hcell, hv]
end
section
open Go.ChangeShapes Go.WideShapes Go.Deep
variable {H : Type} {enc : TypeId × Value → H} {w : World} {base : Nat} {spare : Nat → Bool} {held : Bool}
theorem call_struct : ∃ fs, Try.prog.underlying 46 = some (.struct fs) ∧ oneCellFields Try.prog fs = true ∧ fs.size = 2 ∧ (fs.toList.map (·.type)) = [3, 3] ∧ Try.prog.cellsOf 46 = 2 :=
  ⟨_, Try.underlying46, by kernel_rfl, by kernel_rfl, by kernel_rfl, by kernel_rfl⟩

theorem call_of {fs : Array Field} (hty : fs.toList.map (·.type) = [3, 3]) {ys : List (DataW H × List MemPlace)} {n : Nat} {C : Nat → Value → Prop}
    (hf : ∀ (j : Nat) (f : Field), fs[j]? = some f → ∃ (v : Value) (y : DataW H × List MemPlace), C j v ∧ ys[j]? = some y ∧ DataW.trod enc Try.prog w base spare held n f.type [v] = some y) :
    ∃ s : Int × Int, (-9223372036854775808 ≤ s.2 ∧ s.2 ≤ 9223372036854775807) ∧ C 0 (.int .i64 s.1) ∧ C 1 (.int .i64 s.2) := by
  have key : ∀ (j : Nat) (t : TypeId), [3, 3][j]? = some t → ∃ (v : Value) (y : DataW H × List MemPlace), C j v ∧ ys[j]? = some y ∧ DataW.trod enc Try.prog w base spare held n t [v] = some y := by
    intro j t ht
    rw [← hty, List.getElem?_map] at ht
    cases hfj : fs.toList[j]? with
    | none => rw [hfj] at ht; cases ht
    | some f =>
      rw [hfj] at ht
      simp only [Option.map_some, Option.some.injEq] at ht
      obtain ⟨v, y, h1, h2, h3⟩ := hf j f (by rw [← Array.getElem?_toList]; exact hfj)
      rw [ht] at h3
      exact ⟨v, y, h1, h2, h3⟩
  obtain ⟨v0, y0, c0, _, t0⟩ := key 0 _ rfl
  obtain ⟨v1, y1, c1, _, t1⟩ := key 1 _ rfl
  obtain ⟨i0, e0, _, _⟩ := DataW.trod_int Try.underlying3 t0
  obtain ⟨i1, e1, _, w1⟩ := DataW.trod_int Try.underlying3 t1
  injection e0 with e0; injection e1 with e1
  subst e0; subst e1
  exact ⟨(i0, i1), wf64 w1, c0, c1⟩

theorem open_calls {W : World} {a : Option Addr} {len cap : Nat} {d : DataW H} {p : List MemPlace} (h : DataW.Trod enc Try.prog W base spare held 36 (.slice a len cap) d p) (hw : ∀ m ∈ d.weights Try.prog 36, m ≤ reachBytes) :
    ∃ l : List (Int × Int), Cls W (.slice a len cap) l := by
  obtain ⟨fuel, h0⟩ := h
  have h : DataW.trod enc Try.prog W base spare held fuel 36 [.slice a len cap] = some (d, p) := h0
  obtain ⟨fs, hu, hone, hsz, hty, hcl⟩ := call_struct
  rcases open_slice_fields Try.underlying36 hu hone (by rw [hcl, hsz]) h with ⟨hcs, _⟩ | ⟨a', l', c', m, D, Pl, hcs, _, hl, hm, hmm, hx, hi⟩
  · simp at hcs
    obtain ⟨rfl, rfl, rfl⟩ := hcs
    exact ⟨[], .inl ⟨_, _, rfl, rfl⟩⟩
  · simp at hcs
    obtain ⟨rfl, rfl, rfl⟩ := hcs
    have hlb : (len : Int) ≤ 140737488351232 := by
      simp only [Prod.mk.injEq] at hx
      rw [hx.1] at hw
      have h4 := hw _ (by
        simp only [DataW.weights, Try.underlying36, List.mem_cons]
        exact .inl rfl)
      simp only [List.length_map, List.length_range] at h4
      have hby : Try.prog.bytesOf 46 = 16 := by kernel_rfl
      rw [hby] at h4
      have hrb : reachBytes ≤ 140737488351232 := by decide +kernel
      have h9 := Nat.le_trans h4 hrb
      omega
    have hlm : len ≤ m := by rw [hmm]; split <;> omega
    have each : ∀ i, i < len → ∃ s : Int × Int, (-9223372036854775808 ≤ s.2 ∧ s.2 ≤ 9223372036854775807) ∧ W.cell? (a'.add (i * 2 + 0)) = some (.int .i64 s.1) ∧ W.cell? (a'.add (i * 2 + 1)) = some (.int .i64 s.2) := by
      intro i hil
      obtain ⟨ys, n, hD, _, hyl, hf⟩ := hi i (by omega)
      rw [hsz] at hf
      exact call_of hty (C := fun j u => W.cell? (a'.add (i * 2 + j)) = some u) hf
    by_cases h0 : len = 0
    · subst h0
      exact ⟨[], .inl ⟨_, _, rfl, rfl⟩⟩
    · let F : Fin len → Int × Int := fun i => Classical.choose (each i.1 i.2)
      have hF : ∀ i : Fin len, (-9223372036854775808 ≤ (F i).2 ∧ (F i).2 ≤ 9223372036854775807) ∧ W.cell? (a'.add (i.1 * 2 + 0)) = some (.int .i64 (F i).1) ∧ W.cell? (a'.add (i.1 * 2 + 1)) = some (.int .i64 (F i).2) := fun i => Classical.choose_spec (each i.1 i.2)
      have hc0 := (hF ⟨0, by omega⟩).2.1
      have hsp : a'.spot = none := by
        simp only [Nat.zero_mul, Nat.zero_add] at hc0
        rw [show a'.add 0 = a' by simp [Addr.add]] at hc0
        unfold World.cell? at hc0
        split at hc0
        · split at hc0
          · cases hc0
          · rename_i hs; simpa using hs
        · cases hc0
      have hlt : a'.block < W.heap.size := by have := cell_lt hc0; rw [add_block] at this; exact this
      obtain ⟨ab, ao, asp⟩ := a'
      simp only at hsp
      subst hsp
      refine ⟨List.ofFn F, .inr ⟨ab, ao, cap, by simp, hlt, by simpa using hlb, fun i hi2 => ?_⟩⟩
      have hil : i < len := by simpa using hi2
      have e : (List.ofFn F)[i] = F ⟨i, hil⟩ := by simp
      rw [e]
      obtain ⟨h1, h2, h3⟩ := hF ⟨i, hil⟩
      rw [addOff] at h2 h3
      exact ⟨h1, by simpa using h2, by rw [Nat.add_assoc]; exact h3⟩
end
end Go.Proofs.Ythepoplekabcoaa
