/- Stage 7: an argument that is a row of keys; how large it is. -/
import Derived.Test.YtghghekdheeknaaDoorOrdY
import Derived.Test.YtghghekdheeknaaDoorOrdH
import Derived.Test.YtghghekdheeknaaDoorOrdVr
namespace Go.Proofs.YtghghekdheeknaaDoor
open Go.RowKit Go.Maps Odr Go.Shelf
section
open Go.ChangeShapes Go.WideShapes Go.Deep
variable {H : Type} {enc : TypeId × Value → H}
theorem add_block (a : Addr) (k : Nat) : (a.add k).block = a.block := by unfold Addr.add; split <;> rfl
/-- AN ARGUMENT THAT IS A ROW OF KEYS -/
theorem arg_keys {W : World} {b0 : Nat} {sp : Nat → Bool} {hd : Bool} {ao : Option Addr} {len cap : Nat} {d : DataW H} {p : List MemPlace} (h : DataW.Trod enc Tryd.prog W b0 sp hd 33 (.slice ao len cap) d p) :
    ∃ l : List PKey, KRow W (.slice ao len cap) l ∧ (∀ N, Rows.uptoBulk d ≤ N → Rows.uptoBulkAll (l.map (keyD (H := H))) ≤ N) ∧ ∀ k ∈ l, i64 k.kind ∧ i64 k.num := by
  obtain ⟨f, hf⟩ := h
  have hf' : DataW.trod enc Tryd.prog W b0 sp hd f 33 [.slice ao len cap] = some (d, p) := hf
  rcases open_slice Tryd.underlying33 hf' with ⟨hcs, hx⟩ | ⟨a, l', c', m, n, D, Pl, hcs, _, hl, hm, hmm, hx, hi⟩
  · simp at hcs
    obtain ⟨rfl, rfl, rfl⟩ := hcs
    exact ⟨[], ⟨⟨none, 0, rfl, fun j u hu => by simp [keyCells] at hu⟩, fun n cap e => by injection e with _ _ e; exact e.symm⟩, fun N _ => by simp [Rows.uptoBulkAll], fun k hk => by cases hk⟩
  · simp at hcs
    obtain ⟨rfl, rfl, rfl⟩ := hcs
    have hlm : len ≤ m := by rw [hmm]; split <;> omega
    have each : ∀ i : Fin len, ∃ k : PKey, W.cells? b0 (a.add (i.1 * Tryd.prog.cellsOf 45)) (Tryd.prog.cellsOf 45) = some (keyC k) ∧ D i.1 = keyD k ∧ i64 k.kind ∧ i64 k.num := fun i => by
      obtain ⟨cs', hc, ht'⟩ := hi i.1 (by have := i.2; omega)
      obtain ⟨k, h1, h2, h3, h4, _⟩ := key_of ht'
      subst h1
      simp only [Prod.mk.injEq] at h2
      exact ⟨k, hc, h2.1, h3, h4⟩
    let F : Fin len → PKey := fun i => Classical.choose (each i)
    have hF : ∀ i : Fin len, W.cells? b0 (a.add (i.1 * Tryd.prog.cellsOf 45)) (Tryd.prog.cellsOf 45) = some (keyC (F i)) ∧ D i.1 = keyD (F i) ∧ i64 (F i).kind ∧ i64 (F i).num := fun i => Classical.choose_spec (each i)
    refine ⟨List.ofFn F, ⟨?_, fun n cap e => by cases e⟩, ?_, ?_⟩
    · refine ⟨some a, cap, by simp, fun j u hu => ?_⟩
      have hjl : j < (keyCells (List.ofFn F)).length := (List.getElem?_eq_some_iff.1 hu).1
      rw [keyCells_len, List.length_ofFn] at hjl
      obtain ⟨i, r, hr, rfl⟩ : ∃ i r, r < 3 ∧ j = 3 * i + r := ⟨j / 3, j % 3, Nat.mod_lt _ (by decide), (Nat.div_add_mod j 3).symm⟩
      have hil : i < len := by omega
      have hFi := (hF ⟨i, hil⟩).1
      rw [cellsK] at hFi
      obtain ⟨_, _, hat⟩ := World.cells?_some hFi
      have hcell := hat r hr
      have hlen3 : r < (keyC (F ⟨i, hil⟩)).length := hr
      have hu2 : (keyC (F ⟨i, hil⟩))[r]? = some u := by
        have := keyCells_at (List.ofFn F) i (by simpa using hil) r ((keyC (F ⟨i, hil⟩))[r]'hlen3) (by
          rw [show (List.ofFn F)[i]'(by simpa using hil) = F ⟨i, hil⟩ by simp]
          exact List.getElem?_eq_getElem hlen3)
        rw [this] at hu
        rw [List.getElem?_eq_getElem hlen3]; exact hu
      have hc : W.cell? ((a.add (i * 3)).add r) = some u := by
        rw [hcell, ← hu2, List.getElem?_eq_getElem hlen3]
      have hsp : a.spot = none := by
        have hF0 := (hF ⟨0, by omega⟩).1
        rw [cellsK] at hF0
        have h0 := (World.cells?_some hF0).2.2 0 (by decide)
        rw [show (a.add ((⟨0, by omega⟩ : Fin len).1 * 3)).add 0 = a by simp [Addr.add]] at h0
        have h1 : W.cell? a = some (.int .i64 (F ⟨0, by omega⟩).kind) := h0
        cases hs : a.spot with
        | none => rfl
        | some q =>
          exfalso
          unfold World.cell? at h1
          split at h1
          · rw [hs] at h1; simp at h1
          · cases h1
      obtain ⟨ab, aoff, asp⟩ := a
      simp only at hsp
      subst hsp
      rw [addOff, addOff] at hc
      exact ⟨ab, aoff, rfl, by rw [show aoff + (3 * i + r) = aoff + i * 3 + r by omega]; exact hc⟩
    · intro N hN
      simp only [Prod.mk.injEq] at hx
      rw [hx.1] at hN
      have e : (List.range len).map D = (List.ofFn F).map (keyD (H := H)) := by
        apply List.ext_getElem
        · simp
        · intro i h1 h2
          simp only [List.length_map, List.length_range] at h1
          simp only [List.getElem_map, List.getElem_range, List.getElem_ofFn]
          exact (hF ⟨i, h1⟩).2.1
      rw [Rows.uptoBulk, e] at hN
      omega
    · intro k hk
      obtain ⟨i, rfl⟩ := List.mem_ofFn.1 hk
      exact (hF i).2.2
theorem bulk_keys : ∀ {l : List PKey}, Rows.uptoBulkAll (l.map (keyD (H := H))) ≤ 1048576 → wt l ≤ 17000000 ∧ l.length ≤ 1048576 := by
  intro l
  have key : ∀ l : List PKey, wt l ≤ 16 * Rows.uptoBulkAll (l.map (keyD (H := H))) ∧ l.length ≤ Rows.uptoBulkAll (l.map (keyD (H := H))) := by
    intro l
    induction l with
    | nil => simp [wt]
    | cons k l ih =>
      have e : Rows.uptoBulkAll ((k :: l).map (keyD (H := H))) = (k.text.length + 4) + Rows.uptoBulkAll (l.map (keyD (H := H))) := by
        rw [List.map_cons, Rows.uptoBulkAll]
        congr 1
        simp [keyD, Rows.uptoBulk, Rows.uptoBulkAll]; omega
      have e2 : wt (k :: l) = (2 * k.text.length + 16) + wt l := by simp [wt]
      rw [e, e2, List.length_cons]
      omega
  intro h
  have := key l
  omega
end
end Go.Proofs.YtghghekdheeknaaDoor
