/- The arguments opened: scripts of steps, rows of ints. -/
import Derived.Test.YtjiklpoggpdngaaLawP
import Derived.Deep.Slices
import Derived.Deep.Fields
import Derived.ChangeSame
import Derived.ProofKit
import Derived.OpenShut
import Derived.SizedLaws
namespace Go.Proofs.Ytjiklpoggpdngaa
open Go.RowKit Go.Maps Go.Sort
section
open Go.ChangeShapes Go.WideShapes Go.Deep
variable {H : Type} {enc : TypeId × Value → H} {P : Program} {w : World} {base : Nat} {spare : Nat → Bool} {held : Bool}
theorem open_slice_fields {t e : TypeId} {fs : Array Field} {fuel : Nat} {cs : List Value} {x : DataW H × List MemPlace} (ht : P.underlying t = some (.slice e)) (he : P.underlying e = some (.struct fs))
    (hone : oneCellFields P fs = true) (hC : P.cellsOf e = fs.size) (h : DataW.trod enc P w base spare held fuel t cs = some x) :
    (cs = [.slice none 0 0] ∧ x = (.nil, [])) ∨
    ∃ (a : Addr) (len cap m : Nat) (D : Nat → DataW H) (Pl : Nat → List MemPlace), cs = [.slice (some a) len cap] ∧ base ≤ a.block ∧ len ≤ cap ∧ cap ≤ maxLen ∧ m = (if spare a.block then cap else len) ∧
      x = (.slice ((List.range len).map D) ((List.range (m - len)).map fun j => D (len + j)), MemPlace.row a (m * fs.size) ++ (List.range m).flatMap Pl) ∧
      ∀ i, i < m → ∃ (ys : List (DataW H × List MemPlace)) (n : Nat), D i = .agg (ys.map (·.1)) ∧ Pl i = ys.flatMap (·.2) ∧ ys.length = fs.size ∧
        ∀ (j : Nat) (f : Field), fs[j]? = some f → ∃ (v : Value) (y : DataW H × List MemPlace), w.cell? (a.add (i * fs.size + j)) = some v ∧ ys[j]? = some y ∧ DataW.trod enc P w base spare held n f.type [v] = some y := by
  rcases open_slice ht h with h0 | ⟨a, len, cap, m, n, D, Pl, hcs, hb, hl, hm, hmm, hx, hi⟩
  · exact .inl h0
  · refine .inr ⟨a, len, cap, m, D, Pl, hcs, hb, hl, hm, hmm, by rw [hC] at hx; exact hx, fun i him => ?_⟩
    obtain ⟨cs', hc, ht'⟩ := hi i him
    rw [hC] at hc
    obtain ⟨ys, n', hn', hy, hlen, hyl, hf⟩ := DataW.trod_struct he ht'
    obtain ⟨_, hcl, hat⟩ := World.cells?_some hc
    simp only [Prod.mk.injEq] at hy
    refine ⟨ys, n', hy.1, hy.2, hyl, fun j f hj => ?_⟩
    obtain ⟨ho, hk⟩ := hone_of hone j f hj
    have hjl : j < fs.size := (Array.getElem?_eq_some_iff.1 hj).1
    have hcell := hat j hjl
    have hv : cs'[j]? = some (cs'[j]'(by omega)) := List.getElem?_eq_getElem (by omega)
    have h1 := hf j f hj
    rw [ho, hk] at h1
    have hone' : (cs'.drop j).take 1 = [cs'[j]'(by omega)] := by
      rw [List.drop_eq_getElem_cons (by omega)]
      rfl
    rw [hone'] at h1
    have hys : ys[j]? = some (ys[j]'(by omega)) := List.getElem?_eq_getElem (by omega)
    refine ⟨_, _, ?_, hys, h1.trans hys⟩
    rw [← Go.Deep.add_add, hcell, hv]

/-- a row of ints or bytes that was read, as a source -/
theorem src_ints {k : IntKind} {a : Option Addr} {len cap : Nat} {fuel : Nat} {t e : TypeId} {x : DataW H × List MemPlace} (ht : P.underlying t = some (.slice e)) (he : P.underlying e = some (.int k)) (hc : P.cellsOf e = 1)
    (h : DataW.trod enc P w base spare held fuel t [.slice a len cap] = some x) : ∃ zs : List Int, zs.length = len ∧ Src w (.slice a len cap) (zs.map (Value.int k)) ∧ ∀ n ∈ zs, (Lit.int k n).wf = true := by
  rcases open_ints ht he hc h with ⟨hcs, _⟩ | ⟨a', l, c, zs, hcs, _, hl, hm, hz, _, hcell, hwf⟩
  · simp at hcs
    obtain ⟨rfl, rfl, rfl⟩ := hcs
    exact ⟨[], rfl, Src.nil _, by simp⟩
  · simp at hcs
    obtain ⟨rfl, rfl, rfl⟩ := hcs
    have hzl : len ≤ zs.length := by rw [hz]; split <;> omega
    have hcapm : (cap : Int) ≤ 9223372036854775807 := by unfold maxLen at hm; omega
    refine ⟨zs.take len, by rw [List.length_take]; omega, ?_, fun n hn => hwf n (List.mem_of_mem_take hn)⟩
    by_cases h0 : len = 0
    · subst h0
      exact .inl ⟨some a', cap, rfl, by simp, fun e => (by cases e), hcapm⟩
    · have hc0 := hcell 0 (by omega)
      have hsp : a'.spot = none := by
        rw [show a'.add 0 = a' by simp [Addr.add]] at hc0
        unfold World.cell? at hc0
        split at hc0
        · split at hc0
          · cases hc0
          · rename_i hs; simpa using hs
        · cases hc0
      have hlt : a'.block < w.heap.size := by have := cell_lt hc0; rw [add_block] at this; exact this
      obtain ⟨ab, ao, asp⟩ := a'
      simp only at hsp
      subst hsp
      refine .inr ⟨ab, ao, cap, by simp; omega, by simp; omega, hcapm, hlt, fun j u hu => ?_⟩
      rw [List.getElem?_map, List.getElem?_take] at hu
      split at hu
      · rename_i hj
        have h1 := hcell j (by omega)
        rw [show (⟨ab, ao, none⟩ : Addr).add j = ⟨ab, ao + j, none⟩ by unfold Addr.add; by_cases e : j = 0 <;> simp [e]] at h1
        rw [h1, ← hu, List.getElem?_eq_getElem (by omega)]
        simp [List.getD_eq_getElem?_getD, List.getElem?_eq_getElem (show j < zs.length by omega)]
      · cases hu

theorem bytes_of {zs : List Int} (h : ∀ n ∈ zs, (Lit.int .u8 n).wf = true) : ∃ bs : List UInt8, bs.map bV = zs.map (Value.int .u8) := by
  refine ⟨zs.map (fun z => UInt8.ofNat z.toNat), ?_⟩
  rw [List.map_map]
  refine List.map_congr_left fun z hz => ?_
  have hw := h z hz
  unfold Function.comp bV
  have h1 : 0 ≤ z ∧ z ≤ 255 := by
    unfold Lit.wf at hw
    rw [Bool.and_eq_true, decide_eq_true_eq, decide_eq_true_eq] at hw
    exact hw
  have h2 : z.toNat < 256 := by omega
  congr 1
  rw [UInt8.toNat_ofNat']
  omega

theorem wf64 {n : Int} (h : (Lit.int .i64 n).wf = true) : -9223372036854775808 ≤ n ∧ n ≤ 9223372036854775807 := by
  unfold Lit.wf at h
  rw [Bool.and_eq_true, decide_eq_true_eq, decide_eq_true_eq] at h
  exact h

theorem weights_elem {t e : TypeId} {elems spare' : List (DataW H)} (ht : P.underlying t = some (.slice e)) {d : DataW H} (hd : d ∈ elems) : ∀ n ∈ d.weights P e, n ∈ (DataW.slice elems spare').weights P t := by
  intro n hn
  have : n ∈ DataW.weightsAll P e elems := by
    induction elems with
    | nil => cases hd
    | cons x r ih =>
      simp only [DataW.weightsAll, List.mem_append]
      rcases List.mem_cons.1 hd with rfl | h
      · exact .inl hn
      · exact .inr (ih h)
  simp only [DataW.weights, ht, List.mem_cons, List.mem_append]
  exact .inr (.inl this)
end

section
open Go.ChangeShapes Go.WideShapes Go.Deep
variable {H : Type} {enc : TypeId × Value → H} {w : World} {base : Nat} {spare : Nat → Bool} {held : Bool}

theorem addOff (b o k : Nat) : (⟨b, o, none⟩ : Addr).add k = ⟨b, o + k, none⟩ := by unfold Addr.add; by_cases e : k = 0 <;> simp [e]

theorem stp_struct : ∃ fs, Try.prog.underlying 33 = some (.struct fs) ∧ oneCellFields Try.prog fs = true ∧ fs.size = 9 ∧ (fs.toList.map (·.type)) = [3, 3, 3, 3, 3, 9, 9, 30, 31] ∧ Try.prog.cellsOf 33 = 9 :=
  ⟨_, Try.underlying33, by kernel_rfl, by kernel_rfl, by kernel_rfl, by kernel_rfl⟩

theorem src_of {P : Program} {k : IntKind} {fuel : Nat} {t e : TypeId} {v : Value} {x : DataW H × List MemPlace} (ht : P.underlying t = some (.slice e)) (he : P.underlying e = some (.int k)) (hc : P.cellsOf e = 1)
    (h : DataW.trod enc P w base spare held fuel t [v] = some x) : ∃ a len cap, ∃ zs : List Int, v = .slice a len cap ∧ zs.length = len ∧ Src w (.slice a len cap) (zs.map (Value.int k)) ∧ (∀ n ∈ zs, (Lit.int k n).wf = true) ∧ ∀ B, (∀ m ∈ x.1.weights P t, m ≤ B) → len * P.bytesOf e ≤ B := by
  have h0 := h
  rcases open_ints ht he hc h with ⟨hcs, hx⟩ | ⟨a', l, c, zs, hcs, _, hl, hm, hz, hx, hcell, hwf⟩
  · simp at hcs
    subst hcs
    obtain ⟨zs, h1, h2, h3⟩ := src_ints ht he hc h0
    exact ⟨_, _, _, zs, rfl, h1, h2, h3, fun B _ => by simp⟩
  · simp at hcs
    subst hcs
    obtain ⟨zs', h1, h2, h3⟩ := src_ints ht he hc h0
    refine ⟨_, _, _, zs', rfl, h1, h2, h3, fun B hB => ?_⟩
    rw [hx] at hB
    have hzl : l ≤ zs.length := by rw [hz]; split <;> omega
    have h4 := hB _ (by
      simp only [DataW.weights, ht, List.mem_cons]
      exact .inl rfl)
    simp only [lits, List.length_map, List.length_take, List.length_drop] at h4
    refine Nat.le_trans (Nat.mul_le_mul_right _ ?_) h4
    omega

/-- nine fields, read one by one, are a step -/
theorem stp_of {fs : Array Field} (hu : Try.prog.underlying 33 = some (.struct fs)) (hty : fs.toList.map (·.type) = [3, 3, 3, 3, 3, 9, 9, 30, 31]) {ys : List (DataW H × List MemPlace)} {n : Nat} {C : Nat → Value → Prop}
    (hf : ∀ (j : Nat) (f : Field), fs[j]? = some f → ∃ (v : Value) (y : DataW H × List MemPlace), C j v ∧ ys[j]? = some y ∧ DataW.trod enc Try.prog w base spare held n f.type [v] = some y)
    (hw : ∀ m ∈ (DataW.agg (ys.map (·.1))).weights Try.prog 33, m ≤ reachBytes) : ∃ s : Stp, StpOk w s ∧ ∀ j u, (stpCells s)[j]? = some u → C j u := by
  have key : ∀ (j : Nat) (t : TypeId), [3, 3, 3, 3, 3, 9, 9, 30, 31][j]? = some t → ∃ (v : Value) (y : DataW H × List MemPlace), C j v ∧ ys[j]? = some y ∧ DataW.trod enc Try.prog w base spare held n t [v] = some y := by
    intro j t ht
    rw [← hty, List.getElem?_map] at ht
    cases hfj : fs.toList[j]? with
    | none => rw [hfj] at ht; cases ht
    | some f =>
      rw [hfj] at ht
      simp only [Option.map_some, Option.some.injEq] at ht
      obtain ⟨v, y, h1, h2, h3⟩ := hf j f (by rw [← Array.getElem?_toList]; exact hfj)
      rw [ht] at h3
      exact ⟨v, y, h1, h2, h3⟩
  have hwj : ∀ (j : Nat) (t : TypeId) (y : DataW H × List MemPlace), [3, 3, 3, 3, 3, 9, 9, 30, 31][j]? = some t → ys[j]? = some y → ∀ m ∈ y.1.weights Try.prog t, m ≤ reachBytes := by
    intro j t y ht hy m hm
    refine hw m ?_
    simp only [DataW.weights, hu, hty]
    exact DataW.weights_mem_each ht (by rw [List.getElem?_map, hy]; rfl) m hm
  obtain ⟨v0, y0, c0, _, t0⟩ := key 0 _ rfl
  obtain ⟨v1, y1, c1, _, t1⟩ := key 1 _ rfl
  obtain ⟨v2, y2, c2, _, t2⟩ := key 2 _ rfl
  obtain ⟨v3, y3, c3, _, t3⟩ := key 3 _ rfl
  obtain ⟨v4, y4, c4, _, t4⟩ := key 4 _ rfl
  obtain ⟨v5, y5, c5, _, t5⟩ := key 5 _ rfl
  obtain ⟨v6, y6, c6, _, t6⟩ := key 6 _ rfl
  obtain ⟨v7, y7, c7, g7, t7⟩ := key 7 _ rfl
  obtain ⟨v8, y8, c8, g8, t8⟩ := key 8 _ rfl
  obtain ⟨i0, e0, _, _⟩ := DataW.trod_int Try.underlying3 t0
  obtain ⟨i1, e1, _, _⟩ := DataW.trod_int Try.underlying3 t1
  obtain ⟨i2, e2, _, _⟩ := DataW.trod_int Try.underlying3 t2
  obtain ⟨i3, e3, _, _⟩ := DataW.trod_int Try.underlying3 t3
  obtain ⟨i4, e4, _, w4⟩ := DataW.trod_int Try.underlying3 t4
  obtain ⟨s5, e5, _, w5⟩ := DataW.trod_string Try.underlying9 t5
  obtain ⟨s6, e6, _, w6⟩ := DataW.trod_string Try.underlying9 t6
  obtain ⟨a7, l7, p7, zs7, rfl, hl7, hs7, hw7, hB7⟩ := src_of Try.underlying30 Try.underlying5 (by kernel_rfl) t7
  obtain ⟨a8, l8, p8, zs8, rfl, hl8, hs8, hw8, _⟩ := src_of Try.underlying31 Try.underlying3 (by kernel_rfl) t8
  obtain ⟨bs, hbs⟩ := bytes_of hw7
  injection e0 with e0; injection e1 with e1; injection e2 with e2; injection e3 with e3; injection e4 with e4; injection e5 with e5; injection e6 with e6
  subst e0; subst e1; subst e2; subst e3; subst e4; subst e5; subst e6
  have hbl : bs.length = l7 := by have := congrArg List.length hbs; simpa [hl7] using this
  have hb7 := hB7 reachBytes (hwj 7 _ y7 rfl g7)
  have hby : Try.prog.bytesOf 5 = 1 := by kernel_rfl
  rw [hby, Nat.mul_one] at hb7
  refine ⟨⟨i0, i1, i2, i3, i4, s5, s6, a7, p7, bs, a8, l8, p8⟩, ⟨w5, w6, ?_, ?_, wf64 w4⟩, ?_⟩
  · show Src w (.slice a7 bs.length p7) (bs.map bV)
    rw [hbl, hbs]; exact hs7
  · show (bs.length : Int) ≤ _
    have hrb : reachBytes ≤ 140737488351232 := by decide +kernel
    have h9 : bs.length ≤ reachBytes := by rw [hbl]; exact hb7
    have h10 := Nat.le_trans h9 hrb
    exact Int.ofNat_le.2 h10
  · intro j u hj
    match j, hj with
    | 0, hj => cases hj; exact c0
    | 1, hj => cases hj; exact c1
    | 2, hj => cases hj; exact c2
    | 3, hj => cases hj; exact c3
    | 4, hj => cases hj; exact c4
    | 5, hj => cases hj; exact c5
    | 6, hj => cases hj; exact c6
    | 7, hj =>
      have h9 : (stpCells ⟨i0, i1, i2, i3, i4, s5, s6, a7, p7, bs, a8, l8, p8⟩)[7]? = some (.slice a7 bs.length p7) := rfl
      rw [h9] at hj
      have h10 : u = .slice a7 bs.length p7 := (Option.some.inj hj).symm
      rw [h10, hbl]; exact c7
    | 8, hj => cases hj; exact c8
    | j + 9, hj => simp [stpCells] at hj

/-- AN ARGUMENT THAT IS A SCRIPT -/
theorem open_script {W : World} {a : Option Addr} {len cap : Nat} {fuel : Nat} {x : DataW H × List MemPlace} (h : DataW.trod enc Try.prog W base spare held fuel 22 [.slice a len cap] = some x) (hw : ∀ m ∈ x.1.weights Try.prog 22, m ≤ reachBytes) :
    ∃ l : List Stp, l.length = len ∧ Steps (fun b => b < W.heap.size) W (.slice a len cap) l := by
  obtain ⟨fs, hu, hone, hsz, hty, hcl⟩ := stp_struct
  rcases open_slice_fields Try.underlying22 hu hone (by rw [hcl, hsz]) h with ⟨hcs, _⟩ | ⟨a', l', c', m, D, Pl, hcs, _, hl, hm, hmm, hx, hi⟩
  · simp at hcs
    obtain ⟨rfl, rfl, rfl⟩ := hcs
    exact ⟨[], rfl, .inl ⟨_, _, rfl, rfl⟩⟩
  · simp at hcs
    obtain ⟨rfl, rfl, rfl⟩ := hcs
    have hlm : len ≤ m := by rw [hmm]; split <;> omega
    have each : ∀ i, i < len → ∃ s : Stp, StpOk W s ∧ ∀ j u, (stpCells s)[j]? = some u → W.cell? (a'.add (i * 9 + j)) = some u := by
      intro i hil
      obtain ⟨ys, n, hD, _, hyl, hf⟩ := hi i (by omega)
      rw [hsz] at hf
      refine stp_of hu hty (C := fun j u => W.cell? (a'.add (i * 9 + j)) = some u) hf ?_
      intro q hq
      refine hw q ?_
      rw [hx]
      rw [← hD] at hq
      exact weights_elem Try.underlying22 (List.mem_map.2 ⟨i, List.mem_range.2 hil, rfl⟩) q hq
    by_cases h0 : len = 0
    · subst h0
      exact ⟨[], rfl, .inl ⟨_, _, rfl, rfl⟩⟩
    · have each' : ∀ i : Fin len, ∃ s : Stp, StpOk W s ∧ ∀ j u, (stpCells s)[j]? = some u → W.cell? (a'.add (i.1 * 9 + j)) = some u := fun i => each i.1 i.2
      let F : Fin len → Stp := fun i => Classical.choose (each' i)
      have hF : ∀ i, StpOk W (F i) ∧ ∀ j u, (stpCells (F i))[j]? = some u → W.cell? (a'.add (i.1 * 9 + j)) = some u := fun i => Classical.choose_spec (each' i)
      have hc0 := (hF ⟨0, by omega⟩).2 0 _ rfl
      have hsp : a'.spot = none := by
        simp only [Nat.zero_mul, Nat.zero_add] at hc0
        rw [show a'.add 0 = a' by simp [Addr.add]] at hc0
        unfold World.cell? at hc0
        split at hc0
        · split at hc0
          · cases hc0
          · rename_i hs; simpa using hs
        · cases hc0
      have hlt : a'.block < W.heap.size := by have := cell_lt hc0; rw [add_block] at this; exact this
      obtain ⟨ab, ao, asp⟩ := a'
      simp only at hsp
      subst hsp
      refine ⟨List.ofFn F, by simp, .inr ⟨ab, ao, cap, by simp, hlt, ?_, ?_, ?_⟩⟩
      · intro i hi2 hne x hx2
        have hok := ((hF ⟨i, by simpa using hi2⟩).1).bytes
        have e : (List.ofFn F)[i] = F ⟨i, by simpa using hi2⟩ := by simp
        rw [e] at hne hx2
        rw [hx2] at hok
        exact hok.lt (by simpa using hne) x _ _ rfl
      · simp only [List.length_ofFn]; unfold maxLen at hm; omega
      · intro i hi2
        have e : (List.ofFn F)[i] = F ⟨i, by simpa using hi2⟩ := by simp
        rw [e]
        refine ⟨(hF _).1, fun j u hj => ?_⟩
        have := (hF ⟨i, by simpa using hi2⟩).2 j u hj
        rw [addOff] at this
        rw [Nat.add_assoc]; exact this
end
end Go.Proofs.Ytjiklpoggpdngaa
