/- A row of numbers of 32 bits, opened as an argument (the opening is CodO's of wip/tpl2). -/
import Derived.Test.YtljjaepadnmmeaaDoorFldU
import Derived.Deep.Slices
import Derived.Deep.Fields
import Derived.ChangeSame
import Derived.ChangeOld
import Derived.SizedLaws
namespace Go.Proofs.YtljjaepadnmmeaaDoor
open Go.RowKit Go.Maps Fld
section
open Go.ChangeShapes Go.WideShapes Go.Deep
variable {H : Type} {enc : TypeId × Value → H} {P : Program} {w : World} {base : Nat} {spare : Nat → Bool} {held : Bool}
theorem add_block (a : Addr) (k : Nat) : (a.add k).block = a.block := by unfold Addr.add; split <;> rfl
theorem src_ints {k : IntKind} {a : Option Addr} {len cap : Nat} {fuel : Nat} {t e : TypeId} {x : DataW H × List MemPlace} (ht : P.underlying t = some (.slice e)) (he : P.underlying e = some (.int k)) (hc : P.cellsOf e = 1)
    (h : DataW.trod enc P w base spare held fuel t [.slice a len cap] = some x) : ∃ zs : List Int, zs.length = len ∧ Src w (.slice a len cap) (zs.map (Value.int k)) ∧ ∀ n ∈ zs, (Lit.int k n).wf = true := by
  rcases open_ints ht he hc h with ⟨hcs, _⟩ | ⟨a', l, c, zs, hcs, _, hl, hm, hz, _, hcell, hwf⟩
  · simp at hcs
    obtain ⟨rfl, rfl, rfl⟩ := hcs
    exact ⟨[], rfl, Src.nil _, by simp⟩
  · simp at hcs
    obtain ⟨rfl, rfl, rfl⟩ := hcs
    have hzl : len ≤ zs.length := by rw [hz]; split <;> omega
    have hcapm : (cap : Int) ≤ 9223372036854775807 := by unfold maxLen at hm; omega
    refine ⟨zs.take len, by rw [List.length_take]; omega, ?_, fun n hn => hwf n (List.mem_of_mem_take hn)⟩
    by_cases h0 : len = 0
    · subst h0
      exact .inl ⟨some a', cap, rfl, by simp, fun e => (by cases e), hcapm⟩
    · have hc0 := hcell 0 (by omega)
      have hsp : a'.spot = none := by
        rw [show a'.add 0 = a' by simp [Addr.add]] at hc0
        unfold World.cell? at hc0
        split at hc0
        · split at hc0
          · cases hc0
          · rename_i hs; simpa using hs
        · cases hc0
      have hlt : a'.block < w.heap.size := by have := cell_lt hc0; rw [add_block] at this; exact this
      obtain ⟨ab, ao, asp⟩ := a'
      simp only at hsp
      subst hsp
      refine .inr ⟨ab, ao, cap, by simp; omega, by simp; omega, hcapm, hlt, fun j u hu => ?_⟩
      rw [List.getElem?_map, List.getElem?_take] at hu
      split at hu
      · rename_i hj
        have h1 := hcell j (by omega)
        rw [show (⟨ab, ao, none⟩ : Addr).add j = ⟨ab, ao + j, none⟩ by unfold Addr.add; by_cases e : j = 0 <;> simp [e]] at h1
        rw [h1, ← hu, List.getElem?_eq_getElem (by omega)]
        simp [List.getD_eq_getElem?_getD, List.getElem?_eq_getElem (show j < zs.length by omega)]
      · cases hu
theorem bytes_of {zs : List Int} (h : ∀ n ∈ zs, (Lit.int .u8 n).wf = true) : ∃ bs : List UInt8, bs.map bV = zs.map (Value.int .u8) := by
  refine ⟨zs.map (fun z => UInt8.ofNat z.toNat), ?_⟩
  rw [List.map_map]
  refine List.map_congr_left fun z hz => ?_
  have hw := h z hz
  unfold Function.comp bV
  have h1 : 0 ≤ z ∧ z ≤ 255 := by
    unfold Lit.wf at hw
    rw [Bool.and_eq_true, decide_eq_true_eq, decide_eq_true_eq] at hw
    exact hw
  have h2 : z.toNat < 256 := by omega
  congr 1
  rw [UInt8.toNat_ofNat']
  omega
theorem wf64 {n : Int} (h : (Lit.int .i64 n).wf = true) : -9223372036854775808 ≤ n ∧ n ≤ 9223372036854775807 := by
  unfold Lit.wf at h
  rw [Bool.and_eq_true, decide_eq_true_eq, decide_eq_true_eq] at h
  exact h
theorem weights_elem {t e : TypeId} {elems spare' : List (DataW H)} (ht : P.underlying t = some (.slice e)) {d : DataW H} (hd : d ∈ elems) : ∀ n ∈ d.weights P e, n ∈ (DataW.slice elems spare').weights P t := by
  intro n hn
  have : n ∈ DataW.weightsAll P e elems := by
    induction elems with
    | nil => cases hd
    | cons x r ih =>
      simp only [DataW.weightsAll, List.mem_append]
      rcases List.mem_cons.1 hd with rfl | h
      · exact .inl hn
      · exact .inr (ih h)
  simp only [DataW.weights, ht, List.mem_cons, List.mem_append]
  exact .inr (.inl this)
theorem src_of {P : Program} {k : IntKind} {fuel : Nat} {t e : TypeId} {v : Value} {x : DataW H × List MemPlace} (ht : P.underlying t = some (.slice e)) (he : P.underlying e = some (.int k)) (hc : P.cellsOf e = 1)
    (h : DataW.trod enc P w base spare held fuel t [v] = some x) : ∃ a len cap, ∃ zs : List Int, v = .slice a len cap ∧ zs.length = len ∧ Src w (.slice a len cap) (zs.map (Value.int k)) ∧ (∀ n ∈ zs, (Lit.int k n).wf = true) ∧ ∀ B, (∀ m ∈ x.1.weights P t, m ≤ B) → len * P.bytesOf e ≤ B := by
  have h0 := h
  rcases open_ints ht he hc h with ⟨hcs, hx⟩ | ⟨a', l, c, zs, hcs, _, hl, hm, hz, hx, hcell, hwf⟩
  · simp at hcs
    subst hcs
    obtain ⟨zs, h1, h2, h3⟩ := src_ints ht he hc h0
    exact ⟨_, _, _, zs, rfl, h1, h2, h3, fun B _ => by simp⟩
  · simp at hcs
    subst hcs
    obtain ⟨zs', h1, h2, h3⟩ := src_ints ht he hc h0
    refine ⟨_, _, _, zs', rfl, h1, h2, h3, fun B hB => ?_⟩
    rw [hx] at hB
    have hzl : l ≤ zs.length := by rw [hz]; split <;> omega
    have h4 := hB _ (by
      simp only [DataW.weights, ht, List.mem_cons]
      exact .inl rfl)
    simp only [lits, List.length_map, List.length_take, List.length_drop] at h4
    refine Nat.le_trans (Nat.mul_le_mul_right _ ?_) h4
    omega
theorem weights_of {P : Program} {ts vs : List TypeId} {ds gs : List (DataW H)} (h : (DataW.weightsEach P (ts ++ vs) (ds ++ gs)).all (· ≤ reachBytes) = true) {j : Nat} {t : TypeId} {d : DataW H} (ht : (ts ++ vs)[j]? = some t) (hd : (ds ++ gs)[j]? = some d) : ∀ m ∈ d.weights P t, m ≤ reachBytes := by
  intro m hm
  have := List.all_eq_true.1 h m (DataW.weights_mem_each ht hd m hm)
  simpa using this

theorem arg_i32 {W : World} {ao : Option Addr} {ln cp : Nat} {d : DataW H} {p : List MemPlace} {b0 : Nat} {sp : Nat → Bool} {hd : Bool} (h : DataW.Trod enc Tryd.prog W b0 sp hd 64 (.slice ao ln cp) d p)
    (hw : ∀ m ∈ d.weights Tryd.prog 64, m ≤ reachBytes) : ∃ zs : List Int, Src W (.slice ao ln cp) (zs.map zV) ∧ (zs.length : Int) ≤ 35184372087808 ∧ ∀ z ∈ zs, -2147483648 ≤ z ∧ z ≤ 2147483647 := by
  obtain ⟨f, hf⟩ := h
  obtain ⟨a, len, cap, zs, he, h1, h2, h3, h4⟩ := src_of (x := (d, p)) Tryd.underlying64 Tryd.underlying21 (by kernel_rfl) hf
  injection he with e1 e2 e3
  subst e1; subst e2; subst e3
  refine ⟨zs, h2, ?_, fun z hz => ?_⟩
  · have hb := h4 reachBytes hw
    have hrb : reachBytes ≤ 140737488351232 := by decide +kernel
    have h1b : Tryd.prog.bytesOf 21 = 4 := by kernel_rfl
    rw [h1b] at hb
    omega
  · have h := h3 z hz
    unfold Lit.wf at h
    rw [Bool.and_eq_true, decide_eq_true_eq, decide_eq_true_eq] at h
    exact h
end
end Go.Proofs.YtljjaepadnmmeaaDoor
