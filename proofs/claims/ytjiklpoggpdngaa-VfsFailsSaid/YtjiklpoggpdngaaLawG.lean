/- Arguments: the length of a script. -/
import Derived.Test.YtjiklpoggpdngaaLawO
namespace Go.Proofs.Ytjiklpoggpdngaa
open Go.RowKit Go.Maps Go.Sort
open Go.ChangeShapes Go.WideShapes Go.Deep
section
variable {H : Type} {enc : TypeId × Value → H} {w : World} {base : Nat} {spare : Nat → Bool} {held : Bool}

theorem script_len {W : World} {a : Option Addr} {len cap : Nat} {fuel : Nat} {x : DataW H × List MemPlace} (h : DataW.trod enc Try.prog W base spare held fuel 22 [.slice a len cap] = some x) (hw : ∀ m ∈ x.1.weights Try.prog 22, m ≤ reachBytes) : (len : Int) ≤ 140737488351232 := by
  obtain ⟨fs, hu, hone, hsz, hty, hcl⟩ := stp_struct
  rcases open_slice_fields Try.underlying22 hu hone (by rw [hcl, hsz]) h with ⟨hcs, _⟩ | ⟨a', l', c', m, D, Pl, hcs, _, hl, hm, hmm, hx, hi⟩
  · simp at hcs
    obtain ⟨rfl, rfl, rfl⟩ := hcs
    decide
  · simp at hcs
    obtain ⟨rfl, rfl, rfl⟩ := hcs
    rw [hx] at hw
    have h4 := hw _ (by
      simp only [DataW.weights, Try.underlying22, List.mem_cons]
      exact .inl rfl)
    simp only [List.length_map, List.length_range] at h4
    have hby : Try.prog.bytesOf 33 = 120 := by kernel_rfl
    rw [hby] at h4
    have hrb : reachBytes ≤ 140737488351232 := by decide +kernel
    have h9 := Nat.le_trans h4 hrb
    omega

theorem weights_of {P : Program} {ts vs : List TypeId} {ds gs : List (DataW H)} (h : (DataW.weightsEach P (ts ++ vs) (ds ++ gs)).all (· ≤ reachBytes) = true) {j : Nat} {t : TypeId} {d : DataW H} (ht : (ts ++ vs)[j]? = some t) (hd : (ds ++ gs)[j]? = some d) : ∀ m ∈ d.weights P t, m ≤ reachBytes := by
  intro m hm
  have := List.all_eq_true.1 h m (DataW.weights_mem_each ht hd m hm)
  simpa using this
end
end Go.Proofs.Ytjiklpoggpdngaa
