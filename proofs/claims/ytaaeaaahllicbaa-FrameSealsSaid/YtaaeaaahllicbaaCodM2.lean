/- Plain: a form byte by byte; how a number is found from behind. -/
import Derived.Test.YtaaeaaahllicbaaCodM
namespace Go.Proofs.Ytaaeaaahllicbaa

theorem form_get : ∀ (i n : Nat) (h : i < (form n).length), (form n)[i].toNat = n / 2 ^ (7 * i) % 128 + (if i + 1 < (form n).length then 128 else 0)
  | i, n, h => by
    by_cases hn : n < 128
    · have e : form n = [UInt8.ofNat n] := by unfold form; rw [if_pos hn]
      have h1 : (form n).length = 1 := by rw [e]; rfl
      have hi : i = 0 := by omega
      subst hi
      have e2 : (UInt8.ofNat n).toNat = n := by rw [UInt8.toNat_ofNat']; omega
      simp only [e, List.getElem_cons_zero, e2, List.length_singleton]
      simp; omega
    · have e : form n = UInt8.ofNat (n % 128 + 128) :: form (n / 128) := by conv => lhs; unfold form
                                                                            rw [if_neg hn]
      have e2 : (UInt8.ofNat (n % 128 + 128)).toNat = n % 128 + 128 := by rw [UInt8.toNat_ofNat']; omega
      have hp := form_pos (n / 128)
      cases i with
      | zero =>
        simp only [e, List.getElem_cons_zero, e2, List.length_cons]
        rw [if_pos (by omega)]
        simp
      | succ i =>
        have h' : i < (form (n / 128)).length := by rw [e] at h; simpa using h
        have ih := form_get i (n / 128) h'
        simp only [e, List.getElem_cons_succ, List.length_cons]
        rw [ih, Nat.div_div_eq_div_mul, show 7 * (i + 1) = 7 + 7 * i by omega, Nat.pow_add]
        simp
  termination_by i => i

theorem form_len_eq : ∀ (k n : Nat), 1 ≤ k → (k = 1 ∨ 2 ^ (7 * (k - 1)) ≤ n) → n < 2 ^ (7 * k) → (form n).length = k
  | 0, _, h, _, _ => by omega
  | 1, n, _, _, h => by unfold form; rw [if_pos (by simpa using h)]; rfl
  | k + 2, n, _, h1, h2 => by
    have h3 : 2 ^ (7 * (k + 1)) ≤ n := by rcases h1 with h1 | h1; · omega
                                          · exact h1
    have h4 : 128 ≤ n := by
      rw [show 7 * (k + 1) = 7 * k + 7 by omega, Nat.pow_add] at h3
      have : 0 < 2 ^ (7 * k) := Nat.pow_pos (by decide)
      omega
    have e : form n = UInt8.ofNat (n % 128 + 128) :: form (n / 128) := by conv => lhs; unfold form
                                                                          rw [if_neg (by omega)]
    have ih := form_len_eq (k + 1) (n / 128) (by omega) (by
      by_cases hk : k = 0
      · left; omega
      · right
        rw [show k + 1 - 1 = k by omega]
        rw [show 7 * (k + 1) = 7 * k + 7 by omega, Nat.pow_add] at h3
        omega) (by rw [show 7 * (k + 2) = 7 * (k + 1) + 7 by omega, Nat.pow_add] at h2; omega)
    rw [e, List.length_cons, ih]

/-- so many bytes as the ref tells are those of a form -/
theorem deco_none_iff {l : List UInt8} : deco l = none ↔ ¬ (more l < l.length ∧ more l ≤ 9 ∧ form (val (l.take (more l + 1)) % 18446744073709551616) = l.take (more l + 1)) := by
  constructor
  · intro h hc
    obtain ⟨h1, h2, h3⟩ := hc
    have h4 := deco_form (n := val (l.take (more l + 1)) % 18446744073709551616) (Nat.mod_lt _ (by decide)) (l.drop (more l + 1))
    rw [h3, List.take_append_drop, h] at h4
    cases h4
  · intro h
    cases hd : deco l with
    | none => rfl
    | some p =>
      exfalso
      apply h
      obtain ⟨v, k⟩ := p
      have hd0 := hd
      unfold deco at hd
      split at hd
      · rename_i hc
        injection hd with hd; injection hd with ha hb
        obtain ⟨g1, g2, _⟩ := deco_some hd0
        refine ⟨hc.1, hc.2.1, ?_⟩
        rw [ha, Nat.mod_eq_of_lt g1, hb]; exact g2
      · cases hd
theorem deco_val {l : List UInt8} {v k : Nat} (h : deco l = some (v, k)) : k = more l + 1 ∧ v = val (l.take (more l + 1)) := by
  unfold deco at h
  split at h
  · injection h with h; injection h with ha hb
    exact ⟨hb.symm, ha.symm⟩
  · cases h

/-- the number of a row from behind -/
theorem val_cons (c : UInt8) (r : List UInt8) : val (c :: r) = c.toNat % 128 + 128 * val r := rfl

end Go.Proofs.Ytaaeaaahllicbaa
