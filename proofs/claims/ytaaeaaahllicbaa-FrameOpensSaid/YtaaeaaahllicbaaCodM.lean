/- Plain: the form of a number (groups of seven bits, the lowest first), and how it is read. -/
namespace Go.Proofs.Ytaaeaaahllicbaa

def form (n : Nat) : List UInt8 := if n < 128 then [UInt8.ofNat n] else UInt8.ofNat (n % 128 + 128) :: form (n / 128)
def val : List UInt8 → Nat
  | [] => 0
  | c :: r => c.toNat % 128 + 128 * val r
/-- how many bytes that say 'more' stand in front -/
def more : List UInt8 → Nat
  | [] => 0
  | c :: r => if c.toNat < 128 then 0 else more r + 1
def lastB (i : Nat) (c : Nat) : Bool := if i = 9 then c == 1 else i == 0 || decide (0 < c)
def deco (l : List UInt8) : Option (Nat × Nat) :=
  if more l < l.length ∧ more l ≤ 9 ∧ lastB (more l) (l.getD (more l) 0).toNat = true then some (val (l.take (more l + 1)), more l + 1) else none

theorem more_le : ∀ l : List UInt8, more l ≤ l.length
  | [] => Nat.le_refl _
  | c :: r => by
    unfold more
    have := more_le r
    split <;> simp; omega
theorem val_lt : ∀ l : List UInt8, val l < 2 ^ (7 * l.length)
  | [] => by simp [val]
  | c :: r => by
    unfold val
    have := val_lt r
    rw [List.length_cons, show 7 * (r.length + 1) = 7 * r.length + 7 by omega, Nat.pow_add]
    omega
theorem val_append : ∀ a b : List UInt8, val (a ++ b) = val a + 2 ^ (7 * a.length) * val b
  | [], b => by simp [val]
  | c :: r, b => by
    rw [List.cons_append]
    show c.toNat % 128 + 128 * val (r ++ b) = (c.toNat % 128 + 128 * val r) + 2 ^ (7 * (c :: r).length) * val b
    rw [val_append r b, List.length_cons, show 7 * (r.length + 1) = 7 * r.length + 7 by omega, Nat.pow_add, Nat.mul_add, Nat.add_assoc, ← Nat.mul_assoc, Nat.mul_comm (2 ^ (7 * r.length)) (2 ^ 7)]
theorem form_pos (n : Nat) : 1 ≤ (form n).length := by
  unfold form
  split <;> simp
theorem form_len : ∀ (k n : Nat), n < 2 ^ (7 * (k + 1)) → (form n).length ≤ k + 1
  | 0, n, h => by
    unfold form
    rw [if_pos (by simpa using h)]
    simp
  | k + 1, n, h => by
    unfold form
    split
    · simp
    · have := form_len k (n / 128) (by rw [show 7 * (k + 1 + 1) = 7 * (k + 1) + 7 by omega, Nat.pow_add] at h; omega)
      simp; omega
theorem form_len10 {n : Nat} (h : n < 18446744073709551616) : (form n).length ≤ 10 := form_len 9 n (by omega)

/-- the bytes of a form: what is read of it is the number -/
theorem form_read (t : List UInt8) : ∀ n : Nat, more (form n ++ t) + 1 = (form n).length ∧ val (form n) = n ∧ ((form n ++ t).getD (more (form n ++ t)) 0).toNat < 128 ∧ (128 ≤ n → 0 < ((form n ++ t).getD (more (form n ++ t)) 0).toNat) := by
  intro n
  induction n using Nat.strongRecOn with
  | ind n ih =>
    by_cases h : n < 128
    · have e : (UInt8.ofNat n).toNat = n := by rw [UInt8.toNat_ofNat']; omega
      unfold form
      rw [if_pos h]
      simp only [List.cons_append, List.nil_append, more, val, e, if_pos h, List.getD_cons_zero, List.length_singleton]
      refine ⟨trivial, by omega, h, fun _ => by omega⟩
    · have e : (UInt8.ofNat (n % 128 + 128)).toNat = n % 128 + 128 := by rw [UInt8.toNat_ofNat']; omega
      obtain ⟨h1, h2, h3, h4⟩ := ih (n / 128) (by omega)
      unfold form
      rw [if_neg h]
      simp only [List.cons_append, more, val, e, if_neg (show ¬ (n % 128 + 128 < 128) by omega), List.getD_cons_succ, List.length_cons]
      refine ⟨by omega, by omega, h3, fun _ => ?_⟩
      by_cases h5 : 128 ≤ n / 128
      · exact h4 h5
      · have e2 : (UInt8.ofNat (n / 128)).toNat = n / 128 := by rw [UInt8.toNat_ofNat']; omega
        have : form (n / 128) = [UInt8.ofNat (n / 128)] := by unfold form; rw [if_pos (by omega)]
        rw [this]
        simp only [List.cons_append, List.nil_append, more, e2, if_pos (show n / 128 < 128 by omega), List.getD_cons_zero]
        omega
theorem val_form (n : Nat) : val (form n) = n := (form_read [] n).2.1
theorem form_tail {n : Nat} (h : n < 18446744073709551616) (h2 : (form n).length = 10) : ((form n).getD 9 0).toNat = 1 := by
  have h1 := form_read [] n
  rw [List.append_nil] at h1
  obtain ⟨a, b, c, d⟩ := h1
  have e : more (form n) = 9 := by omega
  rw [e] at c d
  have hl : form n = (form n).take 9 ++ [(form n).getD 9 0] := by
    have := List.take_append_drop 9 (form n)
    have h3 : (form n).drop 9 = [(form n).getD 9 0] := by
      rw [List.drop_eq_getElem_cons (by omega), List.drop_eq_nil_of_le (by omega)]
      simp [List.getD, h2]
    rw [h3] at this
    exact this.symm
  have hv : val (form n) = val ((form n).take 9) + 2 ^ (7 * 9) * (((form n).getD 9 0).toNat % 128) := by
    conv => lhs; rw [hl]
    rw [val_append]
    simp [val, h2]
  rw [b] at hv
  have hb : 128 ≤ n := by
    rcases Nat.lt_or_ge n 128 with h' | h'
    · unfold form at h2; rw [if_pos h'] at h2; simp at h2
    · exact h'
  have := d hb
  omega

theorem deco_form {n : Nat} (h : n < 18446744073709551616) (t : List UInt8) : deco (form n ++ t) = some (n, (form n).length) := by
  obtain ⟨h1, h2, h3, h4⟩ := form_read t n
  have h5 := form_len10 h
  have hl : more (form n ++ t) + 1 = (form n).length := h1
  unfold deco
  rw [if_pos, hl]
  · rw [List.take_left' rfl, h2]
  · refine ⟨by rw [List.length_append]; omega, by omega, ?_⟩
    unfold lastB
    by_cases e : more (form n ++ t) = 9
    · rw [if_pos e]
      have := form_tail h (by omega)
      rw [e, show (form n ++ t).getD 9 0 = (form n).getD 9 0 by simp [List.getD, List.getElem?_append_left (show 9 < (form n).length by omega)], this]; rfl
    · rw [if_neg e]
      by_cases e0 : more (form n ++ t) = 0
      · simp [e0]
      · have : 128 ≤ n := by
          rcases Nat.lt_or_ge n 128 with h' | h'
          · have : (form n).length = 1 := by unfold form; rw [if_pos h']; rfl
            omega
          · exact h'
        have h9 := h4 this
        rw [decide_eq_true h9]; simp

/-- a row that could be a form is its number's -/
theorem form_val : ∀ (x : List UInt8) (c : UInt8), (∀ d ∈ x, 128 ≤ d.toNat) → c.toNat < 128 → (x = [] ∨ 0 < c.toNat) → form (val (x ++ [c])) = x ++ [c] ∧ (0 < c.toNat → 2 ^ (7 * x.length) ≤ val (x ++ [c]))
  | [], c, _, hc, _ => by
    have e : c.toNat % 128 = c.toNat := Nat.mod_eq_of_lt hc
    simp only [List.nil_append, val, e, Nat.mul_zero, Nat.add_zero]
    unfold form
    rw [if_pos hc]
    refine ⟨by simp, fun h => by simp; omega⟩
  | d :: r, c, hx, hc, h0 => by
    have hd := hx d (by simp)
    have hd2 := d.toNat_lt
    have h0' : 0 < c.toNat := by rcases h0 with h0 | h0; · cases h0
                                 · exact h0
    obtain ⟨h1, h2⟩ := form_val r c (fun y hy => hx y (by simp [hy])) hc (.inr h0')
    have h3 := h2 h0'
    simp only [List.cons_append, val]
    have hp : 0 < 2 ^ (7 * r.length) := Nat.pow_pos (by decide)
    constructor
    · unfold form
      rw [if_neg (by omega), show (d.toNat % 128 + 128 * val (r ++ [c])) / 128 = val (r ++ [c]) by omega, h1]
      congr 1
      have : (d.toNat % 128 + 128 * val (r ++ [c])) % 128 + 128 = d.toNat := by omega
      rw [this]; simp
    · intro _
      rw [List.length_cons, show 7 * (r.length + 1) = 7 * r.length + 7 by omega, Nat.pow_add]
      omega

theorem more_all : ∀ (l : List UInt8), (∀ d ∈ l.take (more l), 128 ≤ d.toNat) ∧ (more l < l.length → (l.getD (more l) 0).toNat < 128)
  | [] => by simp [more]
  | c :: r => by
    unfold more
    split
    · rename_i h; simp [h]
    · rename_i h
      obtain ⟨h1, h2⟩ := more_all r
      constructor
      · intro d hd
        rw [List.take_succ_cons] at hd
        rcases List.mem_cons.1 hd with e | e
        · subst e; omega
        · exact h1 d e
      · intro hl
        rw [List.getD_cons_succ]
        exact h2 (by simpa using hl)

theorem take_more {l : List UInt8} (h : more l < l.length) : l.take (more l + 1) = l.take (more l) ++ [l.getD (more l) 0] := by
  rw [List.take_succ_eq_append_getElem h]
  simp [List.getD, h]

theorem deco_some {l : List UInt8} {v k : Nat} (h : deco l = some (v, k)) : v < 18446744073709551616 ∧ form v = l.take k ∧ k ≤ l.length ∧ 1 ≤ k ∧ k ≤ 10 := by
  unfold deco at h
  split at h
  · rename_i hc
    obtain ⟨h1, h2, h3⟩ := hc
    injection h with h; injection h with ha hb
    subst ha; subst hb
    obtain ⟨m1, m2⟩ := more_all l
    have hm := m2 h1
    have h0 : l.take (more l) = [] ∨ 0 < (l.getD (more l) 0).toNat := by
      unfold lastB at h3
      by_cases e : more l = 9
      · rw [if_pos e] at h3; right; have := of_decide_eq_true h3; omega
      · rw [if_neg e] at h3
        simp at h3
        rcases h3 with h3 | h3
        · left; rw [h3]; rfl
        · right; simpa using h3
    have hf := form_val _ _ m1 hm h0
    have htl : (l.take (more l)).length = more l := by rw [List.length_take]; omega
    refine ⟨?_, ?_, h1, Nat.le_add_left _ _, by omega⟩
    · rw [take_more h1, val_append]
      have hv := val_lt (l.take (more l))
      rw [htl] at hv ⊢
      have e2 : val [l.getD (more l) 0] = (l.getD (more l) 0).toNat := by simp only [val]; omega
      rw [e2]
      by_cases e : more l = 9
      · rw [e] at hv hm h3 ⊢
        have : (l.getD 9 0).toNat = 1 := by unfold lastB at h3; rw [if_pos rfl] at h3; exact of_decide_eq_true h3
        rw [this]; omega
      · have h8 : more l ≤ 8 := by omega
        have hp : 2 ^ (7 * more l) ≤ 2 ^ (7 * 8) := Nat.pow_le_pow_right (by decide) (by omega)
        have hq : 2 ^ (7 * more l) * (l.getD (more l) 0).toNat ≤ 2 ^ (7 * 8) * 127 := Nat.mul_le_mul hp (by omega)
        omega
    · rw [take_more h1]; exact hf.1
  · cases h
theorem deco_len {l : List UInt8} {v k : Nat} (h : deco l = some (v, k)) : (form v).length = k := by
  obtain ⟨_, h2, h3, _⟩ := deco_some h
  rw [h2, List.length_take]; omega
theorem deco_append {l : List UInt8} {v k : Nat} (h : deco l = some (v, k)) (t : List UInt8) : deco (l ++ t) = some (v, k) := by
  have hl := deco_len h
  obtain ⟨h1, h2, h3, _⟩ := deco_some h
  have e : l ++ t = form v ++ (l.drop k ++ t) := by rw [h2, ← List.append_assoc, List.take_append_drop]
  rw [e, deco_form h1, hl]

/-- a signed number as an unsigned one, and back -/
def turned (n : Int) : Nat := if 0 ≤ n then (2 * n).toNat else (-2 * n - 1).toNat
def back (u : Nat) : Int := if u % 2 = 1 then -((u / 2 : Nat) : Int) - 1 else ((u / 2 : Nat) : Int)
theorem back_turned (n : Int) : back (turned n) = n := by
  unfold back turned
  by_cases h : 0 ≤ n
  · rw [if_pos h, if_neg (by omega)]; omega
  · rw [if_neg h, if_pos (by omega)]; omega
theorem turned_back (u : Nat) : turned (back u) = u := by
  unfold back turned
  by_cases h : u % 2 = 1
  · rw [if_pos h, if_neg (by omega)]; omega
  · rw [if_neg h, if_pos (by omega)]; omega
theorem turned_lt {n : Int} (h1 : -9223372036854775808 ≤ n) (h2 : n ≤ 9223372036854775807) : turned n < 18446744073709551616 := by
  unfold turned
  split <;> omega
theorem back_bound {u : Nat} (h : u < 18446744073709551616) : -9223372036854775808 ≤ back u ∧ back u ≤ 9223372036854775807 := by
  unfold back
  split <;> omega

end Go.Proofs.Ytaaeaaahllicbaa
