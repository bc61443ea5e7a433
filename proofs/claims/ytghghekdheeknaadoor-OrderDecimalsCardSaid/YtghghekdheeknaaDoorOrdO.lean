/- Stage 7 ahead (PLAIN): the document's loops over digits, against the plain decimals. -/
import Derived.Test.YtghghekdheeknaaDoorOrdN
namespace Go.Proofs.YtghghekdheeknaaDoor
namespace Odr
/-- digit by digit, below 0: what stands so far is -a -/
def readB : Nat → List UInt8 → Option Nat
  | a, [] => some a
  | a, c :: t => if 9223372036854775808 < 10 * a + dval c then none else readB (10 * a + dval c) t
theorem vals_cons (c : UInt8) (t : List UInt8) : vals (c :: t) = dval c * 10 ^ t.length + vals t := by
  have := vals_app [c] t
  rwa [vals_one] at this
theorem readB_eq : ∀ (l : List UInt8) (a : Nat), a ≤ 9223372036854775808 → readB a l = if 9223372036854775808 < a * 10 ^ l.length + vals l then none else some (a * 10 ^ l.length + vals l)
  | [], a, h => by simp [readB, vals]; omega
  | c :: t, a, h => by
    have e : a * 10 ^ (c :: t).length + vals (c :: t) = (10 * a + dval c) * 10 ^ t.length + vals t := by
      rw [vals_cons, List.length_cons, Nat.pow_succ]
      generalize 10 ^ t.length = m
      rw [Nat.add_mul, ← Nat.add_assoc]
      congr 2
      rw [Nat.mul_comm m 10, ← Nat.mul_assoc, Nat.mul_comm a 10]
    rw [readB, e]
    by_cases h1 : 9223372036854775808 < 10 * a + dval c
    · have : 10 * a + dval c ≤ (10 * a + dval c) * 10 ^ t.length := Nat.le_mul_of_pos_right _ (Nat.pow_pos (by decide))
      rw [if_pos h1, if_pos (by omega)]
    · rw [if_neg h1, readB_eq t _ (by omega)]
/-- the document's guard ahead of a digit -/
theorem guard_iff {a d : Nat} (hd : d ≤ 9) : (-(a : Int) < Int.tdiv (-9223372036854775808 + (d : Int)) 10) ↔ 9223372036854775808 < 10 * a + d := by
  have h : Int.tdiv (-9223372036854775808 + (d : Int)) 10 = -(((9223372036854775808 - d : Nat) / 10 : Nat) : Int) := by
    have e : (-9223372036854775808 + (d : Int)) = -((9223372036854775808 - d : Nat) : Int) := by omega
    rw [e, Int.neg_tdiv]
    congr 1
  rw [h]; omega

/-! ### digits from the last one on -/
theorem fixd_mod : ∀ k x, fixd k (x % 10 ^ k) = fixd k x
  | 0, _ => rfl
  | k + 1, x => by
    rw [fixd, fixd, Nat.pow_succ]
    have h1 : x % (10 ^ k * 10) / 10 = x / 10 % 10 ^ k := by
      rw [Nat.mul_comm, Nat.mod_mul_right_div_self]
    have h2 : x % (10 ^ k * 10) % 10 = x % 10 := Nat.mod_mul_left_mod ..
    rw [h1, h2, fixd_mod k]
/-- one digit more, ahead -/
theorem fixd_more : ∀ k x, fixd (k + 1) x = dg (x / 10 ^ k % 10) :: fixd k x
  | 0, x => by simp [fixd]
  | k + 1, x => by
    rw [fixd, fixd_more k (x / 10), fixd]
    rw [List.cons_append]
    congr 2
    · rw [Nat.div_div_eq_div_mul, Nat.pow_succ, Nat.mul_comm]
theorem dec_fixd (u : Nat) : dec u = fixd (dec u).length u := by
  refine dec_ind (P := fun u => dec u = fixd (dec u).length u) ?_ ?_ u
  · intro u h; rw [dec_small h]
    show [dg u] = fixd 1 u
    rw [fixd, fixd, Nat.mod_eq_of_lt h]; rfl
  · intro u h ih
    rw [dec_step h, List.length_append]
    show dec (u / 10) ++ [dg (u % 10)] = fixd ((dec (u / 10)).length + 1) u
    rw [fixd, ← ih]
/-- how many digits: the least m from 1 on with u below 10 to the m -/
theorem dec_least {m u : Nat} (h1 : 1 ≤ m) (h2 : u < 10 ^ m) (h3 : m = 1 ∨ 10 ^ (m - 1) ≤ u) : (dec u).length = m := by
  have hl := dec_len m u h1 h2
  rcases h3 with rfl | h3
  · obtain ⟨c, t, hd, _⟩ := dec_head u
    rw [hd] at hl ⊢; simp at hl ⊢; exact hl
  · have hv := vals_dec u
    have hb : u < 10 ^ (dec u).length := by
      have : ∀ l : List UInt8, (∀ c ∈ l, isDig c = true) → vals l < 10 ^ l.length := by
        intro l
        induction l with
        | nil => intro _; simp [vals]
        | cons c l ih =>
          intro h
          have hc := h c (List.mem_cons_self ..)
          unfold isDig at hc
          rw [decide_eq_true_eq] at hc
          have := ih (fun x hx => h x (List.mem_cons_of_mem _ hx))
          rw [vals_cons, List.length_cons, Nat.pow_succ]
          have hd : dval c ≤ 9 := by unfold dval; omega
          have := Nat.mul_le_mul_right (10 ^ l.length) hd
          omega
      have := this _ (dec_dig u)
      rwa [hv] at this
    rcases Nat.lt_or_ge (dec u).length m with h | h
    · have := Nat.pow_le_pow_right (show 0 < 10 by decide) (show (dec u).length ≤ m - 1 by omega)
      omega
    · omega
/-- the document's row of digits when k of them stand -/
def rowT (u sc k : Nat) : List UInt8 :=
  if k ≤ sc then fixd k u else fixd (k - sc) (u / 10 ^ sc) ++ (if sc = 0 then [] else 46 :: fixd sc u)
theorem rowT_zero (u sc : Nat) : rowT u sc 0 = [] := by unfold rowT; rw [if_pos (Nat.zero_le _)]; rfl
theorem rowT_step (u sc k : Nat) : rowT u sc (k + 1) = dg (u / 10 ^ k % 10) :: ((if k = sc ∧ 0 < sc then [46] else []) ++ rowT u sc k) := by
  unfold rowT
  rcases Nat.lt_trichotomy k sc with h | h | h
  · rw [if_pos (show k + 1 ≤ sc by omega), if_pos (show k ≤ sc by omega), if_neg (show ¬ (k = sc ∧ 0 < sc) by omega), fixd_more]; rfl
  · subst h
    rw [if_neg (show ¬ k + 1 ≤ k by omega), if_pos (Nat.le_refl k), Nat.add_sub_cancel_left]
    have e : fixd 1 (u / 10 ^ k) = [dg (u / 10 ^ k % 10)] := by rw [fixd, fixd]; rfl
    rw [e]
    by_cases h0 : k = 0
    · subst h0; rw [if_pos rfl, if_neg (show ¬ (0 = 0 ∧ 0 < 0) by omega)]; rfl
    · rw [if_neg h0, if_pos (show k = k ∧ 0 < k from ⟨rfl, by omega⟩)]; rfl
  · rw [if_neg (show ¬ k + 1 ≤ sc by omega), if_neg (show ¬ k ≤ sc by omega), if_neg (show ¬ (k = sc ∧ 0 < sc) by omega), show k + 1 - sc = (k - sc) + 1 by omega, fixd_more, List.nil_append, List.cons_append, Nat.div_div_eq_div_mul, ← Nat.pow_add, show sc + (k - sc) = k by omega]
/-- where the loop ends: all digits stand, and no 0 ahead of them -/
theorem rowT_end {u sc k : Nat} (hk : sc < k) (h0 : u / 10 ^ k = 0) (hm : k = sc + 1 ∨ u / 10 ^ (k - 1) ≠ 0) : rowT u sc k = dec (u / 10 ^ sc) ++ (if sc = 0 then [] else 46 :: fixd sc (u % 10 ^ sc)) := by
  unfold rowT
  rw [if_neg (by omega), fixd_mod]
  congr 1
  have hp : 0 < 10 ^ sc := Nat.pow_pos (by decide)
  have hu : u / 10 ^ sc < 10 ^ (k - sc) := by
    rw [Nat.div_lt_iff_lt_mul hp, ← Nat.pow_add, show k - sc + sc = k by omega]
    exact (Nat.div_eq_zero_iff_lt (Nat.pow_pos (by decide))).1 h0
  have hl : (dec (u / 10 ^ sc)).length = k - sc := by
    refine dec_least (by omega) hu ?_
    rcases hm with h | h
    · left; omega
    · by_cases h1 : k = sc + 1
      · left; omega
      · right
        rw [Nat.le_div_iff_mul_le hp, ← Nat.pow_add, show k - sc - 1 + sc = k - 1 by omega]
        rcases Nat.lt_or_ge u (10 ^ (k - 1)) with h2 | h2
        · exact absurd (Nat.div_eq_of_lt h2) h
        · exact h2
  conv => rhs; rw [dec_fixd, hl]
/-- where the last point stands, from the end: the statement's loop -/
def pointF (n : Nat) : Nat → List UInt8 → Nat → Nat
  | _, [], p => p
  | i, c :: t, p => pointF n (i + 1) t (if c.toNat = 46 then n - i - 1 else p)
theorem point_none (n : Nat) : ∀ (l : List UInt8) (i p : Nat), (∀ c ∈ l, c.toNat ≠ 46) → pointF n i l p = p
  | [], _, _, _ => rfl
  | c :: t, i, p, h => by
    rw [pointF, if_neg (h c (List.mem_cons_self ..))]
    exact point_none n t (i + 1) p (fun x hx => h x (List.mem_cons_of_mem _ hx))
theorem point_app (n : Nat) : ∀ (a b : List UInt8) (i p : Nat), pointF n i (a ++ b) p = pointF n (i + a.length) b (pointF n i a p)
  | [], _, _, _ => rfl
  | c :: a, b, i, p => by
    rw [List.cons_append, pointF, point_app n a b, pointF, List.length_cons]
    congr 1; omega
theorem dig_46 {c : UInt8} (h : isDig c = true) : c.toNat ≠ 46 := by unfold isDig at h; rw [decide_eq_true_eq] at h; omega
theorem point_text (n : Int) (sc : Nat) : pointF (textN n sc).length 0 (textN n sc) 0 = sc := by
  have hpre : ∀ c ∈ (if n < 0 then [45] else []) ++ dec (n.natAbs / 10 ^ sc), c.toNat ≠ 46 := by
    intro c hc
    rw [List.mem_append] at hc
    rcases hc with hc | hc
    · split at hc
      · rw [List.mem_singleton] at hc; subst hc; decide
      · cases hc
    · exact dig_46 (dec_dig _ c hc)
  obtain ⟨pre, hp⟩ : ∃ pre, pre = (if n < 0 then [45] else []) ++ dec (n.natAbs / 10 ^ sc) := ⟨_, rfl⟩
  have e : textN n sc = pre ++ (if sc = 0 then [] else 46 :: fixd sc (n.natAbs % 10 ^ sc)) := by unfold textN; rw [hp]
  rw [← hp] at hpre
  rw [e]
  by_cases h0 : sc = 0
  · subst h0
    rw [if_pos rfl, List.append_nil, point_none _ _ _ _ hpre]
  · rw [if_neg h0, point_app, point_none _ _ _ _ hpre, pointF, if_pos (by rfl), point_none _ _ _ _ (fun c hc => dig_46 (fixd_dig _ _ c hc))]
    rw [List.length_append, List.length_cons, fixd_len]; omega
end Odr
end Go.Proofs.YtghghekdheeknaaDoor
