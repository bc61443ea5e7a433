/- Plain: numbers that are packed are the digits of one number, and bytes are its digits to the base 256. -/
import Derived.Test.YtdoliejihinpkaaCodM
namespace Go.Proofs.Ytdoliejihinpkaa

def rowN (w : Nat) : List Nat → Nat
  | [] => 0
  | n :: r => n % 2 ^ w + 2 ^ w * rowN w r
def bytesOf : Nat → Nat → List UInt8
  | 0, _ => []
  | k + 1, N => UInt8.ofNat (N % 256) :: bytesOf k (N / 256)
def n256 : List UInt8 → Nat
  | [] => 0
  | c :: r => c.toNat + 256 * n256 r
def digs (w : Nat) : Nat → Nat → List Nat
  | 0, _ => []
  | n + 1, N => N % 2 ^ w :: digs w n (N / 2 ^ w)
def packed (n w : Nat) : Nat := (n * w + 7) / 8
def bitsP (l : List Nat) (w : Nat) : List UInt8 := bytesOf (packed l.length w) (rowN w l)
def unbitsP (b : List UInt8) (w n : Nat) : Option (List Nat) :=
  if b.length = packed n w ∧ n256 b < 2 ^ (w * n) then some (digs w n (n256 b)) else none

theorem two_pos (k : Nat) : 0 < 2 ^ k := Nat.two_pow_pos k
theorem rowN_lt (w : Nat) : ∀ l : List Nat, rowN w l < 2 ^ (w * l.length)
  | [] => by simp [rowN]
  | n :: r => by
    have ih := rowN_lt w r
    have h := Nat.mod_lt n (two_pos w)
    rw [rowN, List.length_cons, Nat.mul_add, Nat.mul_one, Nat.add_comm (w * r.length), Nat.pow_add]
    have h2 : 2 ^ w * (rowN w r + 1) ≤ 2 ^ w * 2 ^ (w * r.length) := Nat.mul_le_mul_left _ ih
    rw [Nat.mul_add, Nat.mul_one] at h2
    omega
theorem rowN_append (w : Nat) : ∀ a b : List Nat, rowN w (a ++ b) = rowN w a + 2 ^ (w * a.length) * rowN w b
  | [], b => by simp [rowN]
  | n :: r, b => by
    rw [List.cons_append, rowN, rowN, rowN_append w r b, List.length_cons, Nat.mul_add w, Nat.mul_one, Nat.add_comm (w * r.length), Nat.pow_add, Nat.mul_add, Nat.mul_assoc, Nat.add_assoc]
theorem rowN_snoc (w : Nat) (l : List Nat) (n : Nat) : rowN w (l ++ [n]) = rowN w l + 2 ^ (w * l.length) * (n % 2 ^ w) := by
  rw [rowN_append]; simp [rowN]
theorem rowN_mod (w : Nat) : ∀ l : List Nat, rowN w (l.map (· % 2 ^ w)) = rowN w l
  | [] => rfl
  | n :: r => by rw [List.map_cons, rowN, rowN, rowN_mod w r, Nat.mod_mod]
theorem rowN_zero : ∀ l : List Nat, rowN 0 l = 0
  | [] => rfl
  | n :: r => by rw [rowN, rowN_zero r]; simp [Nat.mod_one]

theorem bytesOf_len : ∀ k N : Nat, (bytesOf k N).length = k
  | 0, _ => rfl
  | k + 1, N => by rw [bytesOf, List.length_cons, bytesOf_len k]
theorem bytesOf_get : ∀ (k N j : Nat), j < k → (bytesOf k N)[j]? = some (UInt8.ofNat (N / 256 ^ j % 256))
  | 0, _, _, h => absurd h (Nat.not_lt_zero _)
  | k + 1, N, 0, _ => by simp [bytesOf]
  | k + 1, N, j + 1, h => by
    rw [bytesOf, List.getElem?_cons_succ, bytesOf_get k (N / 256) j (by omega), Nat.div_div_eq_div_mul, Nat.pow_succ, Nat.mul_comm 256]
theorem bytesOf_zero : ∀ k : Nat, bytesOf k 0 = List.replicate k 0
  | 0 => rfl
  | k + 1 => by rw [bytesOf, Nat.zero_div, bytesOf_zero k, List.replicate_succ]; rfl
theorem n256_bytesOf : ∀ k N : Nat, N < 256 ^ k → n256 (bytesOf k N) = N
  | 0, N, h => by simp at h; simp [bytesOf, n256, h]
  | k + 1, N, h => by
    rw [bytesOf, n256, n256_bytesOf k (N / 256) (Nat.div_lt_of_lt_mul (by rw [Nat.mul_comm, ← Nat.pow_succ]; exact h)), UInt8.toNat_ofNat']
    omega
theorem bytesOf_n256 : ∀ b : List UInt8, bytesOf b.length (n256 b) = b
  | [] => rfl
  | c :: r => by
    have hc := c.toNat_lt
    rw [List.length_cons, bytesOf, n256, show (c.toNat + 256 * n256 r) % 256 = c.toNat by omega, show (c.toNat + 256 * n256 r) / 256 = n256 r by omega, bytesOf_n256 r]
    congr 1
    apply UInt8.toNat_inj.1; rw [UInt8.toNat_ofNat']; omega
theorem n256_lt : ∀ b : List UInt8, n256 b < 256 ^ b.length
  | [] => by simp [n256]
  | c :: r => by
    have ih := n256_lt r
    have hc := c.toNat_lt
    rw [n256, List.length_cons, Nat.pow_succ]
    omega
theorem n256_get : ∀ (b : List UInt8) (j : Nat) (h : j < b.length), (b[j]).toNat = n256 b / 256 ^ j % 256
  | c :: r, 0, h => by have hc := c.toNat_lt; simp only [List.getElem_cons_zero, n256, Nat.pow_zero, Nat.div_one]; omega
  | c :: r, j + 1, h => by
    have hc := c.toNat_lt
    rw [List.getElem_cons_succ, n256_get r j (by simpa using h), Nat.pow_succ, Nat.mul_comm _ 256, ← Nat.div_div_eq_div_mul, n256, show (c.toNat + 256 * n256 r) / 256 = n256 r by omega]

theorem digs_len (w : Nat) : ∀ n N : Nat, (digs w n N).length = n
  | 0, _ => rfl
  | n + 1, N => by rw [digs, List.length_cons, digs_len w n]
theorem digs_get (w : Nat) : ∀ (n N j : Nat), j < n → (digs w n N)[j]? = some (N / 2 ^ (w * j) % 2 ^ w)
  | 0, _, _, h => absurd h (Nat.not_lt_zero _)
  | n + 1, N, 0, _ => by simp [digs]
  | n + 1, N, j + 1, h => by
    rw [digs, List.getElem?_cons_succ, digs_get w n (N / 2 ^ w) j (by omega), Nat.div_div_eq_div_mul, ← Nat.pow_add, Nat.mul_add, Nat.mul_one, Nat.add_comm w]
theorem digs_lt (w : Nat) : ∀ (n N : Nat), ∀ x ∈ digs w n N, x < 2 ^ w
  | 0, _, _, h => by simp [digs] at h
  | n + 1, N, x, h => by
    rw [digs, List.mem_cons] at h
    rcases h with rfl | h
    · exact Nat.mod_lt _ (two_pos w)
    · exact digs_lt w n _ x h
theorem rowN_digs (w : Nat) : ∀ n N : Nat, N < 2 ^ (w * n) → rowN w (digs w n N) = N
  | 0, N, h => by simp at h; simp [digs, rowN, h]
  | n + 1, N, h => by
    rw [digs, rowN, rowN_digs w n (N / 2 ^ w) (Nat.div_lt_of_lt_mul (by rw [← Nat.pow_add, Nat.add_comm, ← Nat.mul_succ]; exact h)), Nat.mod_mod]
    exact Nat.mod_add_div N (2 ^ w)
theorem digs_rowN (w : Nat) : ∀ l : List Nat, digs w l.length (rowN w l) = l.map (· % 2 ^ w)
  | [] => rfl
  | n :: r => by
    have h := Nat.mod_lt n (two_pos w)
    rw [List.length_cons, digs, rowN, List.map_cons, Nat.add_mul_mod_self_left, Nat.mod_mod, Nat.add_mul_div_left _ _ (two_pos w), Nat.div_eq_of_lt h, Nat.zero_add, digs_rowN w r]

theorem packed_fits (n w : Nat) : 2 ^ (w * n) ≤ 256 ^ packed n w := by
  rw [show (256 : Nat) = 2 ^ 8 from rfl, ← Nat.pow_mul]
  refine Nat.pow_le_pow_right (by decide) ?_
  unfold packed
  rw [Nat.mul_comm n w]; omega
theorem bitsP_len (l : List Nat) (w : Nat) : (bitsP l w).length = packed l.length w := bytesOf_len _ _
theorem n256_bitsP (l : List Nat) (w : Nat) : n256 (bitsP l w) = rowN w l := n256_bytesOf _ _ (Nat.lt_of_lt_of_le (rowN_lt w l) (packed_fits _ _))
theorem map_mod_id {l : List Nat} {w : Nat} (h : ∀ x ∈ l, x < 2 ^ w) : l.map (· % 2 ^ w) = l := by
  induction l with
  | nil => rfl
  | cons n r ih => rw [List.map_cons, ih fun x hx => h x (List.mem_cons_of_mem _ hx), Nat.mod_eq_of_lt (h n List.mem_cons_self)]
theorem unbits_bits {l : List Nat} {w : Nat} (h : ∀ x ∈ l, x < 2 ^ w) : unbitsP (bitsP l w) w l.length = some l := by
  unfold unbitsP
  rw [n256_bitsP, if_pos ⟨bitsP_len _ _, rowN_lt w l⟩, digs_rowN, map_mod_id h]
theorem bits_unbits {b : List UInt8} {w n : Nat} {l : List Nat} (h : unbitsP b w n = some l) : bitsP l w = b ∧ l.length = n ∧ ∀ x ∈ l, x < 2 ^ w := by
  unfold unbitsP at h
  split at h
  · rename_i hh
    cases h
    refine ⟨?_, digs_len _ _ _, digs_lt _ _ _⟩
    unfold bitsP
    rw [digs_len, rowN_digs _ _ _ hh.2, ← hh.1, bytesOf_n256]
  · cases h

/-- how many bits a number has -/
def widN : Nat → Nat → Nat
  | 0, _ => 0
  | f + 1, n => if n = 0 then 0 else widN f (n / 2) + 1
theorem widN_le : ∀ (f n w : Nat), n < 2 ^ f → (widN f n ≤ w ↔ n < 2 ^ w)
  | 0, n, w, h => by
    simp at h; subst h
    simp [widN, two_pos]
  | f + 1, n, 0, h => by
    unfold widN
    by_cases h0 : n = 0
    · simp [h0]
    · simp [h0]
  | f + 1, n, w + 1, h => by
    have ih := widN_le f (n / 2) w (by rw [Nat.pow_succ] at h; omega)
    unfold widN
    have e : 2 ^ (w + 1) = 2 ^ w * 2 := Nat.pow_succ ..
    by_cases h0 : n = 0
    · have := two_pos (w + 1); simp [h0, this]
    · rw [if_neg h0, Nat.add_le_add_iff_right, ih]; omega
def wid (n : Nat) : Nat := widN 64 n
def widP (l : List Nat) : Nat := l.foldr (fun n m => max (wid n) m) 0
theorem wid_le {n w : Nat} (h : n < 18446744073709551616) : wid n ≤ w ↔ n < 2 ^ w := widN_le 64 n w h
theorem widN_64 : ∀ f n : Nat, widN f n ≤ f
  | 0, _ => Nat.le_refl _
  | f + 1, n => by
    unfold widN
    have := widN_64 f (n / 2)
    split <;> omega
theorem widP_64 : ∀ l : List Nat, widP l ≤ 64
  | [] => by simp [widP]
  | n :: r => by
    have h := widP_64 r
    have h2 : wid n ≤ 64 := widN_64 64 n
    show max (wid n) (widP r) ≤ 64
    omega
theorem widP_le {w : Nat} : ∀ {l : List Nat}, (∀ x ∈ l, x < 18446744073709551616) → (widP l ≤ w ↔ ∀ x ∈ l, x < 2 ^ w)
  | [], _ => by simp [widP]
  | n :: r, h => by
    have ih := widP_le (w := w) (l := r) fun x hx => h x (List.mem_cons_of_mem _ hx)
    show max (wid n) (widP r) ≤ w ↔ _
    rw [Nat.max_le, ih, wid_le (h n List.mem_cons_self), List.forall_mem_cons]
theorem widP_eq {l : List Nat} (h : ∀ x ∈ l, x < 18446744073709551616) {w : Nat} (h1 : ∀ x ∈ l, x < 2 ^ w) (h2 : ∀ v, (∀ x ∈ l, x < 2 ^ v) → w ≤ v) : widP l = w :=
  Nat.le_antisymm ((widP_le h).2 h1) (h2 _ ((widP_le h).1 (Nat.le_refl _)))
theorem widP_snoc (l : List Nat) (n : Nat) : widP (l ++ [n]) = max (widP l) (wid n) := by
  induction l with
  | nil => simp [widP]
  | cons a r ih =>
    show max (wid a) (widP (r ++ [n])) = max (max (wid a) (widP r)) (wid n)
    rw [ih]; omega

/-- one more piece of a number stands where nothing stood -/
theorem bytesOf_add {k N p at' m : Nat} (hN : N < 2 ^ at') (hp : p < 2 ^ m) (hk : at' / 8 < k) (hm : m + at' % 8 ≤ 8) :
    N / 256 ^ (at' / 8) < 2 ^ (at' % 8) ∧ bytesOf k (N + 2 ^ at' * p) = (bytesOf k N).set (at' / 8) (UInt8.ofNat (N / 256 ^ (at' / 8) + 2 ^ (at' % 8) * p)) := by
  have e256 : 256 ^ (at' / 8) = 2 ^ (8 * (at' / 8)) := by rw [show (256 : Nat) = 2 ^ 8 from rfl, ← Nat.pow_mul]
  have eat : 2 ^ at' = 256 ^ (at' / 8) * 2 ^ (at' % 8) := by rw [e256, ← Nat.pow_add]; congr 1; omega
  have h256 : 0 < 256 ^ (at' / 8) := Nat.pow_pos (by decide)
  have h1 : N / 256 ^ (at' / 8) < 2 ^ (at' % 8) := Nat.div_lt_of_lt_mul (by rw [← eat]; exact hN)
  refine ⟨h1, ?_⟩
  have hsum : N / 256 ^ (at' / 8) + 2 ^ (at' % 8) * p < 256 := by
    have h2 : 2 ^ (at' % 8) * (p + 1) ≤ 2 ^ (at' % 8) * 2 ^ m := Nat.mul_le_mul_left _ hp
    rw [← Nat.pow_add] at h2
    have h3 : 2 ^ (at' % 8 + m) ≤ 2 ^ 8 := Nat.pow_le_pow_right (by decide) (by omega)
    rw [Nat.mul_add, Nat.mul_one] at h2
    omega
  have e1 : (N + 2 ^ at' * p) / 256 ^ (at' / 8) = N / 256 ^ (at' / 8) + 2 ^ (at' % 8) * p := by
    rw [eat, Nat.mul_assoc, Nat.add_mul_div_left _ _ h256]
  apply List.ext_getElem?
  intro j
  by_cases hj : j < k
  · rw [bytesOf_get _ _ _ hj, List.getElem?_set]
    by_cases e : at' / 8 = j
    · subst e
      rw [if_pos rfl, bytesOf_len, if_pos hj, e1, Nat.mod_eq_of_lt hsum]
    · rw [if_neg e, bytesOf_get _ _ _ hj]
      congr 2
      by_cases hlt : j < at' / 8
      · -- below: the summand is a multiple of 256^(j+1)
        have e2 : 2 ^ at' = 256 ^ j * (256 * 2 ^ (at' - 8 * (j + 1))) := by
          rw [show (256 : Nat) ^ j = 2 ^ (8 * j) by rw [show (256 : Nat) = 2 ^ 8 from rfl, ← Nat.pow_mul], show (256 : Nat) = 2 ^ 8 from rfl, ← Nat.pow_add, ← Nat.pow_add]
          congr 1; omega
        rw [e2, Nat.mul_assoc, Nat.add_mul_div_left _ _ (Nat.pow_pos (by decide)), Nat.mul_assoc]
        omega
      · have hlt2 : at' / 8 + 1 ≤ j := by omega
        have e3 : 256 ^ j = 256 ^ (at' / 8) * (256 * 256 ^ (j - (at' / 8 + 1))) := by
          rw [← Nat.mul_assoc, ← Nat.pow_succ, ← Nat.pow_add]; congr 1; omega
        have h4 : 0 < 256 ^ (j - (at' / 8 + 1)) := Nat.pow_pos (by decide)
        have h5 : 256 ≤ 256 * 256 ^ (j - (at' / 8 + 1)) := Nat.le_mul_of_pos_right _ h4
        rw [e3, ← Nat.div_div_eq_div_mul (N + 2 ^ at' * p), ← Nat.div_div_eq_div_mul N, e1, Nat.div_eq_of_lt (Nat.lt_of_lt_of_le hsum h5), Nat.div_eq_of_lt]
        exact Nat.lt_of_lt_of_le (Nat.lt_of_lt_of_le h1 (Nat.pow_le_pow_right (by decide) (Nat.le_of_lt (Nat.mod_lt _ (by decide))))) h5
  · rw [List.getElem?_eq_none (by rw [bytesOf_len]; omega), List.getElem?_eq_none (by rw [List.length_set, bytesOf_len]; omega)]

/-- a piece of what stands at a place -/
theorem n256_piece {b : List UInt8} {at' m : Nat} (h : at' / 8 < b.length) (hm : m + at' % 8 ≤ 8) : (b[at' / 8]).toNat / 2 ^ (at' % 8) % 2 ^ m = n256 b / 2 ^ at' % 2 ^ m := by
  rw [n256_get b _ h]
  have e256 : 256 ^ (at' / 8) = 2 ^ (8 * (at' / 8)) := by rw [show (256 : Nat) = 2 ^ 8 from rfl, ← Nat.pow_mul]
  have eat : 2 ^ at' = 256 ^ (at' / 8) * 2 ^ (at' % 8) := by rw [e256, ← Nat.pow_add]; congr 1; omega
  rw [eat, ← Nat.div_div_eq_div_mul]
  generalize n256 b / 256 ^ (at' / 8) = x
  have e8 : (256 : Nat) = 2 ^ (at' % 8) * 2 ^ (8 - at' % 8) := by rw [← Nat.pow_add, show at' % 8 + (8 - at' % 8) = 8 by omega]
  rw [e8, Nat.mod_mul_right_div_self, Nat.mod_mod_of_dvd]
  exact Nat.pow_dvd_pow 2 (by omega)
theorem digit_grows (N a h m : Nat) : N / 2 ^ a % 2 ^ (h + m) = N / 2 ^ a % 2 ^ h + 2 ^ h * (N / 2 ^ (a + h) % 2 ^ m) := by
  rw [Nat.pow_add 2 h m, Nat.mod_mul, Nat.pow_add 2 a h, Nat.div_div_eq_div_mul]
theorem left_over {b : List UInt8} {at' : Nat} (h : at' / 8 < b.length) (hl : b.length = (at' + 7) / 8) : (b[at' / 8]).toNat / 2 ^ (at' % 8) = n256 b / 2 ^ at' := by
  have h1 := n256_piece (m := 8 - at' % 8) h (by omega)
  have h2 : (b[at' / 8]).toNat < 256 := (b[at' / 8]).toNat_lt
  have e8 : (256 : Nat) = 2 ^ (at' % 8) * 2 ^ (8 - at' % 8) := by rw [← Nat.pow_add, show at' % 8 + (8 - at' % 8) = 8 by omega]
  have h3 : (b[at' / 8]).toNat / 2 ^ (at' % 8) < 2 ^ (8 - at' % 8) := by
    refine Nat.div_lt_of_lt_mul ?_
    rw [← e8]; exact h2
  have h4 : n256 b / 2 ^ at' < 2 ^ (8 - at' % 8) := by
    refine Nat.div_lt_of_lt_mul ?_
    rw [← Nat.pow_add]
    refine Nat.lt_of_lt_of_le (n256_lt b) ?_
    rw [show (256 : Nat) = 2 ^ 8 from rfl, ← Nat.pow_mul]
    exact Nat.pow_le_pow_right (by decide) (by omega)
  rw [Nat.mod_eq_of_lt h3, Nat.mod_eq_of_lt h4] at h1
  exact h1
end Go.Proofs.Ytdoliejihinpkaa
