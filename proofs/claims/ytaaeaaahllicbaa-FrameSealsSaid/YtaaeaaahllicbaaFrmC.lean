/- Plain: the check of bytes, bit by bit and by a table of 16; one short burst is always seen. -/
namespace Go.Proofs.Ytaaeaaahllicbaa
namespace Crc
def pol : Nat := 3988292384
def stp (c : Nat) (b : Bool) : Nat := if (c % 2 == 1) != b then (c / 2) ^^^ pol else c / 2
def run (c : Nat) (l : List Bool) : Nat := l.foldl stp c
def bitsB (x : UInt8) : List Bool := (List.range 8).map fun k => x.toNat / 2 ^ k % 2 == 1
def bitsL (l : List UInt8) : List Bool := l.flatMap bitsB
def crcP (l : List UInt8) : Nat := run 4294967295 (bitsL l) ^^^ 4294967295
theorem run_nil (c : Nat) : run c [] = c := rfl
theorem run_cons (c : Nat) (b : Bool) (l : List Bool) : run c (b :: l) = run (stp c b) l := rfl
theorem run_append (c : Nat) (l m : List Bool) : run c (l ++ m) = run (run c l) m := by unfold run; rw [List.foldl_append]
theorem run_snoc (c : Nat) (l : List Bool) (b : Bool) : run c (l ++ [b]) = stp (run c l) b := by rw [run_append]; rfl
theorem bitsB_len (x : UInt8) : (bitsB x).length = 8 := by unfold bitsB; simp
theorem bitsL_len (l : List UInt8) : (bitsL l).length = 8 * l.length := by
  induction l with
  | nil => rfl
  | cons x r ih => show (bitsB x ++ bitsL r).length = _; rw [List.length_append, bitsB_len, ih, List.length_cons]; omega
theorem bitsL_append (l m : List UInt8) : bitsL (l ++ m) = bitsL l ++ bitsL m := by unfold bitsL; rw [List.flatMap_append]
theorem half_xor (c d : Nat) : (c ^^^ d) / 2 = c / 2 ^^^ d / 2 := by
  apply Nat.eq_of_testBit_eq; intro i
  rw [Nat.testBit_div_two, Nat.testBit_xor, Nat.testBit_xor, Nat.testBit_div_two, Nat.testBit_div_two]
theorem low_xor (c d : Nat) : ((c ^^^ d) % 2 == 1) = ((c % 2 == 1) != (d % 2 == 1)) := by
  have h := Nat.testBit_xor c d 0
  simp only [Nat.testBit_zero] at h
  have a (n : Nat) : (n % 2 == 1) = decide (n % 2 = 1) := rfl
  rw [a, a, a, h]
theorem stp_xor (c d : Nat) (b e : Bool) : stp (c ^^^ d) (b != e) = stp c b ^^^ stp d e := by
  unfold stp
  rw [low_xor, half_xor]
  generalize (c % 2 == 1) = p
  generalize (d % 2 == 1) = q
  generalize c / 2 = x
  generalize d / 2 = y
  have h1 : x ^^^ y ^^^ pol = x ^^^ pol ^^^ y := by rw [Nat.xor_assoc, Nat.xor_comm y, ← Nat.xor_assoc]
  have h2 : x ^^^ y = x ^^^ pol ^^^ (y ^^^ pol) := by
    rw [Nat.xor_comm y, ← Nat.xor_assoc, Nat.xor_assoc x, Nat.xor_self, Nat.xor_zero]
  cases p <;> cases q <;> cases b <;> cases e <;> simp <;> first | exact h1 | exact h2 | exact h1.trans (by rw [Nat.xor_assoc, Nat.xor_comm pol, ← Nat.xor_assoc]) | (rw [Nat.xor_assoc])
def xorL : List Bool → List Bool → List Bool
  | b :: l, e :: m => (b != e) :: xorL l m
  | _, _ => []
theorem run_xor : ∀ (l m : List Bool) (c d : Nat), l.length = m.length → run (c ^^^ d) (xorL l m) = run c l ^^^ run d m
  | [], [], _, _, _ => rfl
  | b :: l, e :: m, c, d, h => by
    show run (stp (c ^^^ d) (b != e)) (xorL l m) = _
    rw [stp_xor, run_xor l m _ _ (by simpa using h)]; rfl
theorem pol_big : 2147483648 ≤ pol := by decide
theorem pol_lt : pol < 4294967296 := by decide
theorem stp_lt {c : Nat} (h : c < 4294967296) (b : Bool) : stp c b < 4294967296 := by
  unfold stp
  split
  · exact Nat.xor_lt_two_pow (n := 32) (by omega) pol_lt
  · omega
theorem run_lt : ∀ (l : List Bool) {c : Nat}, c < 4294967296 → run c l < 4294967296
  | [], _, h => h
  | b :: l, _, h => run_lt l (stp_lt h b)
theorem top_xor {x : Nat} (h : x < 2147483648) : 2147483648 ≤ x ^^^ pol := by
  have h1 : (x ^^^ pol).testBit 31 = true := by
    rw [Nat.testBit_xor, Nat.testBit_lt_two_pow (i := 31) h]; decide
  exact Nat.ge_two_pow_of_testBit h1
theorem stp_small {c : Nat} (hc : c < 4294967296) {b : Bool} (h : stp c b < 2147483648) : stp c b = c / 2 ∧ (c % 2 == 1) = b := by
  unfold stp at *
  by_cases hb : ((c % 2 == 1) != b) = true
  · rw [if_pos hb] at h
    have := top_xor (x := c / 2) (by omega)
    omega
  · rw [if_neg hb]
    exact ⟨rfl, by simpa using hb⟩
theorem run_zero_lt : ∀ (l : List Bool) {c : Nat}, c < 4294967296 → l.length ≤ 32 → run c l = 0 → c < 2 ^ l.length
  | [], c, _, _, h => by have : c = 0 := h; subst this; decide
  | b :: l, c, hc, hl, h => by
    rw [List.length_cons] at hl ⊢
    have ih := run_zero_lt l (stp_lt hc b) (by omega) h
    have h1 : (2 : Nat) ^ l.length ≤ 2 ^ 31 := Nat.pow_le_pow_right (by decide) (by omega)
    have h2 := (stp_small hc (b := b) (by omega)).1
    rw [h2] at ih
    rw [Nat.pow_succ]; omega
theorem run_zeros : ∀ (n : Nat), run 0 (List.replicate n false) = 0
  | 0 => rfl
  | n + 1 => by rw [List.replicate_succ, run_cons]; exact run_zeros n
theorem run_tail : ∀ (n : Nat) {c : Nat}, c < 4294967296 → run c (List.replicate n false) = 0 → c = 0
  | 0, _, _, h => h
  | n + 1, c, hc, h => by
    rw [List.replicate_succ, run_cons] at h
    have h1 := run_tail n (stp_lt hc false) h
    have h2 := stp_small hc (b := false) (by omega)
    rw [h1] at h2
    have h3 : ¬ c % 2 = 1 := by have := h2.2; simpa using this
    omega
/-- no short burst leaves the state at zero -/
theorem run_burst : ∀ (l : List Bool), l.length ≤ 32 → run 0 l = 0 → l = List.replicate l.length false
  | [], _, _ => rfl
  | false :: l, hl, h => by
    have := run_burst l (by simp at hl; omega) h
    rw [List.length_cons, List.replicate_succ, ← this]
  | true :: l, hl, h => by
    rw [List.length_cons] at hl
    have h1 := run_zero_lt l (c := stp 0 true) (stp_lt (by decide) _) (by omega) h
    have h2 : stp 0 true = pol := by decide
    have h3 : (2 : Nat) ^ l.length ≤ 2 ^ 31 := Nat.pow_le_pow_right (by decide) (by omega)
    have := pol_big
    rw [h2] at h1
    omega
/-- two rows of bits that differ in one short burst have not the same state -/
theorem run_differ {c : Nat} {l m e : List Bool} {a b : Nat} (hlen : l.length = m.length) (hx : xorL l m = List.replicate a false ++ e ++ List.replicate b false) (he : e.length ≤ 32) (h : run c l = run c m) : e = List.replicate e.length false := by
  have h1 := run_xor l m c c hlen
  rw [h, Nat.xor_self, Nat.xor_self, hx, run_append, run_append, run_zeros] at h1
  exact run_burst e he (run_tail b (run_lt e (by decide)) h1)
theorem xor_cancel {a b : Nat} (h : a ^^^ b = 0) : a = b := by
  have h1 : a ^^^ b ^^^ b = 0 ^^^ b := by rw [h]
  rwa [Nat.xor_assoc, Nat.xor_self, Nat.xor_zero, Nat.zero_xor] at h1
/-- the lowest n bits -/
def bitsN (n c : Nat) : List Bool := (List.range n).map fun k => c / 2 ^ k % 2 == 1
theorem bitsN_succ (n c : Nat) : bitsN (n + 1) c = (c % 2 == 1) :: bitsN n (c / 2) := by
  unfold bitsN
  rw [List.range_succ_eq_map, List.map_cons, List.map_map]
  congr 1
  · simp
  · apply List.map_congr_left
    intro k _
    show (c / 2 ^ (k + 1) % 2 == 1) = (c / 2 / 2 ^ k % 2 == 1)
    rw [Nat.pow_succ, Nat.mul_comm, Nat.div_div_eq_div_mul]
theorem run_own : ∀ (n c : Nat), run c (bitsN n c) = c / 2 ^ n
  | 0, c => by show c = _; simp
  | n + 1, c => by
    rw [bitsN_succ, run_cons]
    have : stp c (c % 2 == 1) = c / 2 := by unfold stp; simp
    rw [this, run_own n, Nat.div_div_eq_div_mul, Nat.pow_succ, Nat.mul_comm]
theorem bitsN_xor : ∀ (n c d : Nat), bitsN n (c ^^^ d) = xorL (bitsN n c) (bitsN n d)
  | 0, _, _ => rfl
  | n + 1, c, d => by
    rw [bitsN_succ, bitsN_succ, bitsN_succ, low_xor, half_xor, bitsN_xor n]; rfl
theorem bitsN_len (n c : Nat) : (bitsN n c).length = n := by unfold bitsN; simp
theorem bitsN_add : ∀ (n m c : Nat), bitsN (n + m) c = bitsN n c ++ bitsN m (c / 2 ^ n)
  | 0, m, c => by simp [bitsN]
  | n + 1, m, c => by
    rw [show n + 1 + m = (n + m) + 1 by omega, bitsN_succ, bitsN_succ, bitsN_add n m, Nat.div_div_eq_div_mul, Nat.pow_succ, Nat.mul_comm 2]; rfl
theorem bitsN_mod (n c : Nat) : bitsN n (c % 2 ^ n) = bitsN n c := by
  unfold bitsN
  apply List.map_congr_left
  intro k hk
  have hk := List.mem_range.1 hk
  have h := Nat.testBit_mod_two_pow c n k
  simp only [Nat.testBit_eq_decide_div_mod_eq, hk, decide_true, Bool.true_and] at h
  have a (n : Nat) : (n % 2 == 1) = decide (n % 2 = 1) := rfl
  rw [a, a, h]
theorem bitsB_eq (x : UInt8) : bitsB x = bitsN 8 x.toNat := rfl
def le4 (v : Nat) : List UInt8 := [UInt8.ofNat (v % 256), UInt8.ofNat (v / 256 % 256), UInt8.ofNat (v / 65536 % 256), UInt8.ofNat (v / 16777216 % 256)]
theorem bitsB_of (n : Nat) : bitsB (UInt8.ofNat (n % 256)) = bitsN 8 n := by
  rw [bitsB_eq, UInt8.toNat_ofNat', Nat.mod_mod]
  exact bitsN_mod 8 n
theorem bitsL_le4 (v : Nat) : bitsL (le4 v) = bitsN 32 v := by
  show bitsB _ ++ (bitsB _ ++ (bitsB _ ++ (bitsB _ ++ []))) = _
  rw [bitsB_of, bitsB_of, bitsB_of, bitsB_of, List.append_nil]
  rw [show (32 : Nat) = 8 + (8 + (8 + 8)) from rfl, bitsN_add, bitsN_add, bitsN_add, Nat.div_div_eq_div_mul, Nat.div_div_eq_div_mul]
def resid : Nat := run 0 (bitsN 32 4294967295)
/-- bytes with their check behind them leave one state -/
theorem run_sealed (m : List UInt8) : run 4294967295 (bitsL (m ++ le4 (crcP m))) = resid := by
  rw [bitsL_append, run_append, bitsL_le4]
  unfold crcP
  have hc : run 4294967295 (bitsL m) < 4294967296 := run_lt _ (by decide)
  generalize run 4294967295 (bitsL m) = c at hc ⊢
  rw [bitsN_xor]
  have h := run_xor (bitsN 32 c) (bitsN 32 4294967295) c 0 (by rw [bitsN_len, bitsN_len])
  rw [Nat.xor_zero] at h
  rw [h, run_own, Nat.div_eq_of_lt (by omega), Nat.zero_xor]; rfl
theorem crcP_lt (m : List UInt8) : crcP m < 4294967296 := Nat.xor_lt_two_pow (n := 32) (run_lt _ (by decide)) (by decide)
theorem xorL_len : ∀ (l m : List Bool), l.length = m.length → (xorL l m).length = l.length
  | [], [], _ => rfl
  | b :: l, e :: m, h => by show (xorL l m).length + 1 = _; rw [xorL_len l m (by simpa using h), List.length_cons]
theorem xorL_get : ∀ (l m : List Bool) (k : Nat), l.length = m.length → (xorL l m)[k]? = (l[k]?).bind fun b => (m[k]?).map fun e => b != e
  | [], [], _, _ => rfl
  | b :: l, e :: m, 0, _ => rfl
  | b :: l, e :: m, k + 1, h => by
    show (xorL l m)[k]? = _
    rw [xorL_get l m k (by simpa using h)]; rfl
theorem bitsB_get (x : UInt8) {k : Nat} (h : k < 8) : (bitsB x)[k]? = some (x.toNat / 2 ^ k % 2 == 1) := by
  unfold bitsB
  rw [List.getElem?_map, List.getElem?_range h]; rfl
theorem bitsL_get : ∀ (l : List UInt8) (j : Nat), (bitsL l)[j]? = (l[j / 8]?).map fun x => x.toNat / 2 ^ (j % 8) % 2 == 1
  | [], j => by simp [bitsL]
  | x :: r, j => by
    show (bitsB x ++ bitsL r)[j]? = _
    by_cases h : j < 8
    · rw [List.getElem?_append_left (by rw [bitsB_len]; exact h), bitsB_get x h, Nat.div_eq_of_lt h, Nat.mod_eq_of_lt h]; rfl
    · rw [List.getElem?_append_right (by rw [bitsB_len]; omega), bitsB_len, bitsL_get r (j - 8)]
      have e1 : j / 8 = (j - 8) / 8 + 1 := by omega
      have e2 : j % 8 = (j - 8) % 8 := by omega
      rw [e1, e2]; rfl
/-- one bit of a byte turned -/
def turnB (x : UInt8) (k : Nat) : UInt8 := UInt8.ofNat (x.toNat ^^^ 2 ^ k)
def turnL (l : List UInt8) (j : Nat) : List UInt8 := l.modify (j / 8) fun x => turnB x (j % 8)
theorem turnL_len (l : List UInt8) (j : Nat) : (turnL l j).length = l.length := by unfold turnL; simp
theorem turnB_bit (x : UInt8) {k : Nat} (hk : k < 8) (i : Nat) : ((turnB x k).toNat / 2 ^ i % 2 == 1) = ((x.toNat / 2 ^ i % 2 == 1) != (i == k)) := by
  unfold turnB
  have hx := x.toNat_lt
  have h2 : 2 ^ k < 2 ^ 8 := Nat.pow_lt_pow_right (by decide) hk
  have h3 : x.toNat ^^^ 2 ^ k < 256 := Nat.xor_lt_two_pow (n := 8) hx h2
  rw [UInt8.toNat_ofNat', Nat.mod_eq_of_lt h3]
  have h := Nat.testBit_xor x.toNat (2 ^ k) i
  rw [Nat.testBit_two_pow] at h
  simp only [Nat.testBit_eq_decide_div_mod_eq] at h
  have a (n : Nat) : (n % 2 == 1) = decide (n % 2 = 1) := rfl
  rw [a, a, h]
  congr 1
  rw [Bool.eq_iff_iff]; simp; exact eq_comm
theorem turnL_bits (l : List UInt8) {j : Nat} (hj : j < 8 * l.length) (i : Nat) : (bitsL (turnL l j))[i]? = ((bitsL l)[i]?).map fun b => b != (i == j) := by
  rw [bitsL_get, bitsL_get]
  unfold turnL
  rw [List.getElem?_modify]
  by_cases h : j / 8 = i / 8
  · simp only [if_pos h]
    cases l[i / 8]? with
    | none => rfl
    | some x =>
      show some ((turnB x (j % 8)).toNat / 2 ^ (i % 8) % 2 == 1) = some ((x.toNat / 2 ^ (i % 8) % 2 == 1) != (i == j))
      rw [turnB_bit x (Nat.mod_lt _ (by decide))]
      congr 2
      rw [Bool.eq_iff_iff]; simp; omega
  · simp only [if_neg h]
    cases l[i / 8]? with
    | none => rfl
    | some x =>
      show some _ = some _
      have : (i == j) = false := by simp; rintro rfl; exact h rfl
      rw [this]; simp
/-- what k bits of a burst from a place on do -/
def hitL (l : List UInt8) (a burst : Nat) : Nat → List UInt8
  | 0 => l
  | k + 1 => if burst / 2 ^ k % 2 = 1 then turnL (hitL l a burst k) (a + k) else hitL l a burst k
theorem hitL_len (l : List UInt8) (a burst : Nat) : ∀ k, (hitL l a burst k).length = l.length
  | 0 => rfl
  | k + 1 => by unfold hitL; split <;> simp [turnL_len, hitL_len l a burst k]
theorem hitL_bits (l : List UInt8) (a burst : Nat) : ∀ k, a + k ≤ 8 * l.length → ∀ i : Nat, (bitsL (hitL l a burst k))[i]? = ((bitsL l)[i]?).map fun b => b != (decide (a ≤ i ∧ i < a + k) && burst / 2 ^ (i - a) % 2 == 1)
  | 0, _, i => by
    have : decide (a ≤ i ∧ i < a + 0) = false := decide_eq_false (by omega)
    simp only [this, Bool.false_and]
    unfold hitL
    cases (bitsL l)[i]? <;> simp
  | k + 1, h, i => by
    have ih := hitL_bits l a burst k (by omega) i
    unfold hitL
    by_cases hb : burst / 2 ^ k % 2 = 1
    · rw [if_pos hb, turnL_bits _ (by rw [hitL_len]; omega), ih]
      cases (bitsL l)[i]? with
      | none => rfl
      | some b =>
        show some _ = some _
        congr 1
        by_cases e : i = a + k
        · subst e
          simp [hb]
        · have h1 : (i == a + k) = false := by simpa using e
          have h2 : decide (a ≤ i ∧ i < a + (k + 1)) = decide (a ≤ i ∧ i < a + k) := by rw [decide_eq_decide]; omega
          simp only [h1, h2]; simp
    · rw [if_neg hb, ih]
      cases (bitsL l)[i]? with
      | none => rfl
      | some b =>
        show some _ = some _
        congr 2
        by_cases e : i = a + k
        · subst e
          have h3 : (burst / 2 ^ k % 2 == 1) = false := by simpa using hb
          simp [h3]
        · have h2 : decide (a ≤ i ∧ i < a + (k + 1)) = decide (a ≤ i ∧ i < a + k) := by rw [decide_eq_decide]; omega
          rw [h2]
theorem hitL_xor {l : List UInt8} {a burst k : Nat} (h : a + k ≤ 8 * l.length) : xorL (bitsL l) (bitsL (hitL l a burst k)) = List.replicate a false ++ bitsN k burst ++ List.replicate (8 * l.length - a - k) false := by
  apply List.ext_getElem?
  intro i
  rw [xorL_get _ _ _ (by rw [bitsL_len, bitsL_len, hitL_len]), hitL_bits l a burst k h]
  have hlen := bitsL_len l
  by_cases hi : i < 8 * l.length
  · obtain ⟨b, hb⟩ : ∃ b, (bitsL l)[i]? = some b := ⟨_, List.getElem?_eq_getElem (by omega)⟩
    rw [hb]
    show some (b != (b != _)) = _
    have hx (c : Bool) : (b != (b != c)) = c := by cases b <;> cases c <;> rfl
    rw [hx]
    by_cases h1 : i < a
    · rw [List.append_assoc, List.getElem?_append_left (by simpa using h1), List.getElem?_replicate, if_pos h1]
      have : decide (a ≤ i ∧ i < a + k) = false := by simp; omega
      rw [this]; rfl
    · by_cases h2 : i < a + k
      · rw [List.getElem?_append_left (by simp [bitsN_len]; omega), List.getElem?_append_right (by simp; omega), List.length_replicate]
        unfold bitsN
        rw [List.getElem?_map, List.getElem?_range (by omega)]
        have : decide (a ≤ i ∧ i < a + k) = true := by simp; omega
        rw [this]; rfl
      · rw [List.getElem?_append_right (by simp [bitsN_len]; omega), List.getElem?_replicate, if_pos (by simp [bitsN_len]; omega)]
        have : decide (a ≤ i ∧ i < a + k) = false := by simp; omega
        rw [this]; rfl
  · rw [List.getElem?_eq_none (by omega), List.getElem?_eq_none (by simp [bitsN_len]; omega)]; rfl
theorem bitsN_false {n c k : Nat} (hk : k < n) (h : bitsN n c = List.replicate n false) : ¬ c / 2 ^ k % 2 = 1 := by
  have h1 := congrArg (fun z => z[k]?) h
  unfold bitsN at h1
  simp only [List.getElem?_map, List.getElem?_range hk, List.getElem?_replicate, if_pos hk, Option.map_some] at h1
  injection h1 with h1
  simpa using h1
/-- P4.5: bytes whose check is right, altered by one short burst, have not the right check -/
theorem burst_seen {l : List UInt8} {a burst k j : Nat} (h : a + k ≤ 8 * l.length) (hk : k ≤ 32) (hj : j < k) (hb : burst / 2 ^ j % 2 = 1) (h1 : run 4294967295 (bitsL l) = resid) : run 4294967295 (bitsL (hitL l a burst k)) ≠ resid := by
  intro h2
  have h3 := run_differ (c := 4294967295) (by rw [bitsL_len, bitsL_len, hitL_len]) (hitL_xor h) (by rw [bitsN_len]; exact hk) (h1.trans h2.symm)
  rw [bitsN_len] at h3
  exact bitsN_false hj h3 hb
/-- four bits at once, by a table -/
def tabP (n : Nat) : Nat := run n (List.replicate 4 false)
theorem xorL_zero : ∀ (l : List Bool), xorL (List.replicate l.length false) l = l
  | [] => rfl
  | b :: l => by
    rw [List.length_cons, List.replicate_succ]
    show (false != b) :: xorL (List.replicate l.length false) l = _
    rw [xorL_zero l]; cases b <;> rfl
theorem run_shift : ∀ (n y : Nat), run (2 ^ n * y) (List.replicate n false) = y
  | 0, y => by simp [run_nil]
  | n + 1, y => by
    rw [List.replicate_succ, run_cons]
    have e : 2 ^ (n + 1) * y = 2 * (2 ^ n * y) := by rw [Nat.pow_succ, Nat.mul_comm (2 ^ n), Nat.mul_assoc]
    have h : stp (2 ^ (n + 1) * y) false = 2 ^ n * y := by
      rw [e]
      unfold stp
      have h1 : (2 * (2 ^ n * y) % 2 == 1) = false := by simp
      rw [h1]
      show (if (false != false) = true then _ else 2 * (2 ^ n * y) / 2) = _
      rw [if_neg (by decide)]; omega
    rw [h, run_shift n y]
theorem split16 (y : Nat) : y = 16 * (y / 16) ^^^ y % 16 := by
  apply Nat.eq_of_testBit_eq
  intro i
  rw [Nat.testBit_xor, show (16 : Nat) = 2 ^ 4 from rfl, Nat.testBit_two_pow_mul, Nat.testBit_mod_two_pow, Nat.testBit_div_two_pow]
  by_cases h : i < 4
  · have h2 : ¬ 4 ≤ i := by omega
    simp [h, h2]
  · have h2 : 4 ≤ i := by omega
    simp [h, h2]
theorem nib_step (c : Nat) {x : Nat} (hx : x < 16) : run c (bitsN 4 x) = (c ^^^ x) / 16 ^^^ tabP ((c ^^^ x) % 16) := by
  have h1 := run_xor (List.replicate 4 false) (bitsN 4 x) (c ^^^ x) x (by rw [bitsN_len]; rfl)
  have h2 := xorL_zero (bitsN 4 x)
  rw [bitsN_len] at h2
  rw [h2, Nat.xor_assoc, Nat.xor_self, Nat.xor_zero, run_own, Nat.div_eq_of_lt (by omega), Nat.xor_zero] at h1
  rw [h1]
  generalize c ^^^ x = y
  have h3 := run_xor (List.replicate 4 false) (List.replicate 4 false) (16 * (y / 16)) (y % 16) rfl
  rw [← split16 y] at h3
  have h4 : xorL (List.replicate 4 false) (List.replicate 4 false) = List.replicate 4 false := rfl
  have h5 := run_shift 4 (y / 16)
  rw [h4] at h3
  rw [h3]
  unfold tabP
  rw [show (16 : Nat) = 2 ^ 4 from rfl, h5]
theorem byte_nibs (x : UInt8) : bitsB x = bitsN 4 (x.toNat % 16) ++ bitsN 4 (x.toNat / 16) := by
  rw [bitsB_eq, show (8 : Nat) = 4 + 4 from rfl, bitsN_add, bitsN_mod 4]
end Crc
end Go.Proofs.Ytaaeaaahllicbaa
