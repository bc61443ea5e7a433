/- Stage 7 (PLAIN): what the program's reader takes, and that its decimals are the document's; the library's numerals. -/
import Derived.Test.YtghghekdheeknaaDoorOrdM
import Derived.Test.YtghghekdheeknaaDoorOrdN
import Derived.Test.YtghghekdheeknaaDoorOrdO
import Derived.Lib.ParseIntBTie
import Derived.Lib.ParseIntBCases
import Derived.Lib.ItoaNum
namespace Go.Proofs.YtghghekdheeknaaDoor
namespace Odr
/-- what is taken: at most m bytes, as long as they belong -/
def tk (p : UInt8 → Bool) (m : Nat) (l : List UInt8) : List UInt8 := (l.take m).takeWhile p
def rs (p : UInt8 → Bool) (m : Nat) (l : List UInt8) : List UInt8 := l.drop (tk p m l).length
theorem tw_pre (p : UInt8 → Bool) (l : List UInt8) : l = l.takeWhile p ++ l.dropWhile p := (List.takeWhile_append_dropWhile ..).symm
theorem tk_rs (p : UInt8 → Bool) (m : Nat) (l : List UInt8) : tk p m l ++ rs p m l = l := by
  unfold rs tk
  have h := tw_pre p (l.take m)
  have h2 : (l.take m).takeWhile p = l.take ((l.take m).takeWhile p).length := by
    have e : ((l.take m).takeWhile p).length ≤ m := Nat.le_trans (List.IsPrefix.length_le (List.takeWhile_prefix _)) (by simp [List.length_take]; omega)
    have e2 : (l.take m).takeWhile p = (l.take m).take ((l.take m).takeWhile p).length := List.prefix_iff_eq_take.1 (List.takeWhile_prefix p)
    rw [List.take_take, Nat.min_eq_left e] at e2
    exact e2
  conv => lhs; arg 1; rw [h2]
  exact List.take_append_drop ..
theorem tk_all {p : UInt8 → Bool} {m : Nat} {l : List UInt8} (h : (l.takeWhile p).length ≤ m) : tk p m l = l.takeWhile p ∧ rs p m l = l.dropWhile p := by
  have h1 : tk p m l = l.takeWhile p := by
    unfold tk
    induction l generalizing m with
    | nil => simp
    | cons c t ih =>
      by_cases hc : p c = true
      · rw [List.takeWhile_cons, hc] at h ⊢
        simp only [if_true, List.length_cons] at h ⊢
        obtain ⟨k, rfl⟩ : ∃ k, m = k + 1 := ⟨m - 1, by omega⟩
        rw [List.take_succ_cons, List.takeWhile_cons, hc, if_pos rfl, ih (by omega)]
      · cases m with
        | zero => simp [List.takeWhile_cons, hc]
        | succ k => simp [List.takeWhile_cons, hc]
  refine ⟨h1, ?_⟩
  have h2 := tk_rs p m l
  rw [h1] at h2
  have h3 := tw_pre p l
  exact List.append_cancel_left (h2.trans h3)
theorem tk_more {p : UInt8 → Bool} {m : Nat} {l : List UInt8} (h : m < (l.takeWhile p).length) : (tk p m l).length = m ∧ ∃ c t, rs p m l = c :: t ∧ p c = true := by
  induction l generalizing m with
  | nil => simp at h
  | cons c t ih =>
    by_cases hc : p c = true
    · rw [List.takeWhile_cons, hc] at h
      simp only [if_true, List.length_cons] at h
      cases m with
      | zero => exact ⟨by simp [tk], c, t, by simp [rs, tk], hc⟩
      | succ k =>
        obtain ⟨h1, h2⟩ := ih (m := k) (by omega)
        have e : tk p (k + 1) (c :: t) = c :: tk p k t := by unfold tk; rw [List.take_succ_cons, List.takeWhile_cons, hc, if_pos rfl]
        refine ⟨by rw [e, List.length_cons, h1], ?_⟩
        have e2 : rs p (k + 1) (c :: t) = rs p k t := by unfold rs; rw [e]; rfl
        rw [e2]; exact h2
    · rw [List.takeWhile_cons] at h; simp [hc] at h
theorem tk_le (p : UInt8 → Bool) (m : Nat) (l : List UInt8) : (tk p m l).length ≤ m ∧ (tk p m l).length ≤ l.length := by
  have h := List.IsPrefix.length_le (List.takeWhile_prefix p (l := l.take m))
  rw [List.length_take] at h
  unfold tk; omega
theorem tk_dig {m : Nat} {l : List UInt8} : ∀ c ∈ tk isDig m l, isDig c = true := by
  intro c hc
  have := List.all_takeWhile (p := isDig) (l := l.take m)
  rw [List.all_eq_true] at this
  exact this c hc
def is45 (c : UInt8) : Bool := c == 45
def is46 (c : UInt8) : Bool := c == 46
/-- the digits of a decimal's number, behind a minus if it has one -/
def scaledF (s : List UInt8) (sc : Nat) : Option (List UInt8) :=
  let r1 := rs is45 1 s
  let r2 := rs isDig 19 r1
  let w := tk isDig 19 r1
  if w = [] ∨ (1 < w.length ∧ w.head? = some 48) then none
  else
    let p := tk is46 (min sc 1) r2
    let r3 := rs is46 (min sc 1) r2
    let f := tk isDig (sc * p.length) r3
    if f.length < p.length ∨ rs isDig (sc * p.length) r3 ≠ [] then none
    else some (tk is45 1 s ++ w ++ f ++ List.replicate (sc - f.length) 48)
theorem isDig_iff {c : UInt8} : isDig c = true ↔ 48 ≤ c.toNat ∧ c.toNat ≤ 57 := by unfold isDig; exact decide_eq_true_iff
/-- the library's reading of digits -/
theorem parse_dig : ∀ (l : List UInt8) (acc : Nat), (∀ c ∈ l, isDig c = true) → acc ≤ 18446744073709551615 → Lib.parseUintM 18446744073709551615 acc l = if acc * 10 ^ l.length + vals l ≤ 18446744073709551615 then .ok (acc * 10 ^ l.length + vals l) else .range
  | [], acc, _, ha => by rw [Lib.parseUintM, if_pos (by simp [vals]; exact ha)]; simp [vals]
  | c :: t, acc, h, ha => by
    have hc := isDig_iff.1 (h c (List.mem_cons_self ..))
    have hp : 1 ≤ 10 ^ t.length := Nat.pow_pos (by decide)
    rw [Lib.parseUintM, if_pos hc, vals_cons, List.length_cons, Nat.pow_succ]
    have hd : dval c = c.toNat - 48 := rfl
    have hs : acc * (10 ^ t.length * 10) + (dval c * 10 ^ t.length + vals t) = (acc * 10 + dval c) * 10 ^ t.length + vals t := by
      rw [Nat.add_mul, Nat.mul_assoc, Nat.mul_comm 10, Nat.add_assoc]
    rw [hs, ← hd]
    have hle : acc * 10 + dval c ≤ (acc * 10 + dval c) * 10 ^ t.length := Nat.le_mul_of_pos_right _ hp
    by_cases h1 : 1844674407370955162 ≤ acc
    · rw [if_pos h1, if_neg (by omega)]
    · by_cases h2 : 18446744073709551615 < acc * 10 + dval c
      · rw [if_neg h1, if_pos h2, if_neg (by omega)]
      · rw [if_neg h1, if_neg h2]
        exact parse_dig t _ (fun x hx => h x (List.mem_cons_of_mem _ hx)) (by omega)
theorem parse_num {l : List UInt8} (h : ∀ c ∈ l, isDig c = true) (hne : l ≠ []) : Lib.parseUintB 64 l = if vals l ≤ 18446744073709551615 then .ok (vals l) else .range := by
  unfold Lib.parseUintB
  rw [if_neg hne, show 2 ^ 64 - 1 = 18446744073709551615 from rfl, parse_dig l 0 h (by omega)]
  simp
theorem parse_plain {l : List UInt8} (h : ∀ c ∈ l, isDig c = true) (hne : l ≠ []) : Lib.parseIntB 64 l = if vals l ≤ 9223372036854775807 then .ok (vals l : Int) else .range := by
  obtain ⟨c, r, rfl⟩ : ∃ c r, l = c :: r := by cases l with | nil => exact absurd rfl hne | cons c r => exact ⟨c, r, rfl⟩
  have hc := isDig_iff.1 (h c (List.mem_cons_self ..))
  have e := parse_num h hne
  unfold Lib.parseIntB
  dsimp only
  rw [if_neg (show ¬ (c.toNat = 43 ∨ c.toNat = 45) by omega), e]
  simp only [show ¬ c.toNat = 45 by omega, not_false_eq_true, true_and, false_and, if_false]
  by_cases h1 : vals (c :: r) ≤ 18446744073709551615
  · rw [if_pos h1]
    simp only [show 2 ^ (64 - 1) = 9223372036854775808 from rfl]
    by_cases h2 : vals (c :: r) ≤ 9223372036854775807
    · rw [if_pos h2, if_neg (by omega)]
    · rw [if_neg h2, if_pos (by omega)]
  · rw [if_neg h1, if_neg (by omega)]
theorem parse_minus {l : List UInt8} (h : ∀ c ∈ l, isDig c = true) (hne : l ≠ []) : Lib.parseIntB 64 (45 :: l) = if vals l ≤ 9223372036854775808 then .ok (-(vals l : Int)) else .range := by
  have e := parse_num h hne
  unfold Lib.parseIntB
  simp only [show (45 : UInt8).toNat = 45 from rfl, or_true, if_true, e, not_true_eq_false, false_and, if_false, true_and]
  by_cases h1 : vals l ≤ 18446744073709551615
  · rw [if_pos h1]
    simp only [show 2 ^ (64 - 1) = 9223372036854775808 from rfl]
    by_cases h2 : vals l ≤ 9223372036854775808
    · rw [if_pos h2, if_neg (by omega)]
    · rw [if_neg h2, if_pos (by omega)]
  · rw [if_neg h1, if_neg (by omega)]
def numOf : Lib.NumEnd Int → Option Int
  | .ok v => some v
  | _ => none
/-- the minus -/
theorem tk45 (s : List UInt8) : tk is45 1 s = (if (s.head? == some 45) = true then [45] else []) ∧ rs is45 1 s = (if (s.head? == some 45) = true then s.drop 1 else s) := by
  cases s with
  | nil => exact ⟨rfl, rfl⟩
  | cons c t =>
    by_cases h : c = 45
    · subst h; exact ⟨rfl, rfl⟩
    · have hb : is45 c = false := by unfold is45; exact beq_eq_false_iff_ne.2 h
      have hn : ((c :: t).head? == some 45) = false := by simp [h]
      have e : tk is45 1 (c :: t) = [] := by unfold tk; rw [List.take_succ_cons, List.takeWhile_cons, hb]; rfl
      rw [hn]
      exact ⟨e, by unfold rs; rw [e]; rfl⟩
theorem drop_head {l : List UInt8} : l.dropWhile isDig = [] ∨ ∃ c t, l.dropWhile isDig = c :: t ∧ isDig c = false := by
  induction l with
  | nil => exact .inl rfl
  | cons c t ih =>
    rw [List.dropWhile_cons]
    cases h : isDig c with
    | true => simpa using ih
    | false => exact .inr ⟨c, t, by simp, h⟩
theorem tk_empty {p : UInt8 → Bool} {m : Nat} {c : UInt8} {t : List UInt8} (h : p c = false) : tk p m (c :: t) = [] ∧ rs p m (c :: t) = c :: t := by
  have e : tk p m (c :: t) = [] := by
    unfold tk; cases m with
    | zero => rfl
    | succ m => rw [List.take_succ_cons, List.takeWhile_cons, h]; rfl
  exact ⟨e, by unfold rs; rw [e]; rfl⟩
theorem tk_nil (p : UInt8 → Bool) (m : Nat) : tk p m [] = [] ∧ rs p m [] = [] := by unfold rs tk; simp
theorem tk_zero (p : UInt8 → Bool) (l : List UInt8) : tk p 0 l = [] ∧ rs p 0 l = l := by unfold rs tk; simp
theorem tk_ne (p : UInt8 → Bool) (l : List UInt8) {m : Nat} (hm : 1 ≤ m) (h : tk p m l = []) : l.takeWhile p = [] := by
  by_cases h1 : (l.takeWhile p).length ≤ m
  · rw [← (tk_all h1).1, h]
  · have := (tk_more (p := p) (m := m) (l := l) (by omega)).1
    rw [h] at this; simp at this; omega
/-- the program's decimals are the document's -/
theorem dec_scaled (s : List UInt8) (sc : Nat) : decN s sc = (scaledF s sc).bind fun d => numOf (Lib.parseIntB 64 d) := by
  obtain ⟨b, hb⟩ : ∃ b, b = (s.head? == some 45) := ⟨_, rfl⟩
  obtain ⟨h45, r45⟩ := tk45 s
  unfold decN scaledF
  simp only [h45, r45, ← hb]
  obtain ⟨r, hr⟩ : ∃ r, r = (if b = true then s.drop 1 else s) := ⟨_, rfl⟩
  rw [← hr]
  clear hr h45 r45
  by_cases hw : (r.takeWhile isDig).length ≤ 19
  · obtain ⟨e1, e2⟩ := tk_all hw
    rw [e1, e2]
    have hwd : ∀ c ∈ r.takeWhile isDig, isDig c = true := by rw [← e1]; exact tk_dig
    have hdh := drop_head (l := r)
    generalize r.takeWhile isDig = w at *
    generalize r.dropWhile isDig = r2 at *
    by_cases g1 : w = [] ∨ (1 < w.length ∧ w.head? = some 48)
    · rw [if_pos g1, if_pos (by rcases g1 with h | ⟨h, h'⟩; · exact .inl h
                                · exact .inr (.inr ⟨h', h⟩))]; rfl
    rw [if_neg g1, if_neg (by rintro (h | h | ⟨h, h'⟩)
                              · exact g1 (.inl h)
                              · omega
                              · exact g1 (.inr ⟨h', h⟩))]
    have hwne : w ≠ [] := fun h => g1 (.inl h)
    -- the end, once the part behind the point is known
    have fin : ∀ f : List UInt8, (∀ c ∈ f, isDig c = true) → ∀ k, (if 9223372036854775808 < vals (w ++ f ++ List.replicate k 48) then none else if b = true then some (-(vals (w ++ f ++ List.replicate k 48) : Int)) else if vals (w ++ f ++ List.replicate k 48) = 9223372036854775808 then none else some (vals (w ++ f ++ List.replicate k 48) : Int)) = numOf (Lib.parseIntB 64 ((if b = true then [45] else []) ++ w ++ f ++ List.replicate k 48)) := by
      intro f hf k
      have hd : ∀ c ∈ w ++ f ++ List.replicate k 48, isDig c = true := by
        intro c hc
        rw [List.mem_append, List.mem_append] at hc
        rcases hc with (hc | hc) | hc
        · exact hwd c hc
        · exact hf c hc
        · rw [List.eq_of_mem_replicate hc]; rfl
      have hne : w ++ f ++ List.replicate k 48 ≠ [] := by simp [hwne]
      cases b with
      | true =>
        have : (if true = true then [45] else []) ++ w ++ f ++ List.replicate k 48 = 45 :: (w ++ f ++ List.replicate k 48) := by simp
        rw [this, parse_minus hd hne]
        simp only [if_true]
        by_cases h : 9223372036854775808 < vals (w ++ f ++ List.replicate k 48)
        · rw [if_pos h, if_neg (by omega)]; rfl
        · rw [if_neg h, if_pos (by omega)]; rfl
      | false =>
        have : (if false = true then [45] else []) ++ w ++ f ++ List.replicate k 48 = (w ++ f ++ List.replicate k 48) := by simp
        rw [this, parse_plain hd hne]
        simp only [Bool.false_eq_true, if_false]
        by_cases h : 9223372036854775808 < vals (w ++ f ++ List.replicate k 48)
        · rw [if_pos h, if_neg (by omega)]; rfl
        · rw [if_neg h]
          by_cases h' : vals (w ++ f ++ List.replicate k 48) = 9223372036854775808
          · rw [if_pos h', if_neg (by omega)]; rfl
          · rw [if_neg h', if_pos (by omega)]; rfl
    rcases hdh with rfl | ⟨c, t, rfl, hc⟩
    · -- nothing is left
      have z1 := tk_nil is46 (min sc 1)
      have z2 := tk_nil isDig (sc * 0)
      simp only [z1.1, z1.2, List.length_nil, z2.1, z2.2, Nat.sub_zero, List.append_nil]
      simp only [Bool.false_eq_true, false_and, if_false, ne_eq, not_true_eq_false, false_or, or_self, Nat.not_lt_zero, Option.bind_some]
      have := fin [] (by simp) sc
      simp only [List.append_nil] at this
      exact this
    · by_cases h46 : c.toNat = 46
      · obtain rfl : c = 46 := UInt8.toNat_inj.1 h46
        simp only [show (46 : UInt8).toNat = 46 from rfl, if_true, beq_self_eq_true, true_and]
        by_cases hs : sc = 0
        · subst hs
          have z1 := tk_zero is46 (46 :: t)
          have z2 := tk_zero isDig (46 :: t)
          simp only [Nat.min_eq_left (Nat.zero_le 1), z1.1, z1.2, List.length_nil, Nat.mul_zero, z2.1, z2.2]
          by_cases hp : t.takeWhile isDig = []
          · rw [if_pos hp]; simp
          · have : 0 < (t.takeWhile isDig).length := List.length_pos_iff.2 hp
            rw [if_neg hp, if_pos (.inr this)]; simp
        · have hm : min sc 1 = 1 := by omega
          have e3 : tk is46 1 (46 :: t) = [46] ∧ rs is46 1 (46 :: t) = t := ⟨rfl, rfl⟩
          simp only [hm, e3.1, e3.2, List.length_cons, List.length_nil, Nat.zero_add, Nat.mul_one]
          by_cases hf : (t.takeWhile isDig).length ≤ sc
          · obtain ⟨e4, e5⟩ := tk_all hf
            rw [e4, e5]
            have hfd : ∀ c ∈ t.takeWhile isDig, isDig c = true := by rw [← e4]; exact tk_dig
            by_cases hp : t.takeWhile isDig = []
            · rw [if_pos hp, hp]; simp
            · have h1 : 0 < (t.takeWhile isDig).length := List.length_pos_iff.2 hp
              rw [if_neg hp]
              by_cases hr : t.dropWhile isDig = []
              · rw [hr, if_neg (show ¬ (([] : List UInt8) ≠ [] ∨ sc < (t.takeWhile isDig).length) by simp; omega), if_neg (show ¬ ((t.takeWhile isDig).length < 1 ∨ ([] : List UInt8) ≠ []) by simp; omega), Option.bind_some]
                exact fin _ hfd _
              · rw [if_pos (.inl hr), if_pos (.inr hr)]; rfl
          · obtain ⟨e4, c', t', e5, _⟩ := tk_more (p := isDig) (m := sc) (l := t) (by omega)
            have hp : t.takeWhile isDig ≠ [] := by intro h; rw [h] at hf; simp at hf
            rw [if_neg hp, if_pos (.inr (by omega)), if_pos (.inr (by rw [e5]; simp))]; rfl
      · have hb46 : is46 c = false := by unfold is46; exact beq_eq_false_iff_ne.2 (fun h => h46 (by rw [h]; rfl))
        have z1 := tk_empty (p := is46) (m := min sc 1) (t := t) hb46
        have z2 := tk_empty (p := isDig) (m := sc * 0) (t := t) hc
        simp only [h46, if_false, z1.1, z1.2, List.length_nil, z2.1, z2.2]
        have : (c.toNat == 46) = false := by simp [h46]
        rw [this]
        simp
  · -- more than 19 digits
    obtain ⟨e1, c, t, e2, hc⟩ := tk_more (p := isDig) (m := 19) (l := r) (by omega)
    rw [if_pos (.inr (.inl (by omega)))]
    have hb46 : is46 c = false := by
      unfold is46; refine beq_eq_false_iff_ne.2 (fun h => ?_); rw [h] at hc; exact absurd hc (by decide)
    have z1 := tk_empty (p := is46) (m := min sc 1) (t := t) hb46
    have z2 := tk_zero isDig (c :: t)
    simp only [e2, z1.1, z1.2, List.length_nil, Nat.mul_zero, z2.1, z2.2]
    split
    · rfl
    · simp
theorem decDigits_dec (u : Nat) : Lib.decDigits u = dec u := by
  refine dec_ind (P := fun u => Lib.decDigits u = dec u) ?_ ?_ u
  · intro u h; rw [Lib.decDigits, dif_pos h, dec_small h]; rfl
  · intro u h ih; rw [Lib.decDigits, dif_neg h, ih, dec_step h]; rfl
theorem itoa_dec (n : Int) : Lib.itoa n = (if n < 0 then [45] else []) ++ dec n.natAbs := by
  unfold Lib.itoa
  by_cases h : n < 0
  · rw [if_pos h, if_pos h, decDigits_dec]; rfl
  · rw [if_neg h, if_neg h, decDigits_dec]; congr 1; omega
/-- the digits with as many 0 ahead as make sc + 1 of them -/
def padded (u sc : Nat) : List UInt8 := List.replicate (sc + 1 - (dec u).length) 48 ++ dec u
theorem fixd_split : ∀ (k j x : Nat), fixd (k + j) x = fixd k (x / 10 ^ j) ++ fixd j x
  | k, 0, x => by simp [fixd]
  | k, j + 1, x => by
    rw [← Nat.add_assoc, fixd, fixd_split k j (x / 10), fixd, Nat.div_div_eq_div_mul, Nat.pow_succ, Nat.mul_comm 10, List.append_assoc]
theorem fixd_zero : ∀ k, fixd k 0 = List.replicate k 48
  | 0 => rfl
  | k + 1 => by rw [fixd, Nat.zero_div, fixd_zero k, Nat.zero_mod, List.replicate_succ']; rfl
theorem dec_lt (u : Nat) : u < 10 ^ (dec u).length := by
  refine dec_ind (P := fun u => u < 10 ^ (dec u).length) ?_ ?_ u
  · intro u h; rw [dec_small h]; simpa using h
  · intro u h ih
    rw [dec_step h, List.length_append, List.length_cons, List.length_nil, Nat.pow_add]
    simp only [Nat.zero_add, Nat.pow_one]
    omega
theorem padded_fixd (u sc : Nat) : padded u sc = fixd (max (sc + 1) (dec u).length) u := by
  unfold padded
  conv => lhs; arg 2; rw [dec_fixd u]
  have h0 : u / 10 ^ (dec u).length = 0 := Nat.div_eq_of_lt (dec_lt u)
  have : max (sc + 1) (dec u).length = (sc + 1 - (dec u).length) + (dec u).length := by omega
  rw [this, fixd_split, h0, fixd_zero]
theorem padded_len (u sc : Nat) : (padded u sc).length = max (sc + 1) (dec u).length := by rw [padded_fixd, fixd_len]
theorem dec_pos (u : Nat) : 1 ≤ (dec u).length := by obtain ⟨c, t, h, _⟩ := dec_head u; rw [h]; simp
/-- the digits cut at the point -/
theorem padded_cut (u sc : Nat) : (padded u sc).take ((padded u sc).length - sc) = dec (u / 10 ^ sc) ∧ (padded u sc).drop ((padded u sc).length - sc) = fixd sc (u % 10 ^ sc) := by
  have hl := padded_len u sc
  obtain ⟨m, hm⟩ : ∃ m, max (sc + 1) (dec u).length = m + sc := ⟨max (sc + 1) (dec u).length - sc, by omega⟩
  have hp : padded u sc = fixd m (u / 10 ^ sc) ++ fixd sc u := by rw [padded_fixd, hm, fixd_split]
  have hml : (padded u sc).length - sc = (fixd m (u / 10 ^ sc)).length := by rw [hl, hm, fixd_len]; omega
  rw [hml, hp, List.take_left, List.drop_left, fixd_mod]
  refine ⟨?_, rfl⟩
  have hm1 : 1 ≤ m := by omega
  rw [dec_fixd (u / 10 ^ sc)]
  congr 1
  symm
  refine dec_least hm1 ?_ ?_
  · have h := dec_lt u
    have : u < 10 ^ (m + sc) := Nat.lt_of_lt_of_le h (Nat.pow_le_pow_right (by decide) (by omega))
    rw [Nat.pow_add] at this
    exact Nat.div_lt_of_lt_mul (by rw [Nat.mul_comm]; exact this)
  · by_cases h : (dec u).length ≤ sc + 1
    · exact .inl (by omega)
    · refine .inr ?_
      have e : m = (dec u).length - sc := by omega
      have h1 : 10 ^ ((dec u).length - 1) ≤ u := by
        refine dec_ind (P := fun u => 2 ≤ (dec u).length → 10 ^ ((dec u).length - 1) ≤ u) ?_ ?_ u (by omega)
        · intro u h h2; rw [dec_small h] at h2; simp at h2
        · intro u h ih _
          rw [dec_step h, List.length_append, List.length_cons, List.length_nil]
          simp only [Nat.zero_add, Nat.add_sub_cancel]
          by_cases h3 : 2 ≤ (dec (u / 10)).length
          · have := ih h3
            obtain ⟨q, hq⟩ : ∃ q, (dec (u / 10)).length = q + 1 := ⟨(dec (u / 10)).length - 1, by omega⟩
            rw [hq] at this ⊢
            rw [Nat.add_sub_cancel] at this
            rw [Nat.pow_succ]; omega
          · have : (dec (u / 10)).length = 1 := by have := dec_pos (u / 10); omega
            rw [this]; omega
      refine (Nat.le_div_iff_mul_le (Nat.pow_pos (by decide))).2 ?_
      rw [← Nat.pow_add, show m - 1 + sc = (dec u).length - 1 by omega]; exact h1
theorem text_padded (n : Int) (sc : Nat) : textN n sc = (if n < 0 then [45] else []) ++ ((padded n.natAbs sc).take ((padded n.natAbs sc).length - sc) ++ (if sc = 0 then [] else 46 :: (padded n.natAbs sc).drop ((padded n.natAbs sc).length - sc))) := by
  obtain ⟨h1, h2⟩ := padded_cut n.natAbs sc
  rw [h1, h2]; unfold textN; rw [List.append_assoc]
end Odr
end Go.Proofs.YtghghekdheeknaaDoor
