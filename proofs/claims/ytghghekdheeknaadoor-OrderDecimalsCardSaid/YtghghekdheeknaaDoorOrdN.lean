/- Stage 7 ahead (PLAIN): decimals, written and read. -/
namespace Go.Proofs.YtghghekdheeknaaDoor
namespace Odr
def dg (n : Nat) : UInt8 := UInt8.ofNat (48 + n)
def isDig (c : UInt8) : Bool := decide (48 ≤ c.toNat ∧ c.toNat ≤ 57)
def dval (c : UInt8) : Nat := c.toNat - 48
theorem dg_nat {n : Nat} (h : n < 10) : (dg n).toNat = 48 + n := by unfold dg; rw [UInt8.toNat_ofNat', Nat.mod_eq_of_lt (by omega)]
theorem dg_dig {n : Nat} (h : n < 10) : isDig (dg n) = true := by unfold isDig; rw [dg_nat h, decide_eq_true_eq]; omega
theorem dval_dg {n : Nat} (h : n < 10) : dval (dg n) = n := by unfold dval; rw [dg_nat h]; omega
/-- what digits say -/
def vals (l : List UInt8) : Nat := l.foldl (fun a c => a * 10 + dval c) 0
theorem vals_app (a b : List UInt8) : vals (a ++ b) = vals a * 10 ^ b.length + vals b := by
  unfold vals
  rw [List.foldl_append]
  generalize List.foldl (fun a c => a * 10 + dval c) 0 a = x
  induction b generalizing x with
  | nil => simp
  | cons c b ih =>
    rw [List.foldl_cons, List.foldl_cons, ih (x * 10 + dval c), ih (0 * 10 + dval c), List.length_cons, Nat.pow_succ]
    generalize 10 ^ b.length = m
    generalize List.foldl (fun a c => a * 10 + dval c) 0 b = y
    rw [Nat.zero_mul, Nat.zero_add, Nat.add_mul, Nat.mul_assoc, Nat.mul_comm 10 m, Nat.add_assoc]
theorem vals_one (c : UInt8) : vals [c] = dval c := by simp [vals]
/-- a number's digits, without a 0 ahead -/
def decF : Nat → Nat → List UInt8
  | 0, _ => []
  | f + 1, u => if u < 10 then [dg u] else decF f (u / 10) ++ [dg (u % 10)]
def dec (u : Nat) : List UInt8 := decF (u + 1) u
theorem decF_enough : ∀ (f g u : Nat), u < f → u < g → decF f u = decF g u
  | 0, _, _, h, _ => by omega
  | _, 0, _, _, h => by omega
  | f + 1, g + 1, u, h1, h2 => by
    rw [decF, decF]
    split
    · rfl
    · rw [decF_enough f g (u / 10) (by omega) (by omega)]
theorem dec_small {u : Nat} (h : u < 10) : dec u = [dg u] := by unfold dec; rw [decF, if_pos h]
theorem dec_step {u : Nat} (h : ¬ u < 10) : dec u = dec (u / 10) ++ [dg (u % 10)] := by
  unfold dec; rw [decF, if_neg h, decF_enough u (u / 10 + 1) _ (by omega) (by omega)]
/-- just k digits -/
def fixd : Nat → Nat → List UInt8
  | 0, _ => []
  | k + 1, x => fixd k (x / 10) ++ [dg (x % 10)]
theorem fixd_len : ∀ k x, (fixd k x).length = k
  | 0, _ => rfl
  | k + 1, x => by rw [fixd, List.length_append, fixd_len k]; rfl
theorem fixd_dig : ∀ k x, ∀ c ∈ fixd k x, isDig c = true
  | 0, _, c, h => by cases h
  | k + 1, x, c, h => by
    rw [fixd, List.mem_append] at h
    rcases h with h | h
    · exact fixd_dig k _ c h
    · rw [List.mem_singleton] at h; subst h; exact dg_dig (by omega)
theorem vals_fixd : ∀ k x, vals (fixd k x) = x % 10 ^ k
  | 0, x => by simp [fixd, vals, Nat.mod_one]
  | k + 1, x => by
    rw [fixd, vals_app, vals_fixd k, vals_one, dval_dg (by omega)]
    simp only [List.length_cons, List.length_nil, Nat.zero_add, Nat.pow_one]
    rw [Nat.pow_succ, Nat.mul_comm (10 ^ k) 10, Nat.mod_mul]; omega
theorem dec_ind {P : Nat → Prop} (h0 : ∀ u, u < 10 → P u) (h1 : ∀ u, ¬ u < 10 → P (u / 10) → P u) : ∀ u, P u := by
  intro u
  suffices ∀ n u, u ≤ n → P u from this u u (Nat.le_refl _)
  intro n
  induction n with
  | zero => intro u h; exact h0 u (by omega)
  | succ n ih =>
    intro u h
    by_cases hu : u < 10
    · exact h0 u hu
    · exact h1 u hu (ih _ (by omega))
theorem dec_dig (u : Nat) : ∀ c ∈ dec u, isDig c = true := by
  refine dec_ind (P := fun u => ∀ c ∈ dec u, isDig c = true) ?_ ?_ u
  · intro u h c hc; rw [dec_small h, List.mem_singleton] at hc; subst hc; exact dg_dig h
  · intro u h ih c hc
    rw [dec_step h, List.mem_append] at hc
    rcases hc with hc | hc
    · exact ih c hc
    · rw [List.mem_singleton] at hc; subst hc; exact dg_dig (by omega)
theorem vals_dec (u : Nat) : vals (dec u) = u := by
  refine dec_ind (P := fun u => vals (dec u) = u) ?_ ?_ u
  · intro u h; rw [dec_small h, vals_one, dval_dg h]
  · intro u h ih
    rw [dec_step h, vals_app, ih, vals_one, dval_dg (by omega)]
    simp only [List.length_cons, List.length_nil, Nat.zero_add, Nat.pow_one]; omega
/-- the first digit is a 0 only where it stands alone -/
theorem dec_head (u : Nat) : ∃ c t, dec u = c :: t ∧ (c.toNat = 48 → t = []) := by
  refine dec_ind (P := fun u => ∃ c t, dec u = c :: t ∧ (c.toNat = 48 → t = []) ∧ (u ≠ 0 → c.toNat ≠ 48)) ?_ ?_ u |> fun ⟨c, t, h1, h2, _⟩ => ⟨c, t, h1, h2⟩
  · intro u h
    exact ⟨dg u, [], dec_small h, fun _ => rfl, fun hu => by rw [dg_nat h]; omega⟩
  · intro u h ⟨c, t, h1, _, h3⟩
    refine ⟨c, t ++ [dg (u % 10)], by rw [dec_step h, h1]; rfl, fun hc => absurd hc (h3 (by omega)), fun _ => h3 (by omega)⟩
theorem dec_len : ∀ (k u : Nat), 1 ≤ k → u < 10 ^ k → (dec u).length ≤ k
  | 0, _, h, _ => by omega
  | k + 1, u, _, h => by
    by_cases hu : u < 10
    · rw [dec_small hu]; simp
    · rw [dec_step hu, List.length_append]
      have hk : 1 ≤ k := by
        rcases Nat.eq_zero_or_pos k with rfl | hk
        · simp at h; omega
        · exact hk
      have := dec_len k (u / 10) hk (by rw [Nat.pow_succ] at h; omega)
      simp; omega
/-- the decimal of a number -/
def textN (n : Int) (sc : Nat) : List UInt8 :=
  (if n < 0 then [45] else []) ++ dec (n.natAbs / 10 ^ sc) ++ (if sc = 0 then [] else 46 :: fixd sc (n.natAbs % 10 ^ sc))
/-- the number of a decimal -/
def decN (s : List UInt8) (sc : Nat) : Option Int :=
  let below := s.head? == some 45
  let r := if below then s.drop 1 else s
  let w := r.takeWhile isDig
  let r2 := r.dropWhile isDig
  let p := match r2 with | c :: t => if c.toNat = 46 then t.takeWhile isDig else [] | [] => []
  let r3 := match r2 with | c :: t => if c.toNat = 46 then t.dropWhile isDig else c :: t | [] => []
  let point := match r2 with | c :: _ => c.toNat == 46 | [] => false
  if w = [] ∨ 19 < w.length ∨ (w.head? = some 48 ∧ 1 < w.length) then none
  else if point = true ∧ p = [] then none
  else if r3 ≠ [] ∨ sc < p.length then none
  else
    let u := vals (w ++ p ++ List.replicate (sc - p.length) 48)
    if 9223372036854775808 < u then none
    else if below then some (-(u : Int)) else if u = 9223372036854775808 then none else some (u : Int)
theorem takeWhile_all {p : UInt8 → Bool} {a b : List UInt8} (h : ∀ c ∈ a, p c = true) (hb : b = [] ∨ ∃ c t, b = c :: t ∧ p c = false) : (a ++ b).takeWhile p = a ∧ (a ++ b).dropWhile p = b := by
  induction a with
  | nil =>
    rcases hb with rfl | ⟨c, t, rfl, hc⟩
    · exact ⟨rfl, rfl⟩
    · simp [List.takeWhile_cons, List.dropWhile_cons, hc]
  | cons c a ih =>
    obtain ⟨h1, h2⟩ := ih (fun x hx => h x (List.mem_cons_of_mem _ hx))
    have hc := h c (List.mem_cons_self ..)
    rw [List.cons_append, List.takeWhile_cons, List.dropWhile_cons, hc]
    exact ⟨by simp [h1], by simpa using h2⟩
/-- OrderWritten: what is written is read again -/
theorem read_written {n : Int} {sc : Nat} (h1 : -9223372036854775808 ≤ n) (h2 : n ≤ 9223372036854775807) (hs : sc ≤ 9) : decN (textN n sc) sc = some n := by
  obtain ⟨u, hu⟩ : ∃ u, u = n.natAbs := ⟨_, rfl⟩
  have hub : u ≤ 9223372036854775808 := by omega
  obtain ⟨w, hw⟩ : ∃ w, w = u / 10 ^ sc := ⟨_, rfl⟩
  obtain ⟨f, hf⟩ : ∃ f, f = u % 10 ^ sc := ⟨_, rfl⟩
  have hp : 0 < 10 ^ sc := Nat.pow_pos (by decide)
  have hsum : w * 10 ^ sc + f = u := by rw [hw, hf, Nat.mul_comm]; exact Nat.div_add_mod u _
  have hfl : f < 10 ^ sc := by rw [hf]; exact Nat.mod_lt _ hp
  have hwu : w ≤ u := by rw [hw]; exact Nat.div_le_self _ _
  obtain ⟨c, t, hd, hz⟩ := dec_head w
  have hdig := dec_dig w
  have hlen : (dec w).length ≤ 19 := dec_len 19 w (by omega) (by omega)
  have hc45 : c ≠ 45 := by
    intro e
    have := hdig c (by rw [hd]; exact List.mem_cons_self ..)
    rw [e] at this; exact absurd this (by decide)
  obtain ⟨fr, hfr⟩ : ∃ fr, fr = (if sc = 0 then [] else 46 :: fixd sc f : List UInt8) := ⟨_, rfl⟩
  have htail : fr = [] ∨ ∃ c t, fr = c :: t ∧ isDig c = false := by
    rw [hfr]; split
    · exact .inl rfl
    · exact .inr ⟨_, _, rfl, by decide⟩
  obtain ⟨ht1, ht2⟩ := takeWhile_all hdig htail
  have key : ∀ below : Bool, (if below then ([45] : List UInt8) else []) ++ dec w ++ fr = (if below then [45] else []) ++ (dec w ++ fr) := fun _ => List.append_assoc ..
  have htxt : textN n sc = (if n < 0 then [45] else []) ++ (dec w ++ fr) := by
    unfold textN; rw [← hu, ← hw, ← hf, ← hfr, List.append_assoc]
  have hhead : ((textN n sc).head? == some 45) = decide (n < 0) := by
    rw [htxt]
    by_cases hn : n < 0
    · rw [if_pos hn, decide_eq_true hn]; rfl
    · rw [if_neg hn, decide_eq_false hn, hd]
      simp only [List.nil_append, List.cons_append, List.head?_cons]
      rw [beq_eq_false_iff_ne]; intro e; exact hc45 (Option.some.inj e)
  have hrest : (if ((textN n sc).head? == some 45) then (textN n sc).drop 1 else textN n sc) = dec w ++ fr := by
    rw [hhead, htxt]
    by_cases hn : n < 0
    · rw [if_pos hn, decide_eq_true hn]; rfl
    · rw [if_neg hn, decide_eq_false hn]; rfl
  rw [hhead] at hrest
  unfold decN
  simp only [hhead, hrest, ht1, ht2]
  have g1 : ¬ (dec w = [] ∨ 19 < (dec w).length ∨ (dec w).head? = some 48 ∧ 1 < (dec w).length) := by
    rintro (h | h | ⟨h, h'⟩)
    · rw [hd] at h; cases h
    · omega
    · rw [hd] at h h'
      simp only [List.head?_cons, Option.some.injEq] at h
      have := hz (by rw [h]; rfl)
      rw [this] at h'; simp at h'
  rw [if_neg g1]
  by_cases hs0 : sc = 0
  · subst hs0
    have hfr0 : fr = [] := by rw [hfr, if_pos rfl]
    have hv : vals (dec w ++ [] ++ List.replicate (0 - 0) 48) = u := by
      simp only [Nat.sub_self, List.replicate_zero, List.append_nil]
      rw [vals_dec]; simp at hsum hfl; omega
    simp only [hfr0]
    rw [if_neg (by simp), if_neg (by simp)]
    simp only [List.length_nil, hv]
    rw [if_neg (by omega)]
    by_cases hn : n < 0
    · rw [decide_eq_true hn, if_pos rfl]; congr 1; omega
    · rw [decide_eq_false hn, if_neg (by simp), if_neg (by omega)]; congr 1; omega
  · have hfr1 : fr = 46 :: fixd sc f := by rw [hfr, if_neg hs0]
    obtain ⟨ft1, ft2⟩ := takeWhile_all (b := []) (fixd_dig sc f) (.inl rfl)
    rw [List.append_nil] at ft1 ft2
    have h46 : (46 : UInt8).toNat = 46 := rfl
    have hv : vals (dec w ++ fixd sc f ++ List.replicate (sc - sc) 48) = u := by
      rw [Nat.sub_self, List.replicate_zero, List.append_nil, vals_app, vals_dec, vals_fixd, fixd_len, Nat.mod_eq_of_lt hfl, hsum]
    have hne : fixd sc f ≠ [] := by intro e; have := fixd_len sc f; rw [e] at this; simp at this; omega
    simp only [hfr1, h46, if_true, ft1, ft2, fixd_len, hv]
    rw [if_neg (by rintro ⟨_, h⟩; exact hne h), if_neg (by simp), if_neg (by omega)]
    by_cases hn : n < 0
    · rw [decide_eq_true hn, if_pos rfl]; congr 1; omega
    · rw [decide_eq_false hn, if_neg (by simp), if_neg (by omega)]; congr 1; omega
theorem text_inj {a b : Int} {sc : Nat} (ha : -9223372036854775808 ≤ a ∧ a ≤ 9223372036854775807) (hb : -9223372036854775808 ≤ b ∧ b ≤ 9223372036854775807) (hs : sc ≤ 9) : textN a sc = textN b sc ↔ a = b := by
  constructor
  · intro h
    have h1 := read_written ha.1 ha.2 hs
    rw [h, read_written hb.1 hb.2 hs] at h1
    exact (Option.some.inj h1).symm
  · intro h; rw [h]
theorem text_head {n : Int} {sc : Nat} : ∃ c t, textN n sc = c :: t ∧ (c = 45 ↔ n < 0) := by
  obtain ⟨c, t, hd, _⟩ := dec_head (n.natAbs / 10 ^ sc)
  have hc : c ≠ 45 := by
    intro e
    have := dec_dig _ c (by rw [hd]; exact List.mem_cons_self ..)
    rw [e] at this; exact absurd this (by decide)
  unfold textN
  by_cases hn : n < 0
  · rw [if_pos hn]; exact ⟨45, _, rfl, by simp [hn]⟩
  · rw [if_neg hn, hd]; exact ⟨c, _, rfl, by simp [hn, hc]⟩
end Odr
end Go.Proofs.YtghghekdheeknaaDoor
