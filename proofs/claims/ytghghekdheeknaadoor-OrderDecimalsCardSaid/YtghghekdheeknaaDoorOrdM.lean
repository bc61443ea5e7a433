/- Stage 7 ahead (PLAIN): keys, how they go, and bytes that go as they do. -/
namespace Go.Proofs.YtghghekdheeknaaDoor
namespace Odr
structure PKey where
  kind : Int
  num : Int
  text : List UInt8
deriving DecidableEq
def rightK (k : PKey) : Prop := (k.kind = 0 ∧ k.num = 0 ∧ k.text = []) ∨ (k.kind = 1 ∧ k.text = []) ∨ (k.kind = 2 ∧ k.num = 0)
/-- byte by byte, a beginning ahead of what it begins -/
def cmpT : List UInt8 → List UInt8 → Int
  | [], [] => 0
  | [], _ :: _ => -1
  | _ :: _, [] => 1
  | a :: s, b :: t => if a.toNat < b.toNat then -1 else if b.toNat < a.toNat then 1 else cmpT s t
def cmpK (a b : PKey) : Int :=
  if a.kind < b.kind then -1 else if b.kind < a.kind then 1
  else if a.num < b.num then -1 else if b.num < a.num then 1 else cmpT a.text b.text
def rowsK : List PKey → List PKey → Int
  | [], [] => 0
  | [], _ :: _ => -1
  | _ :: _, [] => 1
  | a :: s, b :: t => if cmpK a b = 0 then rowsK s t else cmpK a b

/-! ### an order -/
theorem cmpT_range : ∀ s t, cmpT s t = -1 ∨ cmpT s t = 0 ∨ cmpT s t = 1
  | [], [] => by simp [cmpT]
  | [], _ :: _ => by simp [cmpT]
  | _ :: _, [] => by simp [cmpT]
  | a :: s, b :: t => by
    rw [cmpT]; split
    · simp
    · split
      · simp
      · exact cmpT_range s t
theorem cmpT_neg : ∀ s t, cmpT s t = - cmpT t s
  | [], [] => rfl
  | [], _ :: _ => rfl
  | _ :: _, [] => rfl
  | a :: s, b :: t => by
    rw [cmpT, cmpT]
    by_cases h1 : a.toNat < b.toNat
    · rw [if_pos h1, if_neg (by omega), if_pos h1]
    · by_cases h2 : b.toNat < a.toNat
      · rw [if_neg h1, if_pos h2, if_pos h2]; rfl
      · rw [if_neg h1, if_neg h2, if_neg h2, if_neg h1]; exact cmpT_neg s t
theorem cmpT_zero : ∀ s t, cmpT s t = 0 ↔ s = t
  | [], [] => by simp [cmpT]
  | [], _ :: _ => by simp [cmpT]
  | _ :: _, [] => by simp [cmpT]
  | a :: s, b :: t => by
    rw [cmpT]
    by_cases h1 : a.toNat < b.toNat
    · rw [if_pos h1]
      constructor
      · intro h; omega
      · intro h; injection h with h _; rw [h] at h1; omega
    · by_cases h2 : b.toNat < a.toNat
      · rw [if_neg h1, if_pos h2]
        constructor
        · intro h; omega
        · intro h; injection h with h _; rw [h] at h2; omega
      · rw [if_neg h1, if_neg h2, cmpT_zero s t]
        have e : a = b := UInt8.toNat_inj.1 (by omega)
        rw [e]; simp
theorem cmpT_refl (s : List UInt8) : cmpT s s = 0 := (cmpT_zero s s).2 rfl
/-- on from one to a third: not behind, and not behind, is not behind; ahead once is ahead -/
theorem cmpT_trans : ∀ s t u, cmpT s t ≤ 0 → cmpT t u ≤ 0 → cmpT s u ≤ 0 ∧ (cmpT s t < 0 ∨ cmpT t u < 0 → cmpT s u < 0)
  | [], [], u, _, h2 => ⟨h2, fun h => by rcases h with h | h; · simp [cmpT] at h
                                         · exact h⟩
  | [], b :: t, [], _, h2 => by simp [cmpT] at h2
  | [], b :: t, c :: u, _, _ => by simp [cmpT]
  | a :: s, [], u, h1, _ => by simp [cmpT] at h1
  | a :: s, b :: t, [], _, h2 => by simp [cmpT] at h2
  | a :: s, b :: t, c :: u, h1, h2 => by
    rw [cmpT] at h1 h2 ⊢
    rw [cmpT]
    by_cases x1 : a.toNat < b.toNat
    · by_cases y1 : b.toNat < c.toNat
      · rw [if_pos (show a.toNat < c.toNat by omega)]; simp
      · by_cases y2 : c.toNat < b.toNat
        · rw [if_neg y1, if_pos y2] at h2; omega
        · rw [if_pos (show a.toNat < c.toNat by omega)]; simp
    · by_cases x2 : b.toNat < a.toNat
      · rw [if_neg x1, if_pos x2] at h1; omega
      · rw [if_neg x1, if_neg x2] at h1
        by_cases y1 : b.toNat < c.toNat
        · rw [if_pos (show a.toNat < c.toNat by omega)]; simp
        · by_cases y2 : c.toNat < b.toNat
          · rw [if_neg y1, if_pos y2] at h2; omega
          · rw [if_neg y1, if_neg y2] at h2
            have := cmpT_trans s t u h1 h2
            rw [if_neg (show ¬ a.toNat < c.toNat by omega), if_neg (show ¬ c.toNat < a.toNat by omega), if_neg x1, if_neg x2]
            rw [show cmpT (b :: t) (c :: u) = cmpT t u by rw [cmpT, if_neg y1, if_neg y2]]
            exact this
theorem cmpK_range (a b : PKey) : cmpK a b = -1 ∨ cmpK a b = 0 ∨ cmpK a b = 1 := by
  unfold cmpK; repeat' split
  all_goals first | simp | exact cmpT_range _ _
theorem cmpK_neg (a b : PKey) : cmpK a b = - cmpK b a := by
  unfold cmpK
  by_cases h1 : a.kind < b.kind
  · rw [if_pos h1, if_neg (by omega), if_pos h1]
  by_cases h2 : b.kind < a.kind
  · rw [if_neg h1, if_pos h2, if_pos h2]; rfl
  rw [if_neg h1, if_neg h2, if_neg h2, if_neg h1]
  by_cases h3 : a.num < b.num
  · rw [if_pos h3, if_neg (by omega), if_pos h3]
  by_cases h4 : b.num < a.num
  · rw [if_neg h3, if_pos h4, if_pos h4]; rfl
  rw [if_neg h3, if_neg h4, if_neg h4, if_neg h3]
  exact cmpT_neg _ _
theorem cmpK_zero (a b : PKey) : cmpK a b = 0 ↔ a = b := by
  obtain ⟨k1, n1, t1⟩ := a
  obtain ⟨k2, n2, t2⟩ := b
  unfold cmpK
  simp only [PKey.mk.injEq]
  by_cases h1 : k1 < k2
  · rw [if_pos h1]; constructor <;> intro h <;> omega
  by_cases h2 : k2 < k1
  · rw [if_neg h1, if_pos h2]; constructor <;> intro h <;> omega
  by_cases h3 : n1 < n2
  · rw [if_neg h1, if_neg h2, if_pos h3]; constructor <;> intro h <;> omega
  by_cases h4 : n2 < n1
  · rw [if_neg h1, if_neg h2, if_neg h3, if_pos h4]; constructor <;> intro h <;> omega
  rw [if_neg h1, if_neg h2, if_neg h3, if_neg h4, cmpT_zero]
  constructor
  · intro h; exact ⟨by omega, by omega, h⟩
  · intro h; exact h.2.2
theorem cmpK_refl (a : PKey) : cmpK a a = 0 := (cmpK_zero a a).2 rfl
theorem cmpK_kind {a b : PKey} (h : a.kind < b.kind) : cmpK a b = -1 := by unfold cmpK; rw [if_pos h]
theorem cmpK_trans (a b c : PKey) (h1 : cmpK a b ≤ 0) (h2 : cmpK b c ≤ 0) : cmpK a c ≤ 0 ∧ (cmpK a b < 0 ∨ cmpK b c < 0 → cmpK a c < 0) := by
  unfold cmpK at *
  by_cases x1 : a.kind < b.kind
  · by_cases y1 : b.kind < c.kind
    · rw [if_pos (show a.kind < c.kind by omega)]; simp
    · by_cases y2 : c.kind < b.kind
      · rw [if_neg y1, if_pos y2] at h2; omega
      · rw [if_pos (show a.kind < c.kind by omega)]; simp
  by_cases x2 : b.kind < a.kind
  · rw [if_neg x1, if_pos x2] at h1; omega
  by_cases y1 : b.kind < c.kind
  · rw [if_pos (show a.kind < c.kind by omega)]; simp
  by_cases y2 : c.kind < b.kind
  · rw [if_neg y1, if_pos y2] at h2; omega
  rw [if_neg x1, if_neg x2] at h1 ⊢
  rw [if_neg y1, if_neg y2] at h2 ⊢
  rw [if_neg (show ¬ a.kind < c.kind by omega), if_neg (show ¬ c.kind < a.kind by omega)]
  by_cases p1 : a.num < b.num
  · by_cases q1 : b.num < c.num
    · rw [if_pos (show a.num < c.num by omega)]; simp
    · by_cases q2 : c.num < b.num
      · rw [if_neg q1, if_pos q2] at h2; omega
      · rw [if_pos (show a.num < c.num by omega)]; simp
  by_cases p2 : b.num < a.num
  · rw [if_neg p1, if_pos p2] at h1; omega
  by_cases q1 : b.num < c.num
  · rw [if_pos (show a.num < c.num by omega)]; simp
  by_cases q2 : c.num < b.num
  · rw [if_neg q1, if_pos q2] at h2; omega
  rw [if_neg p1, if_neg p2] at h1 ⊢
  rw [if_neg q1, if_neg q2] at h2 ⊢
  rw [if_neg (show ¬ a.num < c.num by omega), if_neg (show ¬ c.num < a.num by omega)]
  exact cmpT_trans _ _ _ h1 h2
/-- OrderOrder's last line -/
theorem order_on (a b c : PKey) : (0 < cmpK a b ∨ 0 < cmpK b c ∨ cmpK a c ≤ 0) ∧ (0 ≤ cmpK a b ∨ 0 < cmpK b c ∨ cmpK a c < 0) ∧ (b.kind ≤ a.kind ∨ cmpK a b < 0) := by
  refine ⟨?_, ?_, ?_⟩
  · by_cases h1 : 0 < cmpK a b
    · exact .inl h1
    by_cases h2 : 0 < cmpK b c
    · exact .inr (.inl h2)
    exact .inr (.inr (cmpK_trans a b c (by omega) (by omega)).1)
  · by_cases h1 : 0 ≤ cmpK a b
    · exact .inl h1
    by_cases h2 : 0 < cmpK b c
    · exact .inr (.inl h2)
    exact .inr (.inr ((cmpK_trans a b c (by omega) (by omega)).2 (.inl (by omega))))
  · rcases Nat.lt_or_ge 0 0 with h | h
    · omega
    · by_cases h : a.kind < b.kind
      · right; rw [cmpK_kind h]; decide
      · left; omega

/-! ### bytes -/
/-- n bytes of a number, the highest first -/
def be : Nat → Nat → List UInt8
  | 0, _ => []
  | n + 1, x => UInt8.ofNat (x / 256 ^ n % 256) :: be n x
theorem be_len : ∀ n x, (be n x).length = n
  | 0, _ => rfl
  | n + 1, x => by rw [be, List.length_cons, be_len n x]
def unbe (l : List UInt8) : Nat := l.foldl (fun a c => a * 256 + c.toNat) 0
def esc : List UInt8 → List UInt8
  | [] => []
  | c :: t => if c.toNat = 0 then 0 :: 255 :: esc t else c :: esc t
def off (n : Int) : Nat := (n + 9223372036854775808).toNat
def oneK (k : PKey) : List UInt8 :=
  UInt8.ofNat k.kind.toNat :: (if k.kind = 1 then be 8 (off k.num) else if k.kind = 2 then esc k.text ++ [0, 1] else [])
def bytesK (l : List PKey) : List UInt8 := l.flatMap oneK
theorem u8n' {n : Nat} (h : n < 256) : (UInt8.ofNat n).toNat = n := by rw [UInt8.toNat_ofNat', Nat.mod_eq_of_lt h]
/-- the numbers' bytes go as the numbers -/
theorem cmp_be : ∀ (n x y : Nat) (s t : List UInt8), cmpT (be n x ++ s) (be n y ++ t) = if x % 256 ^ n < y % 256 ^ n then -1 else if y % 256 ^ n < x % 256 ^ n then 1 else cmpT s t
  | 0, x, y, s, t => by
    rw [be, be, List.nil_append, List.nil_append, Nat.pow_zero, Nat.mod_one, Nat.mod_one]; simp
  | n + 1, x, y, s, t => by
    rw [be, be, List.cons_append, List.cons_append, cmpT, u8n' (Nat.mod_lt _ (by decide)), u8n' (Nat.mod_lt _ (by decide)), cmp_be n x y s t]
    have hx : x % 256 ^ (n + 1) = x / 256 ^ n % 256 * 256 ^ n + x % 256 ^ n := by
      rw [Nat.pow_succ, Nat.mod_mul, Nat.add_comm, Nat.mul_comm]
    have hy : y % 256 ^ (n + 1) = y / 256 ^ n % 256 * 256 ^ n + y % 256 ^ n := by
      rw [Nat.pow_succ, Nat.mod_mul, Nat.add_comm, Nat.mul_comm]
    rw [hx, hy]
    have lx := Nat.mod_lt x (show 0 < 256 ^ n from Nat.pow_pos (by decide))
    have ly := Nat.mod_lt y (show 0 < 256 ^ n from Nat.pow_pos (by decide))
    generalize x / 256 ^ n % 256 = a
    generalize y / 256 ^ n % 256 = b
    generalize x % 256 ^ n = c at *
    generalize y % 256 ^ n = d at *
    generalize 256 ^ n = m at *
    by_cases h1 : a < b
    · have : a * m + m ≤ b * m := by rw [← Nat.succ_mul]; exact Nat.mul_le_mul_right m h1
      rw [if_pos h1, if_pos (by omega)]
    by_cases h2 : b < a
    · have : b * m + m ≤ a * m := by rw [← Nat.succ_mul]; exact Nat.mul_le_mul_right m h2
      rw [if_neg h1, if_pos h2, if_neg (by omega), if_pos (by omega)]
    have e : a = b := by omega
    subst e
    rw [if_neg h1, if_neg h1]
    by_cases h3 : c < d
    · rw [if_pos h3, if_pos (by omega)]
    by_cases h4 : d < c
    · rw [if_neg h3, if_pos h4, if_neg (by omega), if_pos (by omega)]
    · rw [if_neg h3, if_neg h4, if_neg (by omega), if_neg (by omega)]
theorem cmpT_lt {a b : UInt8} {s t : List UInt8} (h : a.toNat < b.toNat) : cmpT (a :: s) (b :: t) = -1 := by rw [cmpT, if_pos h]
theorem cmpT_gt {a b : UInt8} {s t : List UInt8} (h : b.toNat < a.toNat) : cmpT (a :: s) (b :: t) = 1 := by rw [cmpT, if_neg (by omega), if_pos h]
theorem cmpT_same {a b : UInt8} {s t : List UInt8} (h : a.toNat = b.toNat) : cmpT (a :: s) (b :: t) = cmpT s t := by rw [cmpT, if_neg (by omega), if_neg (by omega)]
/-- the texts' bytes, and their end, go as the texts -/
theorem cmp_esc : ∀ (u v s t : List UInt8), cmpT (esc u ++ [0, 1] ++ s) (esc v ++ [0, 1] ++ t) = if cmpT u v = 0 then cmpT s t else cmpT u v
  | [], [], s, t => by simp [esc, cmpT]
  | [], c :: v, s, t => by
    have e : cmpT [] (c :: v) = -1 := rfl
    rw [esc, esc, e]
    have z0 : (0 : UInt8).toNat = 0 := rfl
    by_cases h : c.toNat = 0
    · rw [if_pos h]; simp only [List.nil_append, List.cons_append]
      rw [cmpT_same rfl, cmpT_lt (by decide)]; rfl
    · rw [if_neg h]; simp only [List.nil_append, List.cons_append]
      rw [cmpT_lt (by omega)]; rfl
  | c :: u, [], s, t => by
    have e : cmpT (c :: u) [] = 1 := rfl
    rw [esc, esc, e]
    have z0 : (0 : UInt8).toNat = 0 := rfl
    by_cases h : c.toNat = 0
    · rw [if_pos h]; simp only [List.nil_append, List.cons_append]
      rw [cmpT_same rfl, cmpT_gt (by decide)]; rfl
    · rw [if_neg h]; simp only [List.nil_append, List.cons_append]
      rw [cmpT_gt (by omega)]; rfl
  | c :: u, d :: v, s, t => by
    have z0 : (0 : UInt8).toNat = 0 := rfl
    have ih := cmp_esc u v s t
    rw [esc, esc]
    by_cases h1 : c.toNat = 0
    · by_cases h2 : d.toNat = 0
      · rw [if_pos h1, if_pos h2]
        simp only [List.cons_append] at ih ⊢
        rw [cmpT_same rfl, cmpT_same rfl, ih, cmpT_same (by omega)]
      · rw [if_pos h1, if_neg h2]
        simp only [List.cons_append]
        rw [cmpT_lt (by omega), cmpT_lt (by omega)]; rfl
    · by_cases h2 : d.toNat = 0
      · rw [if_neg h1, if_pos h2]
        simp only [List.cons_append]
        rw [cmpT_gt (by omega), cmpT_gt (by omega)]; rfl
      · rw [if_neg h1, if_neg h2]
        simp only [List.cons_append] at ih ⊢
        by_cases h3 : c.toNat < d.toNat
        · rw [cmpT_lt h3, cmpT_lt h3]; rfl
        · by_cases h4 : d.toNat < c.toNat
          · rw [cmpT_gt h4, cmpT_gt h4]; rfl
          · rw [cmpT_same (by omega), cmpT_same (by omega), ih]
def i64 (n : Int) : Prop := -9223372036854775808 ≤ n ∧ n ≤ 9223372036854775807
/-- a key's bytes go as the key, whatever stands behind -/
theorem cmp_one {a b : PKey} (ha : rightK a) (hb : rightK b) (na : i64 a.num) (nb : i64 b.num) (s t : List UInt8) : cmpT (oneK a ++ s) (oneK b ++ t) = if cmpK a b = 0 then cmpT s t else cmpK a b := by
  obtain ⟨k1, n1, t1⟩ := a
  obtain ⟨k2, n2, t2⟩ := b
  unfold i64 at na nb
  simp only [rightK] at ha hb na nb
  unfold oneK
  simp only [List.cons_append]
  have c0 : ((0 : Int).toNat) = 0 := rfl
  rcases ha with ⟨rfl, rfl, rfl⟩ | ⟨rfl, rfl⟩ | ⟨rfl, rfl⟩ <;> rcases hb with ⟨rfl, rfl, rfl⟩ | ⟨rfl, rfl⟩ | ⟨rfl, rfl⟩
  · simp [cmpK, cmpT]
  · simp [cmpK, cmpT]
  · simp [cmpK, cmpT]
  · simp [cmpK, cmpT]
  · have h8 : (256 : Nat) ^ 8 = 18446744073709551616 := by decide
    have e1 : off n1 % 256 ^ 8 = off n1 := Nat.mod_eq_of_lt (by rw [h8]; unfold off; omega)
    have e2 : off n2 % 256 ^ 8 = off n2 := Nat.mod_eq_of_lt (by rw [h8]; unfold off; omega)
    rw [cmpT, if_neg (Nat.lt_irrefl _), if_neg (Nat.lt_irrefl _), if_pos rfl, if_pos rfl, cmp_be, e1, e2]
    unfold cmpK
    simp only [Int.lt_irrefl, if_false]
    by_cases h1 : n1 < n2
    · rw [if_pos h1, if_pos (show off n1 < off n2 by unfold off; omega)]; simp
    · by_cases h2 : n2 < n1
      · rw [if_neg h1, if_pos h2, if_neg (show ¬ off n1 < off n2 by unfold off; omega), if_pos (show off n2 < off n1 by unfold off; omega)]; simp
      · rw [if_neg h1, if_neg h2, if_neg (show ¬ off n1 < off n2 by unfold off; omega), if_neg (show ¬ off n2 < off n1 by unfold off; omega)]; simp [cmpT]
  · simp [cmpK, cmpT]
  · simp [cmpK, cmpT]
  · simp [cmpK, cmpT]
  · rw [cmpT, if_neg (Nat.lt_irrefl _), if_neg (Nat.lt_irrefl _)]
    simp only [show ¬ (2 : Int) = 1 by decide, if_false, if_true]
    rw [cmp_esc]
    unfold cmpK
    simp only [Int.lt_irrefl, if_false]
def goodK (l : List PKey) : Prop := ∀ k ∈ l, rightK k ∧ i64 k.num
theorem oneK_ne (k : PKey) : ∃ c r, oneK k = c :: r := ⟨_, _, rfl⟩
/-- OrderBytes: bytes of rows go as the rows do -/
theorem bytes_go : ∀ (a b : List PKey), goodK a → goodK b → cmpT (bytesK a) (bytesK b) = rowsK a b
  | [], [], _, _ => rfl
  | [], k :: b, _, _ => by
    obtain ⟨c, r, h⟩ := oneK_ne k
    unfold bytesK; rw [List.flatMap_cons, h]; rfl
  | k :: a, [], _, _ => by
    obtain ⟨c, r, h⟩ := oneK_ne k
    unfold bytesK; rw [List.flatMap_cons, h]; rfl
  | k :: a, m :: b, ha, hb => by
    have h1 := ha k (List.mem_cons_self ..)
    have h2 := hb m (List.mem_cons_self ..)
    have ih := bytes_go a b (fun x hx => ha x (List.mem_cons_of_mem _ hx)) (fun x hx => hb x (List.mem_cons_of_mem _ hx))
    unfold bytesK at ih ⊢
    rw [List.flatMap_cons, List.flatMap_cons, cmp_one h1.1 h2.1 h1.2 h2.2, ih, rowsK]

/-! ### read again -/
def unesc : List UInt8 → Option (List UInt8 × List UInt8)
  | [] => none
  | [c] => if c.toNat = 0 then none else none
  | c :: d :: t =>
    if c.toNat = 0 then
      if d.toNat = 1 then some ([], t)
      else if d.toNat = 255 then (unesc t).map fun p => (0 :: p.1, p.2)
      else none
    else (unesc (d :: t)).map fun p => (c :: p.1, p.2)
def readK (l : List UInt8) : Option (PKey × List UInt8) :=
  match l with
  | [] => none
  | c :: t =>
    if c.toNat = 0 then some (⟨0, 0, []⟩, t)
    else if c.toNat = 1 then (if t.length < 8 then none else some (⟨1, (unbe (t.take 8) : Int) - 9223372036854775808, []⟩, t.drop 8))
    else if c.toNat = 2 then (unesc t).map fun p => (⟨2, 0, p.1⟩, p.2)
    else none
def keysF : Nat → List UInt8 → Option (List PKey)
  | 0, _ => some []
  | f + 1, l => if l = [] then some [] else match readK l with
    | none => none
    | some (k, t) => (keysF f t).map (k :: ·)
def keysK (l : List UInt8) : Option (List PKey) := keysF l.length l
theorem unesc_esc : ∀ (u s : List UInt8), unesc (esc u ++ [0, 1] ++ s) = some (u, s)
  | [], s => by simp [esc, unesc]
  | c :: u, s => by
    rw [esc]
    by_cases h : c.toNat = 0
    · have e : c = 0 := UInt8.toNat_inj.1 (by rw [h]; rfl)
      rw [if_pos h]
      simp only [List.cons_append]
      rw [unesc, if_pos (by rfl), if_neg (by decide), if_pos (by rfl)]
      have ih := unesc_esc u s
      rw [ih, e]; rfl
    · rw [if_neg h]
      have ih := unesc_esc u s
      obtain ⟨d, t, hd⟩ : ∃ d t, esc u ++ [0, 1] ++ s = d :: t := by
        cases hu : esc u with
        | nil => exact ⟨_, _, rfl⟩
        | cons d t => exact ⟨_, _, rfl⟩
      rw [List.cons_append, List.cons_append, hd, unesc, if_neg h, ← hd, ih]; rfl
theorem unbe_app (a b : List UInt8) : unbe (a ++ b) = unbe a * 256 ^ b.length + unbe b := by
  unfold unbe
  rw [List.foldl_append]
  generalize List.foldl (fun a c => a * 256 + c.toNat) 0 a = x
  induction b generalizing x with
  | nil => simp
  | cons c b ih =>
    rw [List.foldl_cons, List.foldl_cons, ih (x * 256 + c.toNat), ih (0 * 256 + c.toNat), List.length_cons, Nat.pow_succ]
    generalize 256 ^ b.length = m
    generalize List.foldl (fun a c => a * 256 + c.toNat) 0 b = y
    rw [Nat.zero_mul, Nat.zero_add, Nat.add_mul, Nat.mul_assoc, Nat.mul_comm 256 m, Nat.add_assoc]
theorem unbe_be : ∀ n x, unbe (be n x) = x % 256 ^ n
  | 0, x => by simp [be, unbe, Nat.mod_one]
  | n + 1, x => by
    rw [be, show UInt8.ofNat (x / 256 ^ n % 256) :: be n x = [UInt8.ofNat (x / 256 ^ n % 256)] ++ be n x from rfl, unbe_app, unbe_be n x, be_len]
    have : unbe [UInt8.ofNat (x / 256 ^ n % 256)] = x / 256 ^ n % 256 := by
      unfold unbe
      simp only [List.foldl_cons, List.foldl_nil, Nat.zero_mul, Nat.zero_add]
      exact u8n' (Nat.mod_lt _ (by decide))
    rw [this, Nat.pow_succ, Nat.mod_mul, Nat.add_comm, Nat.mul_comm]
theorem read_one {k : PKey} (h : rightK k) (hn : i64 k.num) (s : List UInt8) : readK (oneK k ++ s) = some (k, s) := by
  obtain ⟨kd, n, t⟩ := k
  unfold i64 at hn
  simp only [rightK] at h hn
  unfold oneK
  rcases h with ⟨rfl, rfl, rfl⟩ | ⟨rfl, rfl⟩ | ⟨rfl, rfl⟩
  · rfl
  · have h8 : (256 : Nat) ^ 8 = 18446744073709551616 := by decide
    have e1 : off n % 256 ^ 8 = off n := Nat.mod_eq_of_lt (by rw [h8]; unfold off; omega)
    simp only [if_true, List.cons_append]
    unfold readK
    simp only [show (UInt8.ofNat ((1 : Int).toNat)).toNat = 1 from rfl]
    rw [if_neg (by decide), if_pos trivial, if_neg (by rw [List.length_append, be_len]; omega), List.take_left' (be_len 8 _), List.drop_left' (be_len 8 _), unbe_be, e1]
    congr 3
    unfold off; omega
  · simp only [show ¬ (2 : Int) = 1 by decide, if_false, if_true, List.cons_append]
    unfold readK
    simp only [show (UInt8.ofNat ((2 : Int).toNat)).toNat = 2 from rfl]
    rw [if_neg (by decide), if_neg (by decide), if_pos trivial, unesc_esc]; rfl
theorem keysF_enough : ∀ (f g : Nat) (l : List UInt8), l.length ≤ f → l.length ≤ g → keysF f l = keysF g l := by
  have sm : ∀ {l : List UInt8} {k t}, readK l = some (k, t) → t.length < l.length := by
    have ue : ∀ (l : List UInt8) {p}, unesc l = some p → p.2.length < l.length := by
      intro l
      suffices ∀ n, ∀ l : List UInt8, l.length ≤ n → ∀ {p}, unesc l = some p → p.2.length < l.length from fun {p} h => this _ l (Nat.le_refl _) h
      intro n
      induction n with
      | zero => intro l hl p h; rw [show l = [] from List.eq_nil_of_length_eq_zero (by omega)] at h; simp [unesc] at h
      | succ n ih =>
        intro l hl p h
        match l, h with
        | [], h => simp [unesc] at h
        | [c], h => simp [unesc] at h
        | c :: d :: t, h =>
          simp only [List.length_cons] at hl
          rw [unesc] at h
          split at h
          · split at h
            · injection h with h; subst h; simp; omega
            · split at h
              · obtain ⟨q, hq, e⟩ := Option.map_eq_some_iff.1 h
                have := ih t (by omega) hq
                subst e; simp only [List.length_cons]; omega
              · cases h
          · obtain ⟨q, hq, e⟩ := Option.map_eq_some_iff.1 h
            have := ih (d :: t) (by simp only [List.length_cons]; omega) hq
            subst e; simp only [List.length_cons] at this ⊢; omega
    intro l k t h
    unfold readK at h
    cases l with
    | nil => cases h
    | cons c l =>
      simp only at h
      split at h
      · injection h with h; injection h with _ h; subst h; simp
      · split at h
        · split at h
          · cases h
          · injection h with h; injection h with _ h; subst h; simp only [List.length_drop, List.length_cons]; omega
        · split at h
          · obtain ⟨q, hq, e⟩ := Option.map_eq_some_iff.1 h
            injection e with _ e
            have := ue l hq
            subst e; simp only [List.length_cons]; omega
          · cases h
  intro f
  induction f with
  | zero =>
    intro g l h1 _
    have : l = [] := List.eq_nil_of_length_eq_zero (by omega)
    subst this
    cases g <;> simp [keysF]
  | succ f ih =>
    intro g l h1 h2
    cases g with
    | zero =>
      have : l = [] := List.eq_nil_of_length_eq_zero (by omega)
      subst this; simp [keysF]
    | succ g =>
      rw [keysF, keysF]
      by_cases e : l = []
      · rw [if_pos e, if_pos e]
      · rw [if_neg e, if_neg e]
        cases hr : readK l with
        | none => rfl
        | some p =>
          obtain ⟨k, t⟩ := p
          have := sm hr
          simp only
          rw [ih g t (by omega) (by omega)]
/-- a row's bytes are read as the row -/
theorem keys_bytes : ∀ (l : List PKey), goodK l → ∀ f, (bytesK l).length ≤ f → keysF f (bytesK l) = some l
  | [], _, f, _ => by cases f <;> simp [keysF, bytesK]
  | k :: l, h, f, hf => by
    have h1 := h k (List.mem_cons_self ..)
    have ih := keys_bytes l (fun x hx => h x (List.mem_cons_of_mem _ hx))
    obtain ⟨c, r, hk⟩ := oneK_ne k
    have e : bytesK (k :: l) = oneK k ++ bytesK l := by unfold bytesK; rw [List.flatMap_cons]
    cases f with
    | zero => rw [e, hk] at hf; simp at hf
    | succ f =>
      rw [keysF, if_neg (by rw [e, hk]; simp), e, read_one h1.1 h1.2]
      simp only
      rw [ih f (by rw [e, hk] at hf; simp at hf; omega)]; rfl
/-- no row's bytes begin another one's of as many keys -/
theorem bytes_begin : ∀ (a b : List PKey), goodK a → goodK b → a.length = b.length → (bytesK a <+: bytesK b ↔ a = b)
  | [], [], _, _, _ => by simp
  | [], _ :: _, _, _, h => by simp at h
  | _ :: _, [], _, _, h => by simp at h
  | k :: a, m :: b, ha, hb, hl => by
    have h1 := ha k (List.mem_cons_self ..)
    have h2 := hb m (List.mem_cons_self ..)
    have e (k : PKey) (l : List PKey) : bytesK (k :: l) = oneK k ++ bytesK l := by unfold bytesK; rw [List.flatMap_cons]
    constructor
    · rintro ⟨s, hs⟩
      rw [e, e, List.append_assoc] at hs
      have r1 := read_one h1.1 h1.2 (bytesK a ++ s)
      have r2 := read_one h2.1 h2.2 (bytesK b)
      rw [hs, r2] at r1
      injection r1 with r1
      injection r1 with r1 r3
      subst r1
      rw [(bytes_begin a b (fun x hx => ha x (List.mem_cons_of_mem _ hx)) (fun x hx => hb x (List.mem_cons_of_mem _ hx)) (by simpa using hl)).1 ⟨s, r3.symm⟩]
    · intro h; rw [h]; exact List.prefix_rfl
end Odr
end Go.Proofs.YtghghekdheeknaaDoor
