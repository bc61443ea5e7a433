/- Plain: runes, their forms, the cutting of a text, lower case. -/
namespace Go.Proofs.YtljjaepadnmmeaaDoor
namespace Fld
def isRune (r : Int) : Bool := decide (0 ≤ r ∧ r ≤ 1114111 ∧ (r < 55296 ∨ 57343 < r))
def formP (r : Nat) : List UInt8 :=
  if r < 128 then [UInt8.ofNat r]
  else if r < 2048 then [UInt8.ofNat (192 + r / 64), UInt8.ofNat (128 + r % 64)]
  else if r < 65536 then [UInt8.ofNat (224 + r / 4096), UInt8.ofNat (128 + r / 64 % 64), UInt8.ofNat (128 + r % 64)]
  else [UInt8.ofNat (240 + r / 262144), UInt8.ofNat (128 + r / 4096 % 64), UInt8.ofNat (128 + r / 64 % 64), UInt8.ofNat (128 + r % 64)]
def leadN (x : Nat) : Nat := if 192 ≤ x ∧ x < 224 then 2 else if 224 ≤ x ∧ x < 240 then 3 else if 240 ≤ x ∧ x < 248 then 4 else 0
def highN (x : Nat) : Nat := if x < 224 then x - 192 else if x < 240 then x - 224 else x - 240
def gath (r : Nat) (l : List UInt8) : Nat := l.foldl (fun r c => r * 64 + c.toNat % 64) r
/-- the rune at the head of bytes, and how many bytes it has -/
def nextL (l : List UInt8) : Nat × Nat :=
  match l with
  | [] => (0, 0)
  | b :: t =>
    if b.toNat < 128 then (b.toNat, 1)
    else if 2 ≤ leadN b.toNat ∧ leadN b.toNat ≤ (b :: t).length ∧ isRune (gath (highN b.toNat) (t.take (leadN b.toNat - 1)) : Nat) = true ∧ formP (gath (highN b.toNat) (t.take (leadN b.toNat - 1))) = (b :: t).take (leadN b.toNat)
      then (gath (highN b.toNat) (t.take (leadN b.toNat - 1)), leadN b.toNat)
    else (65533, 1)
theorem u8n {n : Nat} (h : n < 256) : (UInt8.ofNat n).toNat = n := by rw [UInt8.toNat_ofNat', Nat.mod_eq_of_lt h]
theorem leadN_le (x : Nat) : leadN x ≤ 4 := by unfold leadN; split <;> (try split) <;> (try split) <;> omega
theorem next_pos {l : List UInt8} (h : l ≠ []) : 1 ≤ (nextL l).2 ∧ (nextL l).2 ≤ l.length ∧ (nextL l).2 ≤ 4 := by
  cases l with
  | nil => exact absurd rfl h
  | cons b t =>
    have := leadN_le b.toNat
    simp only [nextL]
    split
    · simp
    · split
      · rename_i hh; exact ⟨by show 1 ≤ leadN _; omega, hh.2.1, this⟩
      · simp
theorem isRune_nat {r : Nat} : isRune (r : Int) = true ↔ r ≤ 1114111 ∧ (r < 55296 ∨ 57343 < r) := by
  unfold isRune; rw [decide_eq_true_eq]; omega
theorem form_len {r : Nat} : (formP r).length = if r < 128 then 1 else if r < 2048 then 2 else if r < 65536 then 3 else 4 := by
  unfold formP; split <;> (try split) <;> (try split) <;> rfl
theorem form_ne (r : Nat) : formP r ≠ [] := by unfold formP; split <;> (try split) <;> (try split) <;> simp
theorem next_form {r : Nat} (hr : isRune (r : Int) = true) (t : List UInt8) : nextL (formP r ++ t) = (r, (formP r).length) := by
  have hr' := isRune_nat.1 hr
  by_cases h1 : r < 128
  · have e : formP r = [UInt8.ofNat r] := by unfold formP; rw [if_pos h1]
    rw [e]
    show nextL (UInt8.ofNat r :: t) = (r, 1)
    unfold nextL
    simp only [u8n (show r < 256 by omega), if_pos h1]
  by_cases h2 : r < 2048
  · have e : formP r = [UInt8.ofNat (192 + r / 64), UInt8.ofNat (128 + r % 64)] := by unfold formP; rw [if_neg h1, if_pos h2]
    have n0 := u8n (show 192 + r / 64 < 256 by omega)
    have n1 := u8n (show 128 + r % 64 < 256 by omega)
    have hl : leadN (192 + r / 64) = 2 := by unfold leadN; rw [if_pos (by omega)]
    have hh : highN (192 + r / 64) = r / 64 := by unfold highN; rw [if_pos (by omega)]; omega
    have hg : gath (r / 64) [UInt8.ofNat (128 + r % 64)] = r := by
      unfold gath; simp only [List.foldl_cons, List.foldl_nil, n1]; omega
    rw [e]
    show nextL (UInt8.ofNat (192 + r / 64) :: UInt8.ofNat (128 + r % 64) :: t) = (r, 2)
    unfold nextL
    simp only [n0, hl, hh]
    rw [if_neg (by omega)]
    show (if 2 ≤ 2 ∧ 2 ≤ (_ :: _ :: t).length ∧ isRune (gath (r / 64) [UInt8.ofNat (128 + r % 64)] : Nat) = true ∧ formP (gath (r / 64) [UInt8.ofNat (128 + r % 64)]) = [UInt8.ofNat (192 + r / 64), UInt8.ofNat (128 + r % 64)] then (gath (r / 64) [UInt8.ofNat (128 + r % 64)], 2) else (65533, 1)) = _
    simp only [hg]
    rw [if_pos ⟨by omega, by simp, hr, e⟩]
  by_cases h3 : r < 65536
  · have e : formP r = [UInt8.ofNat (224 + r / 4096), UInt8.ofNat (128 + r / 64 % 64), UInt8.ofNat (128 + r % 64)] := by unfold formP; rw [if_neg h1, if_neg h2, if_pos h3]
    have n0 := u8n (show 224 + r / 4096 < 256 by omega)
    have n1 := u8n (show 128 + r / 64 % 64 < 256 by omega)
    have n2 := u8n (show 128 + r % 64 < 256 by omega)
    have hl : leadN (224 + r / 4096) = 3 := by unfold leadN; rw [if_neg (by omega), if_pos (by omega)]
    have hh : highN (224 + r / 4096) = r / 4096 := by unfold highN; rw [if_neg (by omega), if_pos (by omega)]; omega
    have hg : gath (r / 4096) [UInt8.ofNat (128 + r / 64 % 64), UInt8.ofNat (128 + r % 64)] = r := by
      unfold gath; simp only [List.foldl_cons, List.foldl_nil, n1, n2]; omega
    rw [e]
    show nextL (UInt8.ofNat (224 + r / 4096) :: UInt8.ofNat (128 + r / 64 % 64) :: UInt8.ofNat (128 + r % 64) :: t) = (r, 3)
    unfold nextL
    simp only [n0, hl, hh]
    rw [if_neg (by omega)]
    show (if 2 ≤ 3 ∧ 3 ≤ (_ :: _ :: _ :: t).length ∧ isRune (gath (r / 4096) [UInt8.ofNat (128 + r / 64 % 64), UInt8.ofNat (128 + r % 64)] : Nat) = true ∧ formP (gath (r / 4096) [UInt8.ofNat (128 + r / 64 % 64), UInt8.ofNat (128 + r % 64)]) = [UInt8.ofNat (224 + r / 4096), UInt8.ofNat (128 + r / 64 % 64), UInt8.ofNat (128 + r % 64)] then (gath (r / 4096) [UInt8.ofNat (128 + r / 64 % 64), UInt8.ofNat (128 + r % 64)], 3) else (65533, 1)) = _
    simp only [hg]
    rw [if_pos ⟨by omega, by simp, hr, e⟩]
  · have e : formP r = [UInt8.ofNat (240 + r / 262144), UInt8.ofNat (128 + r / 4096 % 64), UInt8.ofNat (128 + r / 64 % 64), UInt8.ofNat (128 + r % 64)] := by unfold formP; rw [if_neg h1, if_neg h2, if_neg h3]
    have n0 := u8n (show 240 + r / 262144 < 256 by omega)
    have n1 := u8n (show 128 + r / 4096 % 64 < 256 by omega)
    have n2 := u8n (show 128 + r / 64 % 64 < 256 by omega)
    have n3 := u8n (show 128 + r % 64 < 256 by omega)
    have hl : leadN (240 + r / 262144) = 4 := by unfold leadN; rw [if_neg (by omega), if_neg (by omega), if_pos (by omega)]
    have hh : highN (240 + r / 262144) = r / 262144 := by unfold highN; rw [if_neg (by omega), if_neg (by omega)]; omega
    have hg : gath (r / 262144) [UInt8.ofNat (128 + r / 4096 % 64), UInt8.ofNat (128 + r / 64 % 64), UInt8.ofNat (128 + r % 64)] = r := by
      unfold gath; simp only [List.foldl_cons, List.foldl_nil, n1, n2, n3]; omega
    rw [e]
    show nextL (UInt8.ofNat (240 + r / 262144) :: UInt8.ofNat (128 + r / 4096 % 64) :: UInt8.ofNat (128 + r / 64 % 64) :: UInt8.ofNat (128 + r % 64) :: t) = (r, 4)
    unfold nextL
    simp only [n0, hl, hh]
    rw [if_neg (by omega)]
    show (if 2 ≤ 4 ∧ 4 ≤ (_ :: _ :: _ :: _ :: t).length ∧ isRune (gath (r / 262144) [UInt8.ofNat (128 + r / 4096 % 64), UInt8.ofNat (128 + r / 64 % 64), UInt8.ofNat (128 + r % 64)] : Nat) = true ∧ formP (gath (r / 262144) [UInt8.ofNat (128 + r / 4096 % 64), UInt8.ofNat (128 + r / 64 % 64), UInt8.ofNat (128 + r % 64)]) = [UInt8.ofNat (240 + r / 262144), UInt8.ofNat (128 + r / 4096 % 64), UInt8.ofNat (128 + r / 64 % 64), UInt8.ofNat (128 + r % 64)] then (gath (r / 262144) [UInt8.ofNat (128 + r / 4096 % 64), UInt8.ofNat (128 + r / 64 % 64), UInt8.ofNat (128 + r % 64)], 4) else (65533, 1)) = _
    simp only [hg]
    rw [if_pos ⟨by omega, by simp, hr, e⟩]
/-- what is read and not odd is a form -/
theorem next_back {l : List UInt8} (hl : l ≠ []) (h : nextL l ≠ (65533, 1)) : isRune ((nextL l).1 : Int) = true ∧ formP (nextL l).1 = l.take (nextL l).2 := by
  cases l with
  | nil => exact absurd rfl hl
  | cons b t =>
    unfold nextL at h ⊢
    by_cases hb : b.toNat < 128
    · simp only [if_pos hb]
      refine ⟨isRune_nat.2 (by omega), ?_⟩
      unfold formP
      rw [if_pos hb, List.take_succ_cons, List.take_zero]
      congr 1
      apply UInt8.toNat_inj.1
      rw [u8n (by omega)]
    · simp only [if_neg hb] at h ⊢
      split at h
      · rename_i hh
        rw [if_pos hh]
        exact ⟨hh.2.2.1, hh.2.2.2⟩
      · exact absurd rfl h
theorem next_odd {l : List UInt8} (h : (nextL l).1 = 65533 ∧ (nextL l).2 = 1) : nextL l = (65533, 1) := Prod.ext h.1 h.2

/-- a text cut into its runes, each with its bytes -/
def cutsF : Nat → List UInt8 → List (Nat × List UInt8)
  | 0, _ => []
  | f + 1, l => if l = [] then [] else ((nextL l).1, l.take (nextL l).2) :: cutsF f (l.drop (nextL l).2)
def cutsL (l : List UInt8) : List (Nat × List UInt8) := cutsF l.length l
theorem cutsF_enough : ∀ (f g : Nat) (l : List UInt8), l.length ≤ f → l.length ≤ g → cutsF f l = cutsF g l
  | 0, 0, _, _, _ => rfl
  | 0, g + 1, l, h, _ => by
    have : l = [] := List.eq_nil_of_length_eq_zero (by omega)
    subst this; rfl
  | f + 1, 0, l, _, h => by
    have : l = [] := List.eq_nil_of_length_eq_zero (by omega)
    subst this; rfl
  | f + 1, g + 1, l, h1, h2 => by
    rw [cutsF, cutsF]
    by_cases hl : l = []
    · rw [if_pos hl, if_pos hl]
    · rw [if_neg hl, if_neg hl]
      have hp := next_pos hl
      rw [cutsF_enough f g _ (by rw [List.length_drop]; omega) (by rw [List.length_drop]; omega)]
theorem cuts_nil : cutsL [] = [] := rfl
theorem cuts_step {l : List UInt8} (h : l ≠ []) : cutsL l = ((nextL l).1, l.take (nextL l).2) :: cutsL (l.drop (nextL l).2) := by
  have hp := next_pos h
  have hl : l.length = (l.length - 1) + 1 := by omega
  rw [cutsL, hl, cutsF, if_neg h]
  congr 1
  exact cutsF_enough _ _ _ (by rw [List.length_drop]; omega) (Nat.le_refl _)
/-- an induction over the pieces -/
theorem cuts_ind {P : List UInt8 → Prop} (h0 : P []) (h1 : ∀ l, l ≠ [] → P (l.drop (nextL l).2) → P l) : ∀ l, P l := by
  intro l
  suffices ∀ n, ∀ l : List UInt8, l.length ≤ n → P l from this _ l (Nat.le_refl _)
  intro n
  induction n with
  | zero => intro l hl; have : l = [] := List.eq_nil_of_length_eq_zero (by omega); subst this; exact h0
  | succ n ih =>
    intro l hl
    by_cases e : l = []
    · subst e; exact h0
    · have hp := next_pos e
      exact h1 l e (ih _ (by rw [List.length_drop]; omega))
theorem cuts_flat : ∀ l : List UInt8, ((cutsL l).flatMap (·.2)) = l := by
  apply cuts_ind
  · rfl
  · intro l h ih
    rw [cuts_step h, List.flatMap_cons, ih, List.take_append_drop]
def oddP (p : Nat × List UInt8) : Bool := p.1 == 65533 && p.2.length == 1
def validL (l : List UInt8) : Bool := (cutsL l).all fun p => !oddP p
theorem cuts_len (l : List UInt8) : (cutsL l).length ≤ l.length := by
  revert l
  apply cuts_ind
  · exact Nat.le_refl _
  · intro l h ih
    have hp := next_pos h
    rw [cuts_step h, List.length_cons]
    rw [List.length_drop] at ih; omega
/-- bytes that go on a form -/
def cont (c : UInt8) : Bool := decide (128 ≤ c.toNat ∧ c.toNat < 192)
theorem form_cont {r : Nat} (hr : r ≤ 1114111) : ∃ b t, formP r = b :: t ∧ cont b = false ∧ (∀ c ∈ t, cont c = true) := by
  unfold formP
  have hc {n : Nat} (h1 : 128 ≤ n) (h2 : n < 192) : cont (UInt8.ofNat n) = true := by
    unfold cont; rw [u8n (by omega)]; exact decide_eq_true ⟨h1, h2⟩
  have hn {n : Nat} (h1 : n < 128 ∨ 192 ≤ n) (h2 : n < 256) : cont (UInt8.ofNat n) = false := by
    unfold cont; rw [u8n h2]; exact decide_eq_false (by omega)
  split
  · exact ⟨_, _, rfl, hn (by omega) (by omega), fun c h => by cases h⟩
  · split
    · refine ⟨_, _, rfl, hn (by omega) (by omega), fun c h => ?_⟩
      rw [List.mem_singleton] at h; subst h; exact hc (by omega) (by omega)
    · split
      · refine ⟨_, _, rfl, hn (by omega) (by omega), fun c h => ?_⟩
        rcases List.mem_cons.1 h with rfl | h
        · exact hc (by omega) (by omega)
        · rw [List.mem_singleton] at h; subst h; exact hc (by omega) (by omega)
      · refine ⟨_, _, rfl, hn (by omega) (by omega), fun c h => ?_⟩
        rcases List.mem_cons.1 h with rfl | h
        · exact hc (by omega) (by omega)
        rcases List.mem_cons.1 h with rfl | h
        · exact hc (by omega) (by omega)
        · rw [List.mem_singleton] at h; subst h; exact hc (by omega) (by omega)
theorem takeWhile_pre {α : Type} (p : α → Bool) : ∀ (a b : List α), (∀ c ∈ a, p c = true) → (a ++ b).takeWhile p = a ++ b.takeWhile p
  | [], _, _ => rfl
  | x :: a, b, h => by
    rw [List.cons_append, List.takeWhile_cons, if_pos (h x List.mem_cons_self), takeWhile_pre p a b fun c hc => h c (List.mem_cons_of_mem _ hc)]; rfl
/-- the rune at the head hangs on the first byte and those that go on a form behind it -/
theorem next_same {b : UInt8} {t t' : List UInt8} (h : t.takeWhile cont = t'.takeWhile cont) : nextL (b :: t) = nextL (b :: t') := by
  have main : ∀ (u v : List UInt8), u.takeWhile cont = v.takeWhile cont → nextL (b :: u) ≠ (65533, 1) → nextL (b :: v) = nextL (b :: u) := by
    intro u v huv hne
    obtain ⟨h1, h2⟩ := next_back (l := b :: u) (by simp) hne
    obtain ⟨c, s, e, _, hs⟩ := form_cont (isRune_nat.1 h1).1
    have hp := next_pos (l := b :: u) (by simp)
    have hl : (formP (nextL (b :: u)).1).length = (nextL (b :: u)).2 := by rw [h2, List.length_take]; omega
    generalize hn : nextL (b :: u) = q at *
    obtain ⟨r, n⟩ := q
    simp only at *
    rw [e, List.length_cons] at hl
    subst hl
    rw [e, List.take_succ_cons] at h2
    injection h2 with hb ht
    -- u begins with s, and s are bytes that go on
    have hu : u = s ++ u.drop s.length := by
      have h3 := List.take_append_drop s.length u
      rw [← ht] at h3; exact h3.symm
    have hv : ∃ w, v = s ++ w := by
      rw [hu, takeWhile_pre _ _ _ hs] at huv
      have h4 := List.takeWhile_prefix cont (l := v)
      rw [← huv] at h4
      obtain ⟨w, hw⟩ := h4
      exact ⟨(u.drop s.length).takeWhile cont ++ w, by rw [← hw, List.append_assoc]⟩
    obtain ⟨w, rfl⟩ := hv
    have h5 : b :: (s ++ w) = formP r ++ w := by rw [e, hb]; rfl
    rw [h5, next_form h1, e, List.length_cons]
  by_cases h1 : nextL (b :: t) = (65533, 1)
  · by_cases h2 : nextL (b :: t') = (65533, 1)
    · rw [h1, h2]
    · exact main t' t h.symm h2
  · exact (main t t' h h1).symm
end Fld
end Go.Proofs.YtljjaepadnmmeaaDoor
