/- Plain: letters, digits, marks, lower case; a text folded. -/
import Derived.Test.YtljjaepadnmmeaaDoorFldM
namespace Go.Proofs.YtljjaepadnmmeaaDoor
namespace Fld
def amongB (r : Int) : List (Int × Int) → Bool
  | [] => false
  | (a, b) :: l => (decide (a ≤ r) && decide (r ≤ b)) || amongB r l
def letterT : List (Int × Int) := [(65, 90), (97, 122), (170, 170), (181, 181), (186, 186), (192, 214), (216, 246), (248, 687), (880, 883), (886, 887), (891, 893), (895, 895), (902, 902), (904, 906), (908, 908), (910, 929), (931, 1013), (1015, 1153), (1162, 1327), (1488, 1514), (1568, 1610), (2308, 2361), (12353, 12438), (12449, 12538), (19968, 40959), (44032, 55203)]
def digitT : List (Int × Int) := [(48, 57), (1632, 1641), (2406, 2415), (65296, 65305)]
def markT : List (Int × Int) := [(768, 879), (1155, 1161), (1425, 1469), (1611, 1631), (2364, 2364), (8400, 8432), (65056, 65071)]
def letterI (r : Int) : Bool := amongB r letterT
def digitI (r : Int) : Bool := amongB r digitT
def markI (r : Int) : Bool := amongB r markT
def up20 : List (Int × Int) := [(65, 90), (192, 214), (216, 222), (913, 929), (931, 939), (1040, 1071)]
def upEven : List (Int × Int) := [(256, 303), (306, 311), (330, 375), (1120, 1153), (1162, 1215), (1232, 1327)]
def upOdd : List (Int × Int) := [(313, 328), (377, 382), (1217, 1230)]
def lowerI (r : Int) : Int :=
  if amongB r up20 then r + 32 else if amongB r upEven then r - r % 2 + 1 else if amongB r upOdd then r + r % 2
  else if amongB r [(904, 906)] then r + 37 else if amongB r [(910, 911)] then r + 63 else if amongB r [(1024, 1039)] then r + 80
  else if r = 376 then 255 else if r = 1216 then 1231 else if r = 902 then 940 else if r = 908 then 972 else r
theorem among_out {r a b : Int} : ∀ (l : List (Int × Int)), (∀ p ∈ l, a ≤ p.1 ∧ p.2 ≤ b) → (r < a ∨ b < r) → amongB r l = false
  | [], _, _ => rfl
  | (x, y) :: l, h, hr => by
    have h1 := h (x, y) List.mem_cons_self
    simp only at h1
    rw [amongB, among_out l (fun p hp => h p (List.mem_cons_of_mem _ hp)) hr, Bool.or_false, Bool.and_eq_false_iff, decide_eq_false_iff_not, decide_eq_false_iff_not]
    omega
theorem lower_out {r : Int} (h : r < 0 ∨ 1327 < r) : lowerI r = r := by
  unfold lowerI
  have f (l : List (Int × Int)) (hl : ∀ p ∈ l, (0 : Int) ≤ p.1 ∧ p.2 ≤ 1327) : amongB r l = false := among_out l hl h
  rw [f up20 (by decide), f upEven (by decide), f upOdd (by decide), f [(904, 906)] (by decide), f [(910, 911)] (by decide), f [(1024, 1039)] (by decide)]
  simp only [Bool.false_eq_true, if_false]
  rw [if_neg (by omega), if_neg (by omega), if_neg (by omega), if_neg (by omega)]
def goodN (n : Nat) : Bool := decide (0 ≤ lowerI n ∧ lowerI n < 1328) && decide (lowerI (lowerI n) = lowerI n) && (letterI (lowerI n) == letterI n) && (digitI (lowerI n) == digitI n) && (markI (lowerI n) == markI n) && (decide (lowerI n = n) || letterI n) && decide ((formP (lowerI n).toNat).length = (formP n).length)
theorem good_all : ∀ n : Nat, n < 1328 → goodN n = true := by decide +kernel
theorem lower_good {r : Int} (h : ¬ (r < 0 ∨ 1327 < r)) : ∃ n : Nat, r = (n : Int) ∧ n < 1328 ∧ goodN n = true := ⟨r.toNat, by omega, by omega, good_all _ (by omega)⟩
theorem lower_idem (r : Int) : lowerI (lowerI r) = lowerI r := by
  by_cases h : r < 0 ∨ 1327 < r
  · rw [lower_out h, lower_out h]
  · obtain ⟨n, rfl, _, hg⟩ := lower_good h
    unfold goodN at hg; simp only [Bool.and_eq_true, decide_eq_true_eq] at hg
    exact hg.1.1.1.1.1.2
theorem lower_letter (r : Int) : letterI (lowerI r) = letterI r := by
  by_cases h : r < 0 ∨ 1327 < r
  · rw [lower_out h]
  · obtain ⟨n, rfl, _, hg⟩ := lower_good h
    unfold goodN at hg; simp only [Bool.and_eq_true, decide_eq_true_eq, beq_iff_eq] at hg
    exact hg.1.1.1.1.2
theorem lower_digit (r : Int) : digitI (lowerI r) = digitI r := by
  by_cases h : r < 0 ∨ 1327 < r
  · rw [lower_out h]
  · obtain ⟨n, rfl, _, hg⟩ := lower_good h
    unfold goodN at hg; simp only [Bool.and_eq_true, decide_eq_true_eq, beq_iff_eq] at hg
    exact hg.1.1.1.2
theorem lower_mark (r : Int) : markI (lowerI r) = markI r := by
  by_cases h : r < 0 ∨ 1327 < r
  · rw [lower_out h]
  · obtain ⟨n, rfl, _, hg⟩ := lower_good h
    unfold goodN at hg; simp only [Bool.and_eq_true, decide_eq_true_eq, beq_iff_eq] at hg
    exact hg.1.1.2
theorem lower_moved {r : Int} (hr : lowerI r ≠ r) : letterI r = true := by
  by_cases h : r < 0 ∨ 1327 < r
  · exact absurd (lower_out h) hr
  · obtain ⟨n, rfl, _, hg⟩ := lower_good h
    unfold goodN at hg; simp only [Bool.and_eq_true, decide_eq_true_eq, Bool.or_eq_true] at hg
    rcases hg.1.2 with h | h
    · exact absurd h hr
    · exact h
def lowN (r : Nat) : Nat := (lowerI r).toNat
theorem lower_nonneg {r : Int} (h : 0 ≤ r) : 0 ≤ lowerI r := by
  by_cases h2 : r < 0 ∨ 1327 < r
  · rw [lower_out h2]; exact h
  · obtain ⟨n, rfl, _, hg⟩ := lower_good h2
    unfold goodN at hg; simp only [Bool.and_eq_true, decide_eq_true_eq] at hg
    exact hg.1.1.1.1.1.1.1
theorem lowN_cast (r : Nat) : ((lowN r : Nat) : Int) = lowerI r := by unfold lowN; exact Int.toNat_of_nonneg (lower_nonneg (by omega))
theorem lowN_out {r : Nat} (h : 1327 < r) : lowN r = r := by unfold lowN; rw [lower_out (by omega)]; simp
theorem lowN_lt {r : Nat} (h : r < 1328) : lowN r < 1328 := by
  have hg := good_all r h
  unfold goodN at hg; simp only [Bool.and_eq_true, decide_eq_true_eq] at hg
  have := hg.1.1.1.1.1.1
  unfold lowN; omega
theorem lowN_idem (r : Nat) : lowN (lowN r) = lowN r := by
  have : ((lowN (lowN r) : Nat) : Int) = (lowN r : Nat) := by rw [lowN_cast, lowN_cast, lower_idem]
  omega
theorem lowN_rune {r : Nat} (h : isRune (r : Int) = true) : isRune (lowN r : Int) = true := by
  by_cases h2 : r < 1328
  · have := lowN_lt h2; exact isRune_nat.2 (by omega)
  · rw [lowN_out (by omega)]; exact h
theorem lowN_len (r : Nat) : (formP (lowN r)).length = (formP r).length := by
  by_cases h2 : r < 1328
  · have hg := good_all r h2
    unfold goodN at hg; simp only [Bool.and_eq_true, decide_eq_true_eq] at hg
    exact hg.2
  · rw [lowN_out (by omega)]
theorem lowN_fffd (r : Nat) : lowN r = 65533 ↔ r = 65533 := by
  by_cases h2 : r < 1328
  · have := lowN_lt h2; omega
  · rw [lowN_out (by omega)]
theorem lowN_ne (r : Nat) : lowN r = r ↔ lowerI r = (r : Int) := by
  rw [← lowN_cast]; omega

def lowB (p : Nat × List UInt8) : List UInt8 := if lowN p.1 = p.1 then p.2 else formP (lowN p.1)
def foldL (l : List UInt8) : List UInt8 := (cutsL l).flatMap lowB
theorem fold_nil : foldL [] = [] := rfl
theorem fold_step {l : List UInt8} (h : l ≠ []) : foldL l = lowB ((nextL l).1, l.take (nextL l).2) ++ foldL (l.drop (nextL l).2) := by
  unfold foldL; rw [cuts_step h, List.flatMap_cons]
/-- a piece is odd, or a rune's form -/
def Piece (p : Nat × List UInt8) : Prop := (p.1 = 65533 ∧ ∃ c, p.2 = [c]) ∨ (isRune (p.1 : Int) = true ∧ p.2 = formP p.1 ∧ oddP p = false)
theorem form_fffd : (formP 65533).length = 3 := rfl
theorem piece_head {l : List UInt8} (h : l ≠ []) : Piece ((nextL l).1, l.take (nextL l).2) := by
  by_cases h1 : nextL l = (65533, 1)
  · left
    rw [h1]
    cases l with
    | nil => exact absurd rfl h
    | cons b t => exact ⟨rfl, b, rfl⟩
  · right
    obtain ⟨h2, h3⟩ := next_back h h1
    refine ⟨h2, h3.symm, ?_⟩
    unfold oddP
    rw [← h3]
    simp only [Bool.and_eq_false_iff, beq_eq_false_iff_ne]
    by_cases e : (nextL l).1 = 65533
    · right; rw [e, form_fffd]; decide
    · exact .inl e
theorem piece_all : ∀ (l : List UInt8), ∀ p ∈ cutsL l, Piece p := by
  apply cuts_ind
  · intro p hp; cases hp
  · intro l h ih p hp
    rw [cuts_step h] at hp
    rcases List.mem_cons.1 hp with rfl | hp
    · exact piece_head h
    · exact ih p hp
theorem low_fffd : lowN 65533 = 65533 := lowN_out (by decide)
theorem lowB_odd {c : UInt8} : lowB (65533, [c]) = [c] := by unfold lowB; rw [if_pos low_fffd]
theorem lowB_form {p : Nat × List UInt8} (h : p.2 = formP p.1) : lowB p = formP (lowN p.1) := by
  unfold lowB
  split
  · rename_i e; rw [e, h]
  · rfl
theorem lowB_len {p : Nat × List UInt8} (h : Piece p) : (lowB p).length = p.2.length := by
  obtain ⟨r, b⟩ := p
  rcases h with ⟨h1, c, h2⟩ | ⟨_, h2, _⟩
  · simp only at h1 h2; subst h1; subst h2; rw [lowB_odd]
  · rw [lowB_form h2, lowN_len, h2]
theorem fold_len : ∀ l : List UInt8, (foldL l).length = l.length := by
  apply cuts_ind
  · rfl
  · intro l h ih
    have hp := next_pos h
    rw [fold_step h, List.length_append, ih, lowB_len (piece_head h), List.length_drop, List.length_take]; omega
theorem take_form {r : Nat} {t : List UInt8} : (formP r ++ t).take (formP r).length = formP r ∧ (formP r ++ t).drop (formP r).length = t := ⟨List.take_left, List.drop_left⟩
theorem cuts_form {r : Nat} (hr : isRune (r : Int) = true) (t : List UInt8) : cutsL (formP r ++ t) = (r, formP r) :: cutsL t := by
  rw [cuts_step (by have := form_ne r; simp [this]), next_form hr t]
  simp only
  rw [take_form.1, take_form.2]
theorem takeWhile_form {r : Nat} (hr : isRune (r : Int) = true) (t : List UInt8) : (formP r ++ t).takeWhile cont = [] := by
  obtain ⟨b, s, e, hb, _⟩ := form_cont (isRune_nat.1 hr).1
  rw [e, List.cons_append, List.takeWhile_cons, hb]; rfl
theorem split_head {l : List UInt8} (h : l ≠ []) : (∃ c, nextL l = (65533, 1) ∧ l = c :: l.drop 1) ∨ (isRune ((nextL l).1 : Int) = true ∧ l = formP (nextL l).1 ++ l.drop (nextL l).2 ∧ (formP (nextL l).1).length = (nextL l).2 ∧ nextL l ≠ (65533, 1)) := by
  by_cases h1 : nextL l = (65533, 1)
  · left
    cases l with
    | nil => exact absurd rfl h
    | cons b t => exact ⟨b, h1, rfl⟩
  · right
    obtain ⟨h2, h3⟩ := next_back h h1
    have hp := next_pos h
    exact ⟨h2, by rw [h3, List.take_append_drop], by rw [h3, List.length_take]; omega, h1⟩
theorem cont_fold : ∀ l : List UInt8, (foldL l).takeWhile cont = l.takeWhile cont := by
  apply cuts_ind
  · rfl
  · intro l h ih
    rcases split_head h with ⟨c, h1, h2⟩ | ⟨h1, h2, h3, _⟩
    · rw [fold_step h, h1]
      simp only
      rw [h1] at ih
      simp only at ih
      have e : l.take 1 = [c] := by rw [h2]; rfl
      rw [e, lowB_odd]
      conv => rhs; rw [h2]
      rw [List.cons_append, List.nil_append, List.takeWhile_cons, List.takeWhile_cons, ih]
    · rw [fold_step h, lowB_form (next_back h (by rename_i h4; exact h4)).2.symm, takeWhile_form (lowN_rune h1)]
      conv => rhs; rw [h2]
      rw [takeWhile_form h1]
theorem cuts_fold : ∀ l : List UInt8, cutsL (foldL l) = (cutsL l).map fun p => (lowN p.1, lowB p) := by
  apply cuts_ind
  · rfl
  · intro l h ih
    rcases split_head h with ⟨c, h1, h2⟩ | ⟨h1, h2, h3, h4⟩
    · have e : l.take 1 = [c] := by rw [h2]; rfl
      rw [cuts_step h, List.map_cons, fold_step h, h1]
      simp only
      rw [h1] at ih
      simp only at ih
      rw [e, lowB_odd, low_fffd]
      have hn : nextL (c :: foldL (l.drop 1)) = (65533, 1) := by
        rw [next_same (t' := l.drop 1) (cont_fold _), ← h2, h1]
      rw [List.cons_append, List.nil_append, cuts_step (l := c :: foldL (l.drop 1)) (by simp), hn]
      simp only
      rw [List.take_succ_cons, List.take_zero, List.drop_succ_cons, List.drop_zero, ih]
    · rw [cuts_step h, List.map_cons, fold_step h, lowB_form (next_back h h4).2.symm, cuts_form (lowN_rune h1), ih]
theorem fold_idem (l : List UInt8) : foldL (foldL l) = foldL l := by
  show (cutsL (foldL l)).flatMap lowB = _
  rw [cuts_fold, List.flatMap_map]
  unfold foldL
  congr 1
  funext p
  show lowB (lowN p.1, lowB p) = lowB p
  conv => lhs; unfold lowB
  rw [if_pos (lowN_idem _)]; rfl
theorem valid_fold (l : List UInt8) : validL (foldL l) = validL l := by
  unfold validL
  rw [cuts_fold, List.all_map]
  have h := piece_all l
  generalize cutsL l = m at h
  induction m with
  | nil => rfl
  | cons p m ih =>
    rw [List.all_cons, List.all_cons, ih fun q hq => h q (List.mem_cons_of_mem _ hq)]
    congr 1
    show (!oddP (lowN p.1, lowB p)) = !oddP p
    unfold oddP
    simp only
    rw [lowB_len (h p List.mem_cons_self)]
    congr 2
    rw [Bool.eq_iff_iff, beq_iff_eq, beq_iff_eq]; exact lowN_fffd p.1
theorem takeWhile_stop {t : List UInt8} (h : t = [] ∨ ∃ b u, t = b :: u ∧ cont b = false) : ∀ s : List UInt8, (s ++ t).takeWhile cont = s.takeWhile cont
  | [] => by
    rcases h with rfl | ⟨b, u, rfl, hb⟩
    · rfl
    · rw [List.nil_append, List.takeWhile_cons, hb]; rfl
  | x :: s => by
    rw [List.cons_append, List.takeWhile_cons, List.takeWhile_cons, takeWhile_stop h s]
theorem cuts_append {t : List UInt8} : ∀ s : List UInt8, (validL s = true ∨ t = [] ∨ ∃ b u, t = b :: u ∧ cont b = false) → cutsL (s ++ t) = cutsL s ++ cutsL t := by
  apply cuts_ind
  · intro _; rfl
  · intro l h ih hc
    have hv : validL l = true → validL (l.drop (nextL l).2) = true ∧ nextL l ≠ (65533, 1) := fun hv => by
      unfold validL at hv
      rw [cuts_step h, List.all_cons, Bool.and_eq_true] at hv
      refine ⟨hv.2, fun e => ?_⟩
      have h5 := hv.1
      rw [e] at h5
      cases l with
      | nil => exact absurd rfl h
      | cons b u => simp [oddP] at h5
    have ih := ih (hc.imp (fun hh => (hv hh).1) id)
    rcases split_head h with ⟨c, h1, h2⟩ | ⟨h1, h2, h3, h4⟩
    · rcases hc with hc | hc
      · exact absurd h1 (hv hc).2
      · rw [h1] at ih
        simp only at ih
        rw [cuts_step h, h1]
        simp only
        have e : l.take 1 = [c] := by rw [h2]; rfl
        rw [e]
        have hn : nextL (c :: (l.drop 1 ++ t)) = (65533, 1) := by
          rw [next_same (t' := l.drop 1) (takeWhile_stop hc _), ← h2, h1]
        have hs : l ++ t = c :: (l.drop 1 ++ t) := (congrArg (· ++ t) h2).trans rfl
        rw [hs, cuts_step (l := c :: (l.drop 1 ++ t)) (by simp), hn]
        simp only
        rw [List.take_succ_cons, List.take_zero, List.drop_succ_cons, List.drop_zero, ih]; rfl
    · have hs : l ++ t = formP (nextL l).1 ++ (l.drop (nextL l).2 ++ t) := by
        conv => lhs; rw [h2]
        rw [List.append_assoc]
      rw [hs, cuts_form h1, ih, cuts_step h, (next_back h h4).2]; rfl
theorem fold_append {s t : List UInt8} (h : validL s = true ∨ t = [] ∨ ∃ b u, t = b :: u ∧ cont b = false) : foldL (s ++ t) = foldL s ++ foldL t := by
  unfold foldL; rw [cuts_append s h, List.flatMap_append]
/-- forms behind one another are read as their runes -/
theorem cuts_forms : ∀ (rs : List Nat), (∀ r ∈ rs, isRune (r : Int) = true) → cutsL (rs.flatMap formP) = rs.map fun r => (r, formP r)
  | [], _ => rfl
  | r :: rs, h => by
    rw [List.flatMap_cons, cuts_form (h r List.mem_cons_self), cuts_forms rs fun x hx => h x (List.mem_cons_of_mem _ hx)]; rfl
theorem valid_forms {rs : List Nat} (h : ∀ r ∈ rs, isRune (r : Int) = true) : validL (rs.flatMap formP) = true := by
  unfold validL
  rw [cuts_forms rs h, List.all_map, List.all_eq_true]
  intro r hr
  show (!oddP (r, formP r)) = true
  unfold oddP
  simp only [Bool.not_eq_true', Bool.and_eq_false_iff, beq_eq_false_iff_ne]
  by_cases e : r = 65533
  · right; rw [e, form_fffd]; decide
  · exact .inl e
end Fld
end Go.Proofs.YtljjaepadnmmeaaDoor
