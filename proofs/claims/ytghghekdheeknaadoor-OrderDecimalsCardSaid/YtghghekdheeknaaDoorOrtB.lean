/- Stage 7: the document's Decimal, in memory: the plain part and the pieces. -/
import Derived.Test.YtghghekdheeknaaDoorOrtA
import Derived.Deep.CutRange
namespace Go.Proofs.YtghghekdheeknaaDoor
open Go.RowKit Go.Maps Odr Go.Shelf
attribute [local go_sem] Oper.semAt_some

theorem refDigit_any (c : UInt8) (w : World) : Calls Tryd.prog 36 #[.int .u8 (c.toNat : Int)] w fun e w' => e = .returned (.bool (isDig c)) ∧ w = w' := by
  obtain ⟨x, hx⟩ : ∃ x, x = c.toNat := ⟨_, rfl⟩
  have hb : isDig c = decide (48 ≤ x ∧ x ≤ 57) := by rw [hx]; rfl
  rw [hb, ← hx]
  clear hb hx
  by_cases h1 : 48 ≤ x
  · have a1 : (48 : Int) ≤ (x : Int) := by omega
    by_cases h2 : x ≤ 57
    · have a2 : (x : Int) ≤ 57 := by omega
      have : decide (48 ≤ x ∧ x ≤ 57) = true := decide_eq_true ⟨h1, h2⟩
      rw [this]; clear this
      go_enter Tryd.func36, Tryd.ntmps36
      go_wp2
      go_ret
      exact ⟨ret_bool (by first | (simp; done) | (simp; omega)), rfl⟩
    · have a2 : (57 : Int) < (x : Int) := by omega
      have : decide (48 ≤ x ∧ x ≤ 57) = false := decide_eq_false (by omega)
      rw [this]; clear this
      go_enter Tryd.func36, Tryd.ntmps36
      go_wp2
      go_ret
      exact ⟨ret_bool (by first | (simp; done) | (simp; omega)), rfl⟩
  · have a1 : (x : Int) < 48 := by omega
    have : decide (48 ≤ x ∧ x ≤ 57) = false := decide_eq_false (by omega)
    rw [this]; clear this
    go_enter Tryd.func36, Tryd.ntmps36
    go_wp2
    go_ret
    exact ⟨ret_bool (by simp), rfl⟩
/-- one byte more behind an owned row of bytes -/
theorem append_byte1 {w : World} {ops : Array Oper} {rest : List Oper} {o : Oper} {a : Act} {Q : Exit → Act → World → Prop} (hgd : o.guard = none) (s x : Operand)
    (ho : o.op = .call { callee := .builtin .append, args := #[s, x], argTypes := #[63, 63] }) {B n b : Nat} {v0 : Value} {l0 : List UInt8} {c : UInt8} (hs : a.eval s = v0) (hown : w.ownsRow B 5 1 v0 n (l0.map bV)) (hB : B ≤ w.heap.size) (hx : a.eval x = .slice (some ⟨b, 0, none⟩) 1 1) (hc : w.cell? ⟨b, 0, none⟩ = some (bV c)) (h4 : n + 1 ≤ 140737488355328)
    (h : ∀ v' w', w'.ownsRow B 5 1 v' (n + 1) ((l0 ++ [c]).map bV) → w.grownBy w' v0.ownBlock → wpList Tryd.prog ops Q rest (a.put o.dst v') w') : wpList Tryd.prog ops Q (o :: rest) a w := by
  obtain ⟨i0, hi9, hz0, hz1, hz2⟩ := infoOf info_u8
  refine wpList_append_own (w := w) hgd s x 63 ho B 5 i0 (.int .u8 0) 1 1 Tryd.underlying63 hi9 hz0 hz1 hz2 rfl (by decide) _ n _ hs hown ⟨b, 0, none⟩ 1 1 [bV c] hx rfl (fun j u hu => ?_) (fun u hu => by rw [List.mem_singleton] at hu; rw [hu]; rfl) (by unfold maxLen; omega) (by omega) hB ?_
  · match j, hu with
    | 0, hu => cases hu; simpa [Addr.add] using hc
    | j + 1, hu => simp at hu
  · intro v' w' h2 h3 _
    exact h v' w' (by rw [List.map_append]; exact h2) h3
/-- the rest of a decimal behind its minus -/
def decP (b : Bool) (r : List UInt8) (sc : Nat) : Option Int :=
  let w := r.takeWhile isDig
  let r2 := r.dropWhile isDig
  let p := match r2 with | c :: t => if c.toNat = 46 then t.takeWhile isDig else [] | [] => []
  let r3 := match r2 with | c :: t => if c.toNat = 46 then t.dropWhile isDig else c :: t | [] => []
  let point := match r2 with | c :: _ => c.toNat == 46 | [] => false
  if w = [] ∨ 19 < w.length ∨ (w.head? = some 48 ∧ 1 < w.length) then none
  else if point = true ∧ p = [] then none
  else if r3 ≠ [] ∨ sc < p.length then none
  else
    let u := vals (w ++ p ++ List.replicate (sc - p.length) 48)
    if 9223372036854775808 < u then none
    else if b then some (-(u : Int)) else if u = 9223372036854775808 then none else some (u : Int)
theorem decN_P (s : List UInt8) (sc : Nat) : decN s sc = decP (s.head? == some 45) (if (s.head? == some 45) = true then s.drop 1 else s) sc := rfl
def badW (w : List UInt8) : Bool := decide (w = []) || decide (19 < w.length) || (decide (w.head? = some 48) && decide (1 < w.length))
theorem decP_bad {b : Bool} {r : List UInt8} {sc : Nat} (h : badW (r.takeWhile isDig) = true) : decP b r sc = none := by
  unfold decP
  simp only
  rw [if_pos]
  unfold badW at h
  simp only [Bool.or_eq_true, Bool.and_eq_true, decide_eq_true_eq] at h
  rcases h with (h | h) | ⟨h, h'⟩
  · exact .inl h
  · exact .inr (.inl h)
  · exact .inr (.inr ⟨h, h'⟩)
theorem good_not {w : List UInt8} (h : badW w = false) : ¬ (w = [] ∨ 19 < w.length ∨ (w.head? = some 48 ∧ 1 < w.length)) := by
  unfold badW at h
  simp only [Bool.or_eq_false_iff, Bool.and_eq_false_iff, decide_eq_false_iff_not] at h
  rintro (h1 | h1 | ⟨h1, h2⟩)
  · exact h.1.1 h1
  · exact h.1.2 h1
  · rcases h.2 with h3 | h3
    · exact h3 h1
    · exact h3 h2
/-- the digits, told as a number or none -/
def numP (b : Bool) (l : List UInt8) : Option Int :=
  if 9223372036854775808 < vals l then none else if b then some (-(vals l : Int)) else if vals l = 9223372036854775808 then none else some (vals l : Int)
theorem decP_whole {b : Bool} {r : List UInt8} {sc : Nat} (h : badW (r.takeWhile isDig) = false) (h2 : r.dropWhile isDig = []) : decP b r sc = numP b (r.takeWhile isDig ++ List.replicate sc 48) := by
  unfold decP numP
  simp only [h2]
  rw [if_neg (good_not h), if_neg (by simp), if_neg (by simp)]
  simp
theorem decP_other {b : Bool} {r t : List UInt8} {c : UInt8} {sc : Nat} (h : badW (r.takeWhile isDig) = false) (h2 : r.dropWhile isDig = c :: t) (hc : c.toNat ≠ 46) : decP b r sc = none := by
  unfold decP
  simp only [h2, hc, if_false]
  rw [if_neg (good_not h), if_neg (by simp [hc]), if_pos (.inl (by simp))]
theorem decP_point {b : Bool} {r t : List UInt8} {c : UInt8} {sc : Nat} (h : badW (r.takeWhile isDig) = false) (h2 : r.dropWhile isDig = c :: t) (hc : c.toNat = 46) :
    decP b r sc = if t.takeWhile isDig = [] ∨ t.dropWhile isDig ≠ [] ∨ sc < (t.takeWhile isDig).length then none else numP b (r.takeWhile isDig ++ t.takeWhile isDig ++ List.replicate (sc - (t.takeWhile isDig).length) 48) := by
  unfold decP numP
  simp only [h2, hc, if_true, beq_self_eq_true, true_and]
  rw [if_neg (good_not h)]
  by_cases h1 : t.takeWhile isDig = []
  · rw [if_pos h1, if_pos (.inl h1)]
  · rw [if_neg h1]
    by_cases h3 : t.dropWhile isDig ≠ [] ∨ sc < (t.takeWhile isDig).length
    · rw [if_pos h3, if_pos (.inr h3)]
    · rw [if_neg h3, if_neg (show ¬ (t.takeWhile isDig = [] ∨ t.dropWhile isDig ≠ [] ∨ sc < (t.takeWhile isDig).length) by
        rintro (h | h)
        · exact h1 h
        · exact h3 h)]
def decPR (q : Option Int) : Int × Int := match q with | some v => (v, 0) | none => (0, 70)
end Go.Proofs.YtghghekdheeknaaDoor
