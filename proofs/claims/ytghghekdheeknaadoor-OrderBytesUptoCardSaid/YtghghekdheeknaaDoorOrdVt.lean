/- Stage 7, the program: a text read. -/
import Derived.Test.YtghghekdheeknaaDoorOrdV
import Derived.Shelf.RegionOpen
import Derived.Deep.RegionLaw
namespace Go.Proofs.YtghghekdheeknaaDoor
open Go.RowKit Go.Maps Odr Go.Shelf
attribute [local go_sem] Oper.semAt_some

def nz (c : UInt8) : Bool := c != 0
theorem tk_full (p : UInt8 → Bool) (l : List UInt8) : tk p l.length l = l.takeWhile p ∧ rs p l.length l = l.dropWhile p :=
  tk_all (List.IsPrefix.length_le (List.takeWhile_prefix p))
theorem nz_iff {c : UInt8} : nz c = true ↔ c.toNat ≠ 0 := by
  unfold nz
  constructor
  · intro h e
    have : c = 0 := UInt8.toNat_inj.1 (by rw [e]; rfl)
    subst this; exact absurd h (by decide)
  · intro h
    by_cases e : c = 0
    · subst e; exact absurd rfl h
    · simpa using e
/-- one round of reading a text -/
theorem unesc_run : ∀ l : List UInt8, unesc l = match l.dropWhile nz with
    | a :: b :: s => if a.toNat = 0 ∧ b.toNat = 1 then some (l.takeWhile nz, s) else if a.toNat = 0 ∧ b.toNat = 255 then (unesc s).map fun p => (l.takeWhile nz ++ (0 :: p.1), p.2) else none
    | _ => none
  | [] => rfl
  | [c] => by
    by_cases h : c.toNat = 0
    · have : nz c = false := by cases e : nz c with | true => exact absurd h (nz_iff.1 e) | false => rfl
      rw [List.dropWhile_cons, this]; simp [unesc]
    · have : nz c = true := nz_iff.2 h
      rw [List.dropWhile_cons, this]; simp [unesc]
  | c :: d :: t => by
    by_cases h : c.toNat = 0
    · have hc : nz c = false := by cases e : nz c with | true => exact absurd h (nz_iff.1 e) | false => rfl
      rw [List.dropWhile_cons, List.takeWhile_cons, hc, unesc, if_pos h]
      simp only [Bool.false_eq_true, if_false, h, true_and]
      split
      · rfl
      · split
        · rfl
        · rfl
    · have hc : nz c = true := nz_iff.2 h
      have ih := unesc_run (d :: t)
      rw [List.dropWhile_cons, List.takeWhile_cons, hc, unesc, if_neg h, ih]
      simp only [if_true]
      generalize List.dropWhile nz (d :: t) = r
      match r with
      | [] => rfl
      | [_] => rfl
      | a :: b :: s =>
        simp only
        split
        · rfl
        · split
          · cases unesc s with
            | none => rfl
            | some p => rfl
          · rfl
theorem unesc_le : ∀ (n : Nat) (l : List UInt8), l.length ≤ n → ∀ p, unesc l = some p → p.1.length + p.2.length + 2 ≤ l.length
  | 0, l, h, p, hp => by
    have : l = [] := List.eq_nil_of_length_eq_zero (by omega)
    subst this; cases hp
  | n + 1, l, h, p, hp => by
    match l, h, hp with
    | [], _, hp => cases hp
    | [c], _, hp => simp [unesc] at hp
    | c :: d :: t, h, hp =>
      rw [unesc] at hp
      split at hp
      · split at hp
        · cases hp; simp
        · split at hp
          · cases ht : unesc t with
            | none => rw [ht] at hp; cases hp
            | some q =>
              rw [ht] at hp
              cases hp
              have := unesc_le n t (by simp at h; omega) q ht
              simp; omega
          · cases hp
      · cases ht : unesc (d :: t) with
        | none => rw [ht] at hp; cases hp
        | some q =>
          rw [ht] at hp
          cases hp
          have := unesc_le n (d :: t) (by simp at h ⊢; omega) q ht
          simp at this ⊢; omega
theorem take_but {b : Nat} {l : List UInt8} {w0 w : World} (hb : Mv b w0 l w) (hl : (l.length : Int) ≤ 4611686018427387904) :
    Calls Tryd.prog 49 #[.pointer (some ⟨b, 0, none⟩), .int .i64 (l.length : Int), .func (.func 99) #[] #[.pointer (some ⟨w.heap.size, 0, none⟩)]] (w.alloc (.cells #[.int .u8 0] 5)) fun e W => e = .returned (textV (l.takeWhile nz)) ∧ Mv b w0 (l.dropWhile nz) W ∧ W = (w.alloc (.cells #[.int .u8 0] 5)).setCell ⟨b, 0, none⟩ (textV (l.dropWhile nz)) := by
  have h := take_mv (m := l.length) e_but (hb.alloc (.cells #[.int .u8 0] 5)) hl hl (tells_but (w := w.alloc (.cells #[.int .u8 0] 5)) (B := w.heap.size) (o := 0) (cell_of (heap_new w _) rfl))
  have e1 : (fun c : UInt8 => c != 0) = nz := rfl
  rw [e1, (tk_full nz l).1, (tk_full nz l).2] at h
  exact h
def TextPost (b : Nat) (w : World) (r : Option (List UInt8 × List UInt8)) (e : Ending) (w' : World) : Prop :=
  match r with
  | some p => e = .returned (.tuple #[textV p.1, .bool true]) ∧ Mv b w p.2 w'
  | none => e = .returned (.tuple #[textV [], .bool false]) ∧ ∃ l, Mv b w l w'
theorem grown_set (W : World) (D : Nat) (u : Value) : W.grownBy (W.setCell ⟨D, 0, none⟩ u) (some D) :=
  ⟨rfl, rfl, rfl, by simp [World.setCell], fun k _ hn => Below.heap_setCell _ _ _ _ (fun e => hn (congrArg some (by first | exact e | exact e.symm)))⟩
/-- the builder stays where the reader's cell is set -/
theorem bld_rd {B bb b : Nat} {l r : List UInt8} {W : World} (h : Bld B bb l W) (hb : W.heap[b]? = some (rdr r)) (v : Value) : Bld B bb l (W.setCell ⟨b, 0, none⟩ v) := by
  have hne : b ≠ bb := by
    intro e
    rcases h with ⟨_, x, hx, _⟩ | ⟨_, x, hx, _⟩ <;>
    · rw [← e, hb] at hx
      injection hx with hx
      injection hx with _ h2 _
      exact absurd h2 (by decide)
  have one : ∀ p, Lib.BuilderAtF 71 5 B bb p (Lib.byteCells l) W → Lib.BuilderAtF 71 5 B bb p (Lib.byteCells l) (W.setCell ⟨b, 0, none⟩ v) := by
    rintro p ⟨hB, x, hx, hown, hn⟩
    refine ⟨hB, x, (Below.heap_setCell _ _ _ _ (Ne.symm hne)).trans hx, hown.kept (grown_set W b v) ?_, hn⟩
    cases hv : x.ownBlock with
    | none => exact .inl rfl
    | some g =>
      refine .inr fun e => ?_
      obtain ⟨c, fz, hgc⟩ := Lib.ownsRowF_kind hown g hv
      rw [Option.some.inj e] at hgc
      rw [hb] at hgc
      injection hgc with hgc
      injection hgc with _ h2 _
      exact absurd h2 (by decide)
  exact h.elim (fun x => .inl (one _ x)) (fun x => .inr (one _ x))
end Go.Proofs.YtghghekdheeknaaDoor
