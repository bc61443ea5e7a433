/- Stage 6 ahead (PLAIN): two texts with a blank between. -/
import Derived.Test.YtljjaepadnmmeaaDoorAnaN
namespace Go.Proofs.YtljjaepadnmmeaaDoor
namespace Ana
open Fld

theorem takeWhile_halt {p : Nat → Bool} {r : Nat} (h : p r = false) (m : List Nat) : ∀ l : List Nat, (l ++ r :: m).takeWhile p = l.takeWhile p
  | [] => by simp [h]
  | q :: l => by
    rw [List.cons_append, List.takeWhile_cons, List.takeWhile_cons, takeWhile_halt h m l]
theorem runs_apart {n r : Nat} (h : mayN n r = false) (m : List Nat) : ∀ (l : List Nat) (i : Nat), runs n i (l ++ r :: m) = runs n i l ++ runs n (i + l.length + 1) m := by
  intro l
  refine runs_ind (n := n) (P := fun l => ∀ i, runs n i (l ++ r :: m) = runs n i l ++ runs n (i + l.length + 1) m) (fun i => ?_) (fun q l ih1 ih2 i => ?_) l
  · have hb : beginI n (r : Int) = false := by unfold beginI; rw [show mayI n (r : Int) = false from h]; rfl
    rw [List.nil_append, runs_cons, hb]
    simp [runs_nil]
  · have ht : (l.takeWhile (mayN n)).length ≤ l.length := List.IsPrefix.length_le (List.takeWhile_prefix _)
    rw [List.cons_append, runs_cons, runs_cons, takeWhile_halt h]
    split
    · rw [List.drop_append_of_le_length ht, ih2, List.cons_append, List.length_drop, List.length_cons]
      congr 3
      omega
    · rw [ih1, List.length_cons]
      congr 2
      omega
theorem runs_shift {n j : Nat} : ∀ (m : List Nat) (i : Nat), runs n (i + j) m = (runs n i m).map fun p => (p.1 + j, p.2 + j) := by
  intro m
  refine runs_ind (n := n) (P := fun m => ∀ i, runs n (i + j) m = (runs n i m).map fun p => (p.1 + j, p.2 + j)) (fun i => rfl) (fun q l ih1 ih2 i => ?_) m
  rw [runs_cons, runs_cons]
  split
  · rw [List.map_cons, ← ih2]
    congr 1
    · exact Prod.ext rfl (by simp only; omega)
    · congr 1; omega
  · rw [← ih1]; congr 1; omega
theorem cuts_blank (a b : List UInt8) : cutsL (a ++ 32 :: b) = cutsL a ++ (32, [32]) :: cutsL b := by
  rw [cuts_append a (.inr (.inr ⟨32, b, rfl, by decide⟩)), cuts_step (l := 32 :: b) (by simp)]
  rfl
theorem atC_left (X : List (Nat × List UInt8)) : ∀ (ps : List (Nat × List UInt8)) (k : Nat), k ≤ ps.length → atC (ps ++ X) k = atC ps k
  | ps, 0, _ => by rw [atC, atC]
  | [], k + 1, h => by simp at h
  | p :: ps, k + 1, h => by rw [List.cons_append, atC, atC, atC_left X ps k (by simp only [List.length_cons] at h; omega)]
theorem atC_right (X : List (Nat × List UInt8)) : ∀ (ps : List (Nat × List UInt8)) (k : Nat), atC (ps ++ X) (ps.length + k) = (ps.flatMap (·.2)).length + atC X k
  | [], k => by simp
  | p :: ps, k => by
    rw [List.cons_append, List.length_cons, show ps.length + 1 + k = (ps.length + k) + 1 by omega, atC, atC_right X ps k, List.flatMap_cons, List.length_append]; omega
theorem at_left {a b : List UInt8} {k : Nat} (h : k ≤ (cutsL a).length) : atL (a ++ 32 :: b) k = atL a k := by
  unfold atL; rw [cuts_blank, atC_left _ _ _ h]
theorem at_right {a b : List UInt8} (k : Nat) : atL (a ++ 32 :: b) (k + ((cutsL a).length + 1)) = atL b k + (a.length + 1) := by
  unfold atL
  rw [cuts_blank, show k + ((cutsL a).length + 1) = (cutsL a).length + (k + 1) by omega, atC_right, cuts_flat, atC]
  simp only [List.length_cons, List.length_nil]; omega
theorem pieces_left {a b : List UInt8} {i k : Nat} (hi : i ≤ k) (h : k ≤ (cutsL a).length) : pieces (a ++ 32 :: b) i k = pieces a i k := by
  unfold pieces
  rw [cuts_blank, List.drop_append_of_le_length (by omega), List.take_append_of_le_length (by rw [List.length_drop]; omega)]
theorem pieces_right {a b : List UInt8} (i k : Nat) : pieces (a ++ 32 :: b) (i + ((cutsL a).length + 1)) (k + ((cutsL a).length + 1)) = pieces b i k := by
  unfold pieces
  rw [cuts_blank, show i + ((cutsL a).length + 1) = (cutsL a).length + (i + 1) by omega, ← List.drop_drop, List.drop_left, List.drop_succ_cons, show k + ((cutsL a).length + 1) - ((cutsL a).length + (i + 1)) = k - i by omega]
def shiftT (c d : Int) (t : Tok) : Tok := { t with pos := t.pos + c, fr := t.fr + d, en := t.en + d }
theorem zip_map_pair {f : Nat × Nat → Nat × Nat} : ∀ (l : List (Nat × Nat)) (j : Nat), (l.map f).zipIdx j = (l.zipIdx j).map fun x => (f x.1, x.2)
  | [], _ => rfl
  | p :: l, j => by rw [List.map_cons, List.zipIdx_cons, List.zipIdx_cons, List.map_cons, zip_map_pair l (j + 1)]
theorem zip_from : ∀ (l : List (Nat × Nat)) (j c : Nat), l.zipIdx (j + c) = (l.zipIdx j).map fun x => (x.1, x.2 + c)
  | [], _, _ => rfl
  | p :: l, j, c => by rw [List.zipIdx_cons, List.zipIdx_cons, List.map_cons, ← zip_from l (j + 1) c, show j + 1 + c = j + c + 1 by omega]
theorem toks_parts {n : Nat} (hn : n = 1 ∨ n = 2) (a b : List UInt8) : toks n (a ++ 32 :: b) = toks n a ++ (toks n b).map (shiftT ((toks n a).length : Nat) ((a.length : Int) + 1)) := by
  have hc : ∀ l, cut n l = runs n 0 l := fun l => by unfold cut; rw [if_neg (by omega), if_neg (by omega)]
  have hm : mayN n 32 = false := by rcases hn with rfl | rfl <;> decide +kernel
  have hr : runesOf (a ++ 32 :: b) = runesOf a ++ 32 :: runesOf b := by unfold runesOf; rw [cuts_blank, List.map_append, List.map_cons]
  have hl : (toks n a).length = (runs n 0 (runesOf a)).length := by unfold toks; rw [List.length_map, List.length_zipIdx, hc]
  rw [hl]
  unfold toks
  rw [hc, hc, hc, hr, runs_apart hm, runes_len, show 0 + (cutsL a).length + 1 = 0 + ((cutsL a).length + 1) by omega, runs_shift, List.zipIdx_append, List.map_append]
  congr 1
  · refine List.map_congr_left fun x hx => ?_
    have hx1 := ((zip_pair (R := fun _ _ => True) (runs n 0 (runesOf a)) 0 (List.pairwise_of_forall (fun _ _ => trivial))).2 x hx).2
    have h1 := (runs_shape (n := n) (runesOf a) 0).1 x.1 hx1
    rw [runes_len] at h1
    rw [pieces_left (by omega) (by omega), at_left (by omega), at_left (by omega)]
  · rw [zip_map_pair, Nat.zero_add, show (runs n 0 (runesOf a)).length = 0 + (runs n 0 (runesOf a)).length by omega, zip_from, List.map_map, List.map_map, List.map_map]
    refine List.map_congr_left fun x _ => ?_
    simp only [Function.comp, shiftT]
    rw [pieces_right, at_right, at_right]
    simp only [Tok.mk.injEq, true_and]
    omega
end Ana
end Go.Proofs.YtljjaepadnmmeaaDoor
