/- Stage 6 ahead (PLAIN): what a run answers. -/
import Derived.Test.YtljjaepadnmmeaaDoorAnaO
namespace Go.Proofs.YtljjaepadnmmeaaDoor
namespace Ana
open Fld

theorem zip_get : ∀ (l : List (Nat × Nat)) (j i : Nat), (l.zipIdx j)[i]? = (l[i]?).map fun p => (p, j + i)
  | [], _, _ => by simp
  | p :: l, j, 0 => by simp
  | p :: l, j, i + 1 => by
    rw [List.zipIdx_cons, List.getElem?_cons_succ, List.getElem?_cons_succ, zip_get l (j + 1) i, show j + 1 + i = j + (i + 1) by omega]
/-- a tokenizer's tokens are the text's own bytes, numbered -/
theorem toks_own {n : Nat} {s : List UInt8} {i : Nat} {t : Tok} (h : (toks n s)[i]? = some t) : t.pos = (i : Int) ∧ t.text = (s.drop t.fr.toNat).take (t.en.toNat - t.fr.toNat) := by
  unfold toks at h
  rw [List.getElem?_map, zip_get] at h
  cases hc : (cut n (runesOf s))[i]? with
  | none => rw [hc] at h; cases h
  | some p =>
    rw [hc] at h
    simp only [Option.map_some, Option.some.injEq] at h
    subst h
    have hm : p ∈ cut n (runesOf s) := List.mem_of_getElem? hc
    have h1 := (cut_shape n (runesOf s)).1 p hm
    rw [runes_len] at h1
    refine ⟨by simp, ?_⟩
    simp only [Int.toNat_natCast]
    exact (slice_pieces (by omega) h1.2).symm
theorem links_len : ∀ (c : List Int) (l : List Tok), l.length ≤ 4096 → (linksL c l).1.length ≤ 4096
  | [], _, h => h
  | n :: c, l, h => by
    rw [linksL]
    split
    · refine links_len c _ ?_
      unfold linkL
      split
      · split
        · rename_i h; exact h
        · simp
      · simp
    · simp
theorem run_len (c : List Int) (s : List UInt8) : (runL c s).1.length ≤ 4096 := by
  unfold runL
  split
  · simp
  · split
    · simp
    · split
      · simp
      · exact links_len _ _ (by omega)
theorem check_two (c : List Int) : checkL c = 60 ∨ checkL c = 0 := by
  unfold checkL; split
  · exact .inl rfl
  · split
    · exact .inl rfl
    · exact .inr rfl
theorem links_err : ∀ (c : List Int) (l : List Tok), (linksL c l).2 ≠ 0 → (linksL c l).1 = []
  | [], _, h => absurd rfl h
  | n :: c, l, h => by
    rw [linksL] at h ⊢
    split at h
    · rename_i e; rw [if_pos e]; exact links_err c _ h
    · rename_i e; rw [if_neg e]
theorem run_err {c : List Int} {s : List UInt8} (h : (runL c s).2 ≠ 0) : (runL c s).1 = [] := by
  unfold runL at h ⊢
  split
  · rfl
  · rename_i h1
    rw [if_neg h1] at h
    split
    · rfl
    · rename_i h2
      rw [if_neg h2] at h
      split
      · rfl
      · rename_i h3
        rw [if_neg h3] at h
        exact links_err _ _ h
theorem zip_any {α : Type} (p : α × Nat → Bool) : ∀ (a b : List α) (j : Nat), ((a ++ b).zipIdx j).any p = ((a.zipIdx j).any p || (b.zipIdx (j + a.length)).any p) := by
  intro a b j
  rw [List.zipIdx_append, List.any_append]
theorem check_front {c : List Int} {n : Int} (hc : c ≠ []) (h : checkL (c ++ [n]) = 0) : checkL c = 0 := by
  unfold checkL at h ⊢
  have hp := List.length_pos_iff.2 hc
  rw [List.length_append] at h
  split at h
  · cases h
  · rename_i h1
    simp only [List.length_cons, List.length_nil] at h1
    rw [if_neg (by omega)]
    split at h
    · cases h
    · rename_i h2
      rw [if_neg]
      intro h3
      apply h2
      rw [Bool.or_eq_true] at h3 ⊢
      rcases h3 with h3 | h3
      · left; rw [zip_any, h3, Bool.true_or]
      · right
        rw [Bool.not_eq_true'] at h3 ⊢
        rw [decide_eq_false_iff_not] at h3 ⊢
        exact fun h4 => h3 (List.nodup_append.1 h4).1
theorem run_ok {m : Int} {c : List Int} (h : checkL (m :: c) = 0) (s : List UInt8) : runL (m :: c) s = if 4096 < s.length then ([], 3) else if 4096 < (toks m.toNat s).length then ([], 84) else linksL c (toks m.toNat s) := by
  unfold runL
  rw [if_neg (by rw [h]; decide)]
  rfl
/-- a chain is its links, one behind the other -/
theorem run_snoc {c : List Int} {n : Int} (hc : c ≠ []) (h : checkL (c ++ [n]) = 0) (s : List UInt8) : runL (c ++ [n]) s = if (runL c s).2 = 0 then linkL n (runL c s).1 else ([], (runL c s).2) := by
  have h1 := check_front hc h
  obtain ⟨m, c, rfl⟩ := List.exists_cons_of_ne_nil hc
  rw [run_ok h1, List.cons_append, run_ok (by rw [← List.cons_append]; exact h)]
  by_cases h2 : 4096 < s.length
  · rw [if_pos h2, if_pos h2, if_neg (by decide)]
  · rw [if_neg h2, if_neg h2]
    by_cases h3 : 4096 < (toks m.toNat s).length
    · rw [if_pos h3, if_pos h3, if_neg (by decide)]
    · rw [if_neg h3, if_neg h3]
      exact links_snoc n c _
/-- no text that is not too long has too many tokens -/
theorem runs_len {n : Nat} : ∀ (l : List Nat) (i : Nat), (runs n i l).length ≤ l.length := by
  intro l
  refine runs_ind (n := n) (P := fun l => ∀ i, (runs n i l).length ≤ l.length) (fun i => by rw [runs_nil]; exact Nat.le_refl _) (fun r l ih1 ih2 i => ?_) l
  rw [runs_cons]
  split
  · have := ih2 (i + 1 + (l.takeWhile (mayN n)).length)
    rw [List.length_drop] at this
    simp only [List.length_cons]; omega
  · have := ih1 (i + 1); simp only [List.length_cons]; omega
theorem grams_len : ∀ (ps : List (Nat × Nat)) (a c : Nat), (∀ p ∈ ps, a ≤ p.1 ∧ p.1 < p.2 ∧ p.2 ≤ c) → ps.Pairwise (fun p q => p.2 ≤ q.1) → a ≤ c →
    (ps.flatMap fun p => (if p.2 = p.1 + 1 then [p] else []) ++ (List.range (p.2 - p.1 - 1)).map fun k => (p.1 + k, p.1 + k + 2)).length ≤ c - a
  | [], _, _, _, _, _ => by simp
  | p :: ps, a, c, h1, h2, h3 => by
    obtain ⟨h4, h5⟩ := List.pairwise_cons.1 h2
    have hp := h1 p (List.mem_cons_self ..)
    have ih := grams_len ps p.2 c (fun q hq => by have := h1 q (List.mem_cons_of_mem _ hq); have := h4 q hq; omega) h5 hp.2.2
    rw [List.flatMap_cons, List.length_append, List.length_append, List.length_map, List.length_range]
    have : (if p.2 = p.1 + 1 then [p] else []).length ≤ p.2 - p.1 - (p.2 - p.1 - 1) := by split <;> simp <;> omega
    omega
theorem toks_few (n : Nat) (s : List UInt8) : (toks n s).length ≤ s.length := by
  have h0 := cuts_len s
  unfold toks
  rw [List.length_map, List.length_zipIdx]
  refine Nat.le_trans ?_ h0
  rw [← runes_len]
  unfold cut
  split
  · split
    · simp
    · rename_i h
      have := List.length_pos_iff.2 h
      simp; omega
  · split
    · obtain ⟨h1, h2⟩ := runs_shape (n := 1) (runesOf s) 0
      exact grams_len _ 0 _ (fun p hp => by have := h1 p hp; omega) h2 (Nat.zero_le _)
    · exact runs_len _ _
end Ana
end Go.Proofs.YtljjaepadnmmeaaDoor
