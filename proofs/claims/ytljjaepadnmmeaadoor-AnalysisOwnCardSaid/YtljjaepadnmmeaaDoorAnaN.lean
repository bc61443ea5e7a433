/- Stage 6 ahead (PLAIN): filters done once more. -/
import Derived.Test.YtljjaepadnmmeaaDoorAnaM
namespace Go.Proofs.YtljjaepadnmmeaaDoor
namespace Ana
open Fld

theorem link_once {n : Int} (h : ∀ s, ∀ x ∈ one n s, one n x = [x]) : ∀ l, linkT n (linkT n l) = linkT n l := by
  intro l
  induction l with
  | nil => rfl
  | cons t l ih =>
    have e : linkT n (t :: l) = (one n t.text).map (fun x => { t with text := x }) ++ linkT n l := List.flatMap_cons
    have e2 : ∀ a b, linkT n (a ++ b) = linkT n a ++ linkT n b := fun a b => List.flatMap_append ..
    rw [e, e2, ih]
    congr 1
    have : ∀ xs : List (List UInt8), (∀ x ∈ xs, one n x = [x]) → linkT n (xs.map fun x => { t with text := x }) = xs.map fun x => { t with text := x } := by
      intro xs hx
      induction xs with
      | nil => rfl
      | cons x xs ih =>
        have e3 : linkT n ((x :: xs).map fun x => { t with text := x }) = (one n x).map (fun y => { t with text := y }) ++ linkT n (xs.map fun x => { t with text := x }) := List.flatMap_cons
        rw [e3, hx x (List.mem_cons_self ..), ih (fun y hy => hx y (List.mem_cons_of_mem _ hy))]
        rfl
    exact this _ (h t.text)
theorem one_lower (s : List UInt8) : ∀ x ∈ one 10 s, one 10 x = [x] := by
  intro x hx
  have e : ∀ s, one 10 s = [foldL s] := fun s => rfl
  rw [e] at hx ⊢
  rw [List.mem_singleton.1 hx, fold_idem]
theorem one_stop (s : List UInt8) : ∀ x ∈ one 11 s, one 11 x = [x] := by
  intro x hx
  have e : ∀ s, one 11 s = if stopL s then [] else [s] := fun s => rfl
  rw [e] at hx
  split at hx
  · cases hx
  · rename_i h
    rw [List.mem_singleton.1 hx, e, if_neg h]
/-- the first rune does not hang on what lies behind it -/
theorem next_more {l u : List UInt8} (h : l ≠ []) (h1 : nextL l ≠ (65533, 1)) : nextL (l ++ u) = nextL l := by
  rcases split_head h with ⟨c, h2, _⟩ | ⟨h2, h3, h4, _⟩
  · exact absurd h2 h1
  · have e : l ++ u = formP (nextL l).1 ++ (l.drop (nextL l).2 ++ u) := by rw [← List.append_assoc, ← h3]
    rw [e, next_form h2, h4]
theorem next_take {l : List UInt8} {k : Nat} (hl : l ≠ []) (h : (nextL l).2 ≤ k) : nextL (l.take k) = nextL l := by
  have hp := next_pos hl
  have hne : l.take k ≠ [] := by
    intro e
    have := congrArg List.length e
    rw [List.length_take, List.length_nil] at this; omega
  rcases split_head hl with ⟨c, h1, _⟩ | ⟨h1, h2, h3, _⟩
  · by_cases h4 : nextL (l.take k) = (65533, 1)
    · rw [h4, h1]
    · have := next_more (u := l.drop k) hne h4
      rw [List.take_append_drop] at this
      rw [this]
  · have e : l.take k = formP (nextL l).1 ++ (l.drop (nextL l).2).take (k - (nextL l).2) := by
      conv => lhs; rw [h2]
      rw [List.take_append, h3, List.take_of_length_le (by omega)]
    rw [e, next_form h1, h3]
/-- a text cut between two runes has just the runes ahead of the cut -/
theorem cuts_take : ∀ (s : List UInt8) (k : Nat), cutsL (((cutsL s).take k).flatMap (·.2)) = (cutsL s).take k := by
  intro s
  refine cuts_ind (P := fun s => ∀ k, cutsL (((cutsL s).take k).flatMap (·.2)) = (cutsL s).take k) (fun k => by rw [cuts_nil]; simp [cuts_nil]) (fun l hl ih k => ?_) s
  cases k with
  | zero => simp [cuts_nil]
  | succ k =>
    have hp := next_pos hl
    obtain ⟨X, hX⟩ : ∃ X, X = ((cutsL (l.drop (nextL l).2)).take k).flatMap (·.2) := ⟨_, rfl⟩
    have hpre : X <+: l.drop (nextL l).2 := by
      have h1 : (cutsL (l.drop (nextL l).2)).take k ++ (cutsL (l.drop (nextL l).2)).drop k = cutsL (l.drop (nextL l).2) := List.take_append_drop ..
      refine ⟨((cutsL (l.drop (nextL l).2)).drop k).flatMap (·.2), ?_⟩
      rw [hX, ← List.flatMap_append, h1, cuts_flat]
    obtain ⟨u, hu⟩ := hpre
    have hm : (l.take (nextL l).2).length = (nextL l).2 := by rw [List.length_take]; omega
    have ht : l.take (nextL l).2 ++ X = l.take ((nextL l).2 + X.length) := by
      rw [List.take_add, ← hu, List.take_left]
    have hne : l.take (nextL l).2 ++ X ≠ [] := by
      intro e
      have := congrArg List.length e
      rw [List.length_append, hm, List.length_nil] at this; omega
    have hn : nextL (l.take (nextL l).2 ++ X) = nextL l := by rw [ht]; exact next_take hl (by omega)
    rw [cuts_step hl, List.take_succ_cons, List.flatMap_cons, ← hX, cuts_step hne, hn]
    congr 1
    · rw [List.take_append, hm, Nat.sub_self, List.take_zero, List.append_nil, List.take_of_length_le (by omega)]
    · rw [List.drop_append, hm, Nat.sub_self, List.drop_zero, List.drop_eq_nil_of_le (by omega), List.nil_append, hX]
      exact ih k
theorem one_short (s : List UInt8) : ∀ x ∈ one 14 s, one 14 x = [x] := by
  intro x hx
  have e : ∀ s, one 14 s = if 16 < (cutsL s).length then [pieces s 0 16] else [s] := fun s => rfl
  rw [e] at hx ⊢
  split at hx
  · rw [List.mem_singleton.1 hx]
    have h : cutsL (pieces s 0 16) = (cutsL s).take 16 := cuts_take s 16
    rw [h, if_neg (by rw [List.length_take]; omega)]
  · rename_i h
    rw [List.mem_singleton.1 hx, if_neg h]
theorem flatMap_same {α β : Type} {f g : α → List β} : ∀ {l : List α}, (∀ x ∈ l, f x = g x) → l.flatMap f = l.flatMap g
  | [], _ => rfl
  | x :: l, h => by rw [List.flatMap_cons, List.flatMap_cons, h x (List.mem_cons_self ..), flatMap_same fun y hy => h y (List.mem_cons_of_mem _ hy)]
/-- a text without odd bytes is its runes' forms -/
theorem valid_is {s : List UInt8} (h : validL s = true) : ∃ rs : List Nat, (∀ r ∈ rs, isRune (r : Int) = true) ∧ s = rs.flatMap formP := by
  refine ⟨(cutsL s).map (·.1), fun r hr => ?_, ?_⟩
  · obtain ⟨p, hp, rfl⟩ := List.mem_map.1 hr
    have h1 := List.all_eq_true.1 h p hp
    rcases piece_all s p hp with ⟨e, c, e2⟩ | ⟨h2, _, _⟩
    · simp [oddP, e, e2] at h1
    · exact h2
  · rw [List.flatMap_map]
    conv => lhs; rw [← cuts_flat s]
    refine flatMap_same fun p hp => ?_
    have h1 := List.all_eq_true.1 h p hp
    rcases piece_all s p hp with ⟨e, c, e2⟩ | ⟨_, h2, _⟩
    · simp [oddP, e, e2] at h1
    · exact h2
theorem bare_forms {rs : List Nat} (h : ∀ r ∈ rs, isRune (r : Int) = true) : bare (rs.flatMap formP) = (rs.filter fun r : Nat => !markI (r : Int)).flatMap formP := by
  unfold bare
  rw [cuts_forms rs h, List.filter_map, List.flatMap_map]
  rfl
theorem one_marks {s : List UInt8} (hv : validL s = true) : ∀ x ∈ one 15 s, one 15 x = [x] := by
  intro x hx
  have e : ∀ s, one 15 s = if bare s = [] then [] else [bare s] := fun s => rfl
  rw [e] at hx
  split at hx
  · cases hx
  · rename_i h0
    rw [List.mem_singleton.1 hx]
    obtain ⟨rs, hr, rfl⟩ := valid_is hv
    have h2 : bare (bare (rs.flatMap formP)) = bare (rs.flatMap formP) := by
      rw [bare_forms hr, bare_forms (fun r h => hr r (List.mem_filter.1 h).1), List.filter_filter]
      simp
    rw [e, h2, if_neg h0]
/-- lowering and marks may change places -/
theorem fold_forms {rs : List Nat} (h : ∀ r ∈ rs, isRune (r : Int) = true) : foldL (rs.flatMap formP) = (rs.map lowN).flatMap formP := by
  unfold foldL
  rw [cuts_forms rs h, List.flatMap_map, List.flatMap_map]
  exact flatMap_same fun r _ => lowB_form rfl
theorem bare_fold {s : List UInt8} (hv : validL s = true) : bare (foldL s) = foldL (bare s) := by
  obtain ⟨rs, hr, rfl⟩ := valid_is hv
  rw [fold_forms hr, bare_forms (fun r h => by obtain ⟨q, hq, rfl⟩ := List.mem_map.1 h; exact lowN_rune (hr q hq)), bare_forms hr, fold_forms (fun r h => hr r (List.mem_filter.1 h).1), List.filter_map]
  congr 2
  exact List.filter_congr fun r _ => by simp only [Function.comp]; rw [lowN_cast, lower_mark]
theorem swap_marks : ∀ (l : List Tok), (∀ t ∈ l, validL t.text = true) → linkT 15 (linkT 10 l) = linkT 10 (linkT 15 l)
  | [], _ => rfl
  | t :: l, h => by
    have ih := swap_marks l (fun q hq => h q (List.mem_cons_of_mem _ hq))
    have hv := h t (List.mem_cons_self ..)
    have e1 : ∀ (n : Int) (t : Tok) l, linkT n (t :: l) = (one n t.text).map (fun x => { t with text := x }) ++ linkT n l := fun n t l => List.flatMap_cons
    have e2 : ∀ n a b, linkT n (a ++ b) = linkT n a ++ linkT n b := fun n a b => List.flatMap_append ..
    have e10 : ∀ s, one 10 s = [foldL s] := fun s => rfl
    have e15 : ∀ s, one 15 s = if bare s = [] then [] else [bare s] := fun s => rfl
    have hz : foldL (bare t.text) = [] ↔ bare t.text = [] := by
      rw [← List.length_eq_zero_iff, fold_len, List.length_eq_zero_iff]
    rw [e1 10 t l, e10, e1 15 t l, e15, e2 10, ← ih]
    rw [List.map_cons, List.map_nil, e2 15, e1 15, e15]
    simp only
    rw [bare_fold hv]
    congr 1
    by_cases hb : bare t.text = []
    · rw [if_pos hb, if_pos (hz.2 hb)]; rfl
    · rw [if_neg hb, if_neg (fun e => hb (hz.1 e))]; simp only [List.map_cons, List.map_nil]; rw [e1 10, e10]; rfl
end Ana
end Go.Proofs.YtljjaepadnmmeaaDoor
