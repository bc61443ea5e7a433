/- CodecBack: what was put is read; a reader of less. -/
import Derived.Test.YthepoplekabcoaaCodR
namespace Go.Proofs.Ythepoplekabcoaa
open Go.RowKit Go.Maps

def encU (l : List Nat) : List UInt8 := l.flatMap form
def encI (l : List Int) : List UInt8 := l.flatMap fun n => form (turned n)
def encT (l : List ByteArray) : List UInt8 := l.flatMap fun s => form s.size ++ s.data.toList

theorem encU_snoc (l : List Nat) (u : Nat) : encU (l ++ [u]) = encU l ++ form u := by simp [encU]
theorem encI_snoc (l : List Int) (u : Int) : encI (l ++ [u]) = encI l ++ form (turned u) := by simp [encI]
theorem encT_snoc (l : List ByteArray) (s : ByteArray) : encT (l ++ [s]) = encT l ++ (form s.size ++ s.data.toList) := by simp [encT]
theorem encU_cons (u : Nat) (l : List Nat) : encU (u :: l) = form u ++ encU l := by simp [encU]
theorem encI_cons (u : Int) (l : List Int) : encI (u :: l) = form (turned u) ++ encI l := by simp [encI]
theorem encT_cons (s : ByteArray) (l : List ByteArray) : encT (s :: l) = form s.size ++ s.data.toList ++ encT l := by simp [encT]
theorem encU_len : ∀ l : List Nat, (∀ u ∈ l, u < 18446744073709551616) → (encU l).length ≤ 10 * l.length
  | [], _ => by simp [encU]
  | u :: r, h => by
    have h1 := form_len10 (h u (by simp))
    have h2 := encU_len r (fun x hx => h x (by simp [hx]))
    rw [encU_cons, List.length_append, List.length_cons]; omega
theorem encI_len : ∀ l : List Int, (∀ u ∈ l, -9223372036854775808 ≤ u ∧ u ≤ 9223372036854775807) → (encI l).length ≤ 10 * l.length
  | [], _ => by simp [encI]
  | u :: r, h => by
    have h1 := form_len10 (turned_lt (h u (by simp)).1 (h u (by simp)).2)
    have h2 := encI_len r (fun x hx => h x (by simp [hx]))
    rw [encI_cons, List.length_append, List.length_cons]; omega
theorem encT_len : ∀ l : List ByteArray, (∀ s ∈ l, s.size < 18446744073709551616) → (encT l).length ≤ 10 * l.length + (l.map (·.size)).sum
  | [], _ => by simp [encT]
  | s :: r, h => by
    have h1 := form_len10 (h s (by simp))
    have h2 := encT_len r (fun x hx => h x (by simp [hx]))
    have h3 : s.data.toList.length = s.size := rfl
    rw [encT_cons, List.length_append, List.length_append, List.length_cons, List.map_cons, List.sum_cons]; omega

theorem sizeD_append {l : List UInt8} {m : Int} {n k : Nat} (h : sizeD l m = some (n, k)) (t : List UInt8) : sizeD (l ++ t) m = some (n, k) := by
  unfold sizeD at h ⊢
  cases hd : deco l with
  | none => rw [hd] at h; cases h
  | some p =>
    rw [hd] at h
    rw [deco_append hd t]; exact h
theorem textD_append {l : List UInt8} {m : Int} {x : List UInt8} {k : Nat} (h : textD l m = some (x, k)) (t : List UInt8) : textD (l ++ t) m = some (x, k) ∧ k ≤ l.length := by
  unfold textD at h ⊢
  cases hs : sizeD l m with
  | none => rw [hs] at h; cases h
  | some p =>
    obtain ⟨n, k'⟩ := p
    rw [hs] at h
    rw [sizeD_append hs t]
    have hk := sizeD_le hs
    simp only [Option.bind_some] at h ⊢
    by_cases hn : n ≤ (l.drop k').length
    · rw [if_pos hn] at h
      injection h with h; injection h with h1 h2
      rw [List.drop_append_of_le_length hk, if_pos (by rw [List.length_append]; omega), List.take_append_of_le_length hn, h1, h2]
      rw [List.length_drop] at hn
      exact ⟨rfl, by omega⟩
    · rw [if_neg hn] at h; cases h
theorem textD_put (s : ByteArray) (hs : s.size ≤ 20000) (t : List UInt8) : textD (form s.size ++ s.data.toList ++ t) 20000 = some (s.data.toList, (form s.size).length + s.size) := by
  have hl : s.data.toList.length = s.size := rfl
  unfold textD sizeD
  rw [List.append_assoc, deco_form (by omega)]
  simp only [Option.bind_some]
  rw [if_pos ⟨by decide, by omega⟩]
  simp only [Option.bind_some]
  rw [List.drop_left' rfl, if_pos (by rw [List.length_append]; omega), List.take_left' hl]

/-- a reader of a beginning of what is left; t is what it lacks -/
def Sh (w : World) (s c n : Nat) (rest : List UInt8) : Prop := ∃ l e, Rd w s c l e ∧ (e = 20 ∨ (e = 0 ∧ ∃ t, l ++ t = rest ∧ (n ≠ 0 → t ≠ [])))
def ShPost (w : World) (s c n : Nat) (rest : List UInt8) (e : Ending) (w' : World) : Prop := (∃ v, e = .returned v) ∧ Sh w' s c n rest ∧ Moves (fun b => b = s) w w'

theorem Sh.moved {w w' : World} {s c n : Nat} {rest : List UInt8} {F : Nat → Prop} (h : Sh w s c n rest) (m : Moves F w w') (h1 : ¬ F s) (h2 : ¬ F c) : Sh w' s c n rest := by
  obtain ⟨l, e, hr, hc⟩ := h
  exact ⟨l, e, hr.moved m h1 h2, hc⟩
theorem Sh.below {w w' : World} {s c n : Nat} {rest : List UInt8} (h : Sh w s c n rest) (hb : BW w w') : Sh w' s c n rest := by
  obtain ⟨l, e, hr, hc⟩ := h
  exact ⟨l, e, hr.below hb, hc⟩

theorem shU {w : World} {s c n : Nat} {rest : List UInt8} (h : Sh w s c n rest) {u k : Nat} (hd : deco rest = some (u, k)) : Calls Try.prog 33 #[.pointer (some ⟨s, 0, none⟩)] w (ShPost w s c n (rest.drop k)) := by
  obtain ⟨l, e, hr, hc⟩ := h
  rcases hc with rfl | ⟨rfl, t, ht, hn⟩
  · obtain ⟨v, g1, _, _⟩ := hr.ex
    refine (call_U_bad g1 rfl).mono ?_
    rintro en w' ⟨rfl, rfl⟩
    exact ⟨⟨_, rfl⟩, ⟨l, 20, hr, .inl rfl⟩, Moves.refl _ _⟩
  · refine (call_U hr).mono ?_
    intro en w' hh
    cases hl : deco l with
    | none =>
      obtain ⟨rfl, hm, hr'⟩ := hh.none (by unfold dU; rw [hl]; rfl)
      exact ⟨⟨_, rfl⟩, ⟨l, 20, hr', .inl rfl⟩, hm⟩
    | some p =>
      obtain ⟨v, k'⟩ := p
      have h1 := deco_append hl t
      rw [ht, hd] at h1
      injection h1 with h1; injection h1 with h2 h3
      subst h2; subst h3
      obtain ⟨rfl, hm, hr'⟩ := hh.some (by unfold dU; rw [hl]; rfl)
      refine ⟨⟨_, rfl⟩, ⟨_, 0, hr', .inr ⟨rfl, t, ?_, hn⟩⟩, hm⟩
      rw [← ht, List.drop_append_of_le_length (deco_some hl).2.2.1]
theorem shI {w : World} {s c n : Nat} {rest : List UInt8} (h : Sh w s c n rest) {u k : Nat} (hd : deco rest = some (u, k)) : Calls Try.prog 34 #[.pointer (some ⟨s, 0, none⟩)] w (ShPost w s c n (rest.drop k)) := by
  obtain ⟨l, e, hr, hc⟩ := h
  rcases hc with rfl | ⟨rfl, t, ht, hn⟩
  · obtain ⟨v, g1, _, _⟩ := hr.ex
    refine (call_I_bad g1 rfl).mono ?_
    rintro en w' ⟨rfl, rfl⟩
    exact ⟨⟨_, rfl⟩, ⟨l, 20, hr, .inl rfl⟩, Moves.refl _ _⟩
  · refine (call_I hr).mono ?_
    intro en w' hh
    cases hl : deco l with
    | none =>
      obtain ⟨rfl, hm, hr'⟩ := hh.none (by unfold dI; rw [hl]; rfl)
      exact ⟨⟨_, rfl⟩, ⟨l, 20, hr', .inl rfl⟩, hm⟩
    | some p =>
      obtain ⟨v, k'⟩ := p
      have h1 := deco_append hl t
      rw [ht, hd] at h1
      injection h1 with h1; injection h1 with h2 h3
      subst h2; subst h3
      obtain ⟨rfl, hm, hr'⟩ := hh.some (by unfold dI; rw [hl]; rfl)
      refine ⟨⟨_, rfl⟩, ⟨_, 0, hr', .inr ⟨rfl, t, ?_, hn⟩⟩, hm⟩
      rw [← ht, List.drop_append_of_le_length (deco_some hl).2.2.1]
theorem shT {w : World} {s c n : Nat} {rest : List UInt8} (h : Sh w s c n rest) {x : List UInt8} {k : Nat} (hd : textD rest 20000 = some (x, k)) : Calls Try.prog 28 #[.pointer (some ⟨s, 0, none⟩), .int .i64 20000] w (ShPost w s c n (rest.drop k)) := by
  obtain ⟨l, e, hr, hc⟩ := h
  rcases hc with rfl | ⟨rfl, t, ht, hn⟩
  · obtain ⟨v, g1, _, _⟩ := hr.ex
    refine (call_T_bad g1 rfl 20000).mono ?_
    rintro en w' ⟨rfl, hb⟩
    exact ⟨⟨_, rfl⟩, ⟨l, 20, hr.below hb, .inl rfl⟩, Moves.of_below hb _⟩
  · refine (call_T hr 20000 (by decide) (by decide)).mono ?_
    intro en w' hh
    cases hl : textD l 20000 with
    | none =>
      obtain ⟨rfl, hm, hr'⟩ := hh.none (by unfold dT; rw [hl]; rfl)
      exact ⟨⟨_, rfl⟩, ⟨l, 20, hr', .inl rfl⟩, hm⟩
    | some p =>
      obtain ⟨v, k'⟩ := p
      obtain ⟨h1, hk⟩ := textD_append hl t
      rw [ht, hd] at h1
      injection h1 with h1; injection h1 with h2 h3
      subst h2; subst h3
      obtain ⟨rfl, hm, hr'⟩ := hh.some (by unfold dT; rw [hl]; rfl)
      refine ⟨⟨_, rfl⟩, ⟨_, 0, hr', .inr ⟨rfl, t, ?_, hn⟩⟩, hm⟩
      rw [← ht, List.drop_append_of_le_length hk]

end Go.Proofs.Ythepoplekabcoaa
