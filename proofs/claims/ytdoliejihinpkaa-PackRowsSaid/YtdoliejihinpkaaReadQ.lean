/- Plain: a block that is read, held against its numbers' form. -/
import Derived.Test.YtdoliejihinpkaaPackB
namespace Go.Proofs.Ytdoliejihinpkaa

/-- what is read of a block ahead of the comparison -/
def readQ (b : List UInt8) (k : Nat) : Option (List Int × Nat) :=
  match deco b with
  | none => none
  | some (u, c) =>
    match b.drop c with
    | [] => none
    | w :: r =>
      if 64 < w.toNat ∨ r.length < packed k w.toNat then none
      else (unbitsP (r.take (packed k w.toNat)) w.toNat k).map fun a => (candP (back u) a, c + 1 + packed k w.toNat)
theorem readQ_none {b : List UInt8} {k : Nat} (h : readQ b k = none) : readP b k = none := by
  unfold readQ at h
  unfold readP
  cases hd : deco b with
  | none => rfl
  | some p =>
    obtain ⟨u, c⟩ := p
    simp only [hd] at h ⊢
    cases hr : b.drop c with
    | nil => rfl
    | cons w r =>
      simp only [hr] at h ⊢
      by_cases h1 : 64 < w.toNat ∨ r.length < packed k w.toNat
      · rw [if_pos h1]
      · rw [if_neg h1] at h ⊢
        cases hu : unbitsP (r.take (packed k w.toNat)) w.toNat k with
        | none => rfl
        | some a => rw [hu] at h; cases h
theorem readQ_some {b : List UInt8} {k m : Nat} {x : List Int} (h : readQ b k = some (x, m)) : x.length = k ∧ I64s x ∧ m ≤ b.length ∧ (readP b k = some (x, m) ∨ readP b k = none) := by
  unfold readQ at h
  unfold readP
  cases hd : deco b with
  | none => rw [hd] at h; cases h
  | some p =>
    obtain ⟨u, c⟩ := p
    obtain ⟨d1, d2, d3, d4, d5⟩ := deco_some hd
    simp only [hd] at h ⊢
    cases hr : b.drop c with
    | nil => rw [hr] at h; cases h
    | cons w r =>
      simp only [hr] at h ⊢
      by_cases h1 : 64 < w.toNat ∨ r.length < packed k w.toNat
      · rw [if_pos h1] at h; cases h
      · rw [if_neg h1] at h ⊢
        cases hu : unbitsP (r.take (packed k w.toNat)) w.toNat k with
        | none => rw [hu] at h; cases h
        | some a =>
          rw [hu] at h
          injection h with h
          injection h with e1 e2
          subst e1; subst e2
          have hbl := congrArg List.length hr
          rw [List.length_drop, List.length_cons] at hbl
          refine ⟨by rw [cand_len]; exact (bits_unbits hu).2.1, ?_, by omega, ?_⟩
          · intro y hy
            obtain ⟨z, _, rfl⟩ := List.mem_map.1 hy
            exact w64_i64 _
          · show (if _ then _ else _) = _ ∨ (if _ then _ else _) = _
            split
            · exact .inl rfl
            · exact .inr rfl
/-- .. and with it -/
theorem read_same {b : List UInt8} {k m : Nat} {x : List Int} (hk : 0 < k) (h : readQ b k = some (x, m)) : readP b k = if m = (blockP x).length ∧ b.take m = blockP x then some (x, m) else none := by
  obtain ⟨h1, h2, h3, h4⟩ := readQ_some h
  by_cases hc : m = (blockP x).length ∧ b.take m = blockP x
  · rw [if_pos hc]
    have h5 := read_of (l := x) (by rintro rfl; simp at h1; omega) h2 (b.drop m)
    rw [← hc.2, List.take_append_drop, h1] at h5
    rw [h5, hc.2, ← hc.1]
  · rw [if_neg hc]
    rcases h4 with h4 | h4
    · obtain ⟨_, _, h5, _, h6⟩ := read_some h4
      exact absurd ⟨h6, h5⟩ hc
    · exact h4
end Go.Proofs.Ytdoliejihinpkaa
