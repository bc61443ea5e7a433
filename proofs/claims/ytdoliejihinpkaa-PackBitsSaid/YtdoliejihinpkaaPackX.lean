/- PackBits: what both sides answer. -/
import Derived.Test.YtdoliejihinpkaaPairU
namespace Go.Proofs.Ytdoliejihinpkaa
open Go.RowKit Go.Maps

theorem unbX_yes {w w' : World} {bs : List UInt8} {k n : Nat} {e : Ending} (h : UnbPost w bs k n e w') {l : List Nat} (hu : unbitsP bs k n = some l) : ∃ v, e = .returned (.tuple #[v, .int .i64 0]) ∧ BW w w' ∧ w'.ownsRow w.heap.size 52 1 v l.length (l.map uV) := by
  obtain ⟨v, er, rfl, hb, ⟨l', h1, rfl, h2⟩ | ⟨h1, _⟩⟩ := h
  · rw [hu] at h1; cases h1; exact ⟨v, rfl, hb, h2⟩
  · rw [hu] at h1; cases h1

theorem unbX_no {w w' : World} {bs : List UInt8} {k n : Nat} {e : Ending} (h : UnbPost w bs k n e w') (hu : unbitsP bs k n = none) : e = .returned (.tuple #[.slice none 0 0, .int .i64 20]) ∧ BW w w' := by
  obtain ⟨v, er, rfl, hb, ⟨l', h1, _⟩ | ⟨h1, rfl, rfl⟩⟩ := h
  · rw [hu] at h1; cases h1
  · exact ⟨rfl, hb⟩
def UAll (r : List Nat) (er : Nat) (w : World) (e : Ending) (w' : World) : Prop := ∃ v, e = .returned (.tuple #[v, .int .i64 (er : Int)]) ∧ BW w w' ∧ w'.ownsRow w.heap.size 52 1 v r.length (r.map uV)

theorem bits_both {l : List Nat} (hl : U64s l) (hlen : l.length ≤ 2000) (k : Int) (h1 : -9223372036854775808 ≤ k) (h2 : k ≤ 9223372036854775807) : ∃ bs : List UInt8, bs.length ≤ 16000 ∧ (∀ (w : World) (v : Value), Src w v (l.map uV) → Calls Try.prog 12 #[v, .int .i64 k] w (BytesPost w bs)) ∧ (∀ (w : World) (v : Value), Src w v (l.map uV) → Calls Try.prog 13 #[v, .int .i64 k] w (BytesPost w bs)) := by
  by_cases hk : 0 ≤ k ∧ k ≤ 64
  · obtain ⟨m, rfl⟩ : ∃ m : Nat, k = (m : Int) := ⟨k.toNat, by omega⟩
    have hm : m ≤ 64 := by omega
    refine ⟨bitsP l m, ?_, fun w v h => bits_any h hl (by omega) m hm, fun w v h => refBits_any h hl (by omega) m hm⟩
    rw [bitsP_len]
    unfold packed
    have := Nat.mul_le_mul hlen hm
    omega
  · refine ⟨[], by simp, fun w v h => ?_, fun w v h => ?_⟩
    · refine (bits_none h1 h2 hk).mono ?_
      rintro e w' ⟨rfl, rfl⟩
      exact ⟨_, rfl, World.ownsRow_nil _ _ _ _, BW.refl _⟩
    · refine (refBits_none hk).mono ?_
      rintro e w' ⟨rfl, rfl⟩
      exact ⟨_, rfl, World.ownsRow_nil _ _ _ _, BW.refl _⟩

theorem unbits_both {bs : List UInt8} (hb : (bs.length : Int) ≤ 140737488351232) (k n : Int) (h1 : -9223372036854775808 ≤ k) (h2 : k ≤ 9223372036854775807) (h3 : -9223372036854775808 ≤ n) (h4 : n ≤ 9223372036854775807) (hn : n ≤ 2000 ∨ 1048576 < n) :
    ∃ (r : List Nat) (er : Nat), r.length ≤ 2000 ∧ er ≤ 20 ∧ (∀ (w : World) (v : Value), Src w v (bs.map bV) → Calls Try.prog 14 #[v, .int .i64 k, .int .i64 n] w (UAll r er w)) ∧ (∀ (w : World) (v : Value), Src w v (bs.map bV) → Calls Try.prog 15 #[v, .int .i64 k, .int .i64 n] w (UAll r er w)) := by
  by_cases hk : 0 ≤ k ∧ k ≤ 64
  · by_cases hn2 : 0 ≤ n ∧ n ≤ 1048576
    · obtain ⟨m, rfl⟩ : ∃ m : Nat, k = (m : Int) := ⟨k.toNat, by omega⟩
      obtain ⟨q, rfl⟩ : ∃ q : Nat, n = (q : Int) := ⟨n.toNat, by omega⟩
      cases hu : unbitsP bs m q with
      | none =>
        refine ⟨[], 20, by simp, by decide, fun w v h => ?_, fun w v h => ?_⟩
        · refine (unbits_any h m q (by omega) (by omega)).mono fun e w' hh => ?_
          obtain ⟨rfl, hb⟩ := unbX_no hh hu
          exact ⟨_, rfl, hb, World.ownsRow_nil _ _ _ _⟩
        · refine (refUnbits_any h (by omega) m q (by omega) (by omega)).mono fun e w' hh => ?_
          obtain ⟨rfl, hb⟩ := unbX_no hh hu
          exact ⟨_, rfl, hb, World.ownsRow_nil _ _ _ _⟩
      | some r =>
        have hr := (bits_unbits hu).2.1
        refine ⟨r, 0, by omega, by decide, fun w v h => ?_, fun w v h => ?_⟩
        · refine (unbits_any h m q (by omega) (by omega)).mono fun e w' hh => ?_
          obtain ⟨v', rfl, hb, ho⟩ := unbX_yes hh hu
          exact ⟨_, rfl, hb, ho⟩
        · refine (refUnbits_any h (by omega) m q (by omega) (by omega)).mono fun e w' hh => ?_
          obtain ⟨v', rfl, hb, ho⟩ := unbX_yes hh hu
          exact ⟨_, rfl, hb, ho⟩
    · refine ⟨[], 1, by simp, by decide, fun w v h => ?_, fun w v h => ?_⟩
      · refine (unbits_arg h1 h2 h3 h4 (.inr hn2)).mono ?_
        rintro e w' ⟨rfl, rfl⟩
        exact ⟨_, rfl, BW.refl _, World.ownsRow_nil _ _ _ _⟩
      · refine (refUnbits_arg (.inr hn2)).mono ?_
        rintro e w' ⟨rfl, rfl⟩
        exact ⟨_, rfl, BW.refl _, World.ownsRow_nil _ _ _ _⟩
  · refine ⟨[], 1, by simp, by decide, fun w v h => ?_, fun w v h => ?_⟩
    · refine (unbits_arg h1 h2 h3 h4 (.inl hk)).mono ?_
      rintro e w' ⟨rfl, rfl⟩
      exact ⟨_, rfl, BW.refl _, World.ownsRow_nil _ _ _ _⟩
    · refine (refUnbits_arg (.inl hk)).mono ?_
      rintro e w' ⟨rfl, rfl⟩
      exact ⟨_, rfl, BW.refl _, World.ownsRow_nil _ _ _ _⟩
end Go.Proofs.Ytdoliejihinpkaa
