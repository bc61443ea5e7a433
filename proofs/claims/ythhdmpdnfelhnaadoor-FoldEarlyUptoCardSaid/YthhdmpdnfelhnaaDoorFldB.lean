/- The document's letters, digits, marks, lower case; its Put. -/
import Derived.Test.YthhdmpdnfelhnaaDoorFldA
namespace Go.Proofs.YthhdmpdnfelhnaaDoor
open Go.RowKit Go.Maps Fld

def tabV (l : List (Int × Int)) : List Value := l.flatMap fun p => [.int .i32 p.1, .int .i32 p.2]
theorem tabV_len (l : List (Int × Int)) : (tabV l).length = 2 * l.length := by
  induction l with
  | nil => rfl
  | cons p l ih => show (_ :: _ :: tabV l).length = _; rw [List.length_cons, List.length_cons, ih, List.length_cons]; omega
theorem tabV_get : ∀ (l : List (Int × Int)) (j : Nat) (h : j < l.length), (tabV l)[2 * j]? = some (.int .i32 (l[j]).1) ∧ (tabV l)[2 * j + 1]? = some (.int .i32 (l[j]).2)
  | p :: l, 0, _ => ⟨rfl, rfl⟩
  | p :: l, j + 1, h => by
    have := tabV_get l j (by simpa using h)
    rw [show 2 * (j + 1) = 2 * j + 1 + 1 by omega]
    exact this
theorem src_get {w : World} {ao : Option Addr} {n cap : Nat} {xs : List Value} (h : Src w (.slice ao n cap) xs) {i : Nat} {u : Value} (hu : xs[i]? = some u) : ∃ b off, ao = some ⟨b, off, none⟩ ∧ w.cell? ⟨b, off + i, none⟩ = some u := by
  rcases h with ⟨_, _, _, e2, _⟩ | ⟨b, off, c, hv, _, _, _, h4⟩
  · rw [e2] at hu; simp at hu
  · injection hv with e1; exact ⟨b, off, e1, h4 i u hu⟩
def BoolPost (w : World) (b : Bool) (e : Ending) (w' : World) : Prop := e = .returned (.bool b) ∧ BW w w'
theorem among_in {r : Int} {l : List (Int × Int)} (h : amongB r l = true) (hl : ∀ p ∈ l, (0 : Int) ≤ p.1 ∧ p.2 ≤ 1327) : 0 ≤ r ∧ r ≤ 1327 := by
  by_cases h2 : r < 0 ∨ 1327 < r
  · rw [among_out l hl h2] at h; cases h
  · omega
def LowPost (w : World) (r : Int) (e : Ending) (w' : World) : Prop := e = .returned (.int .i32 r) ∧ BW w w'
def PutPost (w : World) (r : Int) (e : Ending) (w' : World) : Prop :=
  BW w w' ∧ ((isRune r = true ∧ e = .returned (.tuple #[.string ⟨(formP r.toNat).toArray⟩, .int .i64 0])) ∨ (isRune r = false ∧ e = .returned (.tuple #[.string ⟨#[]⟩, .int .i64 50])))
end Go.Proofs.YthhdmpdnfelhnaaDoor
