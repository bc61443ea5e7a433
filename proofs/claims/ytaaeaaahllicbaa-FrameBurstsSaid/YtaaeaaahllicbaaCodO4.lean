/- The arguments opened, with their bulk. -/
import Derived.Test.YtaaeaaahllicbaaCodO
import Derived.Deep.CondSized
import Derived.JoinedCond
import Derived.SliceStrings
namespace Go.Proofs.Ytaaeaaahllicbaa
open Go.RowKit Go.Maps
section
open Go.ChangeShapes Go.WideShapes Go.Deep
variable {H : Type} {enc : TypeId × Value → H} {w : World} {base : Nat} {spare : Nat → Bool} {held : Bool}

theorem bulk_pos (d : DataW H) : 1 ≤ Rows.uptoBulk d := by
  cases d with
  | lit l => cases l <;> simp [Rows.uptoBulk]
  | _ => simp [Rows.uptoBulk]
theorem bulk_len (l : List (DataW H)) : l.length ≤ Rows.uptoBulkAll l := by
  induction l with
  | nil => simp [Rows.uptoBulkAll]
  | cons x r ih => have := bulk_pos x; simp only [Rows.uptoBulkAll, List.length_cons]; omega
theorem bulk_strs : ∀ ss : List ByteArray, ss.length + (ss.map (·.size)).sum ≤ Rows.uptoBulkAll (H := H) (strs ss)
  | [] => by simp [strs, Rows.uptoBulkAll]
  | s :: r => by
    have ih := bulk_strs r
    have e : (s.data.toList).length = s.size := by rw [Array.length_toList]; rfl
    simp only [strs, List.map_cons, Rows.uptoBulkAll, Rows.uptoBulk, List.length_cons, List.sum_cons] at ih ⊢
    omega

theorem arg_ints {k : IntKind} {t e : TypeId} {a : Option Addr} {len cap : Nat} {d : DataW H} {p : List MemPlace} (ht : Try.prog.underlying t = some (.slice e)) (he : Try.prog.underlying e = some (.int k)) (hc : Try.prog.cellsOf e = 1)
    (h : DataW.Trod enc Try.prog w base spare held t (.slice a len cap) d p) : ∃ zs : List Int, Src w (.slice a len cap) (zs.map (Value.int k)) ∧ (∀ n ∈ zs, (Lit.int k n).wf = true) ∧ zs.length ≤ Rows.uptoBulk d := by
  obtain ⟨f, h0⟩ := h
  have h1 : DataW.trod enc Try.prog w base spare held f t [.slice a len cap] = some (d, p) := h0
  obtain ⟨zs, hl, hs, hw⟩ := src_ints ht he hc h1
  refine ⟨zs, hs, hw, ?_⟩
  rw [hl]
  rcases open_ints ht he hc h1 with ⟨hcs, _⟩ | ⟨a', l, c, zs', hcs, _, _, _, hz, hx, _, _⟩
  · simp at hcs; omega
  · simp at hcs
    obtain ⟨_, rfl, _⟩ := hcs
    simp only [Prod.mk.injEq] at hx
    rw [hx.1]
    simp only [Rows.uptoBulk]
    have h2 := bulk_len (H := H) (lits k (zs'.take len))
    have h3 : (lits (H := H) k (zs'.take len)).length = len := by
      unfold lits; rw [List.length_map, List.length_take]
      have : len ≤ zs'.length := by rw [hz]; split <;> omega
      omega
    omega

theorem arg_bytes_bulk {ao : Option Addr} {ln cp : Nat} {d : DataW H} {p : List MemPlace} (h : DataW.Trod enc Try.prog w base spare held 23 (.slice ao ln cp) d p) : ∃ bs : List UInt8, Src w (.slice ao ln cp) (bs.map bV) ∧ bs.length ≤ Rows.uptoBulk d := by
  obtain ⟨zs, h1, h2, h3⟩ := arg_ints Try.underlying23 Try.underlying5 (by kernel_rfl) h
  obtain ⟨bs, hbs⟩ := bytes_of h2
  have hl : bs.length = zs.length := by have := congrArg List.length hbs; simpa using this
  exact ⟨bs, by rw [hbs]; exact h1, by rw [hl]; exact h3⟩
theorem wfu64 {n : Int} (h : (Lit.int .u64 n).wf = true) : 0 ≤ n ∧ n ≤ 18446744073709551615 := by
  unfold Lit.wf at h
  rw [Bool.and_eq_true, decide_eq_true_eq, decide_eq_true_eq] at h
  exact h

/-- a row of texts -/
def sV (s : ByteArray) : Value := .string s
end
end Go.Proofs.Ytaaeaaahllicbaa
