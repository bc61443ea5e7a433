/- Stage 7 ahead (PLAIN): Go's order of texts is cmpT's. -/
import Derived.Test.YtghghekdheeknaaDoorOrdM
import Derived.Laws.Strings
namespace Go.Proofs.YtghghekdheeknaaDoor
namespace Odr
theorem less_cmp : ∀ s t : List UInt8, Op.bytesLess s t = decide (cmpT s t < 0)
  | [], [] => by simp [Op.bytesLess, cmpT]
  | [], _ :: _ => by simp [Op.bytesLess, cmpT]
  | _ :: _, [] => by simp [Op.bytesLess, cmpT]
  | a :: s, b :: t => by
    have ih := less_cmp s t
    by_cases h1 : a.toNat < b.toNat
    · rw [cmpT_lt h1]
      have : a < b := h1
      simp [Op.bytesLess, this]
    · by_cases h2 : b.toNat < a.toNat
      · rw [cmpT_gt h2]
        have n1 : ¬ a < b := h1
        have n2 : a ≠ b := by intro e; rw [e] at h2; omega
        simp [Op.bytesLess, n1, n2]
      · have e : a = b := UInt8.toNat_inj.1 (by omega)
        subst e
        rw [cmpT_same rfl, ← ih]
        have n1 : ¬ a < a := h1
        simp [Op.bytesLess, n1]
/-- the statement's sign -/
theorem sign_cmp (s t : List UInt8) : (if Op.bytesLess s t then (-1 : Int) else if Op.bytesLess t s then 1 else 0) = cmpT s t := by
  rw [less_cmp, less_cmp, cmpT_neg t s]
  rcases cmpT_range s t with h | h | h <;> rw [h] <;> rfl
end Odr
end Go.Proofs.YtghghekdheeknaaDoor
