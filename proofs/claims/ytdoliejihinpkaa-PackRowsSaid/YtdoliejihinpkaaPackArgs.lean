/- Rows of unsigned numbers that came in. -/
import Derived.Test.YtdoliejihinpkaaCodO4
import Derived.Test.YtdoliejihinpkaaPackA
namespace Go.Proofs.Ytdoliejihinpkaa
open Go.RowKit Go.Maps
theorem uints_of {w : World} {v : Value} {zs : List Int} (h : ∀ n ∈ zs, (Lit.int .u64 n).wf = true) (hs : Src w v (zs.map (Value.int .u64))) : ∃ us : List Nat, U64s us ∧ Src w v (us.map uV) := by
  refine ⟨zs.map Int.toNat, fun x hx => ?_, ?_⟩
  · obtain ⟨z, hz, rfl⟩ := List.mem_map.1 hx
    have := wfu64 (h z hz)
    omega
  · have e : zs.map (Value.int .u64) = (zs.map Int.toNat).map uV := by
      rw [List.map_map]
      refine List.map_congr_left fun z hz => ?_
      have := (wfu64 (h z hz)).1
      simp only [Function.comp, uV]
      congr 1; omega
    rw [← e]; exact hs
end Go.Proofs.Ytdoliejihinpkaa
