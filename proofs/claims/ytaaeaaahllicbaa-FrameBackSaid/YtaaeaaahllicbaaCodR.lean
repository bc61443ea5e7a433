/- awake, times, bad. -/
import Derived.Test.YtaaeaaahllicbaaCodQ
namespace Go.Proofs.Ytaaeaaahllicbaa
open Go.RowKit Go.Maps

theorem bw_moves {w W W' : World} {r : Nat} (h : BW w W) (m : Moves (fun b => b = r) W W') (hr : w.heap.size ≤ r) : BW w W' := RowKit.Below.trans h (Moves.below m (fun k e => by omega) h.size)
theorem src_new1 (w : World) (xs : Array Value) (n : Nat) (bs : List UInt8) (hn : xs.size = n) (hs : (n : Int) ≤ 9223372036854775807) (hx : xs.toList = bs.map bV) : Src (w.alloc (.cells xs 5)) (.slice (some ⟨w.heap.size, 0, none⟩) n n) (bs.map bV) := by
  rw [← hx]; exact src_new w xs 5 n hn hs

def awakeB : List UInt8 := [172, 2, 1, 2, 97, 98, 5]
theorem aw1 : dU awakeB = some (.int .u64 300, 2) := by
  have : deco awakeB = some (300, 2) := by decide +kernel
  unfold dU; rw [this]; rfl
theorem aw2 : dI (awakeB.drop 2) = some (.int .i64 (-1), 1) := by
  have : deco (awakeB.drop 2) = some (1, 1) := by decide +kernel
  unfold dI; rw [this]; rfl
theorem aw3 : dT ((awakeB.drop 2).drop 1) 2 = some (.string ⟨#[97, 98]⟩, 3) := by
  have : textD ((awakeB.drop 2).drop 1) 2 = some ([97, 98], 3) := by decide +kernel
  unfold dT; rw [this]; rfl
theorem aw4 : ((awakeB.drop 2).drop 1).drop 3 = [5] := rfl
theorem form300 : form 300 = [172, 2] := by
  rw [form_step (by decide), form_last (by decide)]; rfl

end Go.Proofs.Ytaaeaaahllicbaa
