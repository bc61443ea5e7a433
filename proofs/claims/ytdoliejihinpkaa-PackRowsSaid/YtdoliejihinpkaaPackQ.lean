/- awake, bad. -/
import Derived.Test.YtdoliejihinpkaaPackP
namespace Go.Proofs.Ytdoliejihinpkaa
open Go.RowKit Go.Maps

theorem src_newB (w : World) (xs : Array Value) (n : Nat) (bs : List UInt8) (hn : xs.size = n) (hs : (n : Int) ≤ 9223372036854775807) (hx : xs.toList = bs.map bV) : Src (w.alloc (.cells xs 5)) (.slice (some ⟨w.heap.size, 0, none⟩) n n) (bs.map bV) := by
  rw [← hx]; exact src_new w xs 5 n hn hs
theorem src_newU (w : World) (xs : Array Value) (n : Nat) (l : List Nat) (hn : xs.size = n) (hs : (n : Int) ≤ 9223372036854775807) (hx : xs.toList = l.map uV) : Src (w.alloc (.cells xs 52)) (.slice (some ⟨w.heap.size, 0, none⟩) n n) (l.map uV) := by
  rw [← hx]; exact src_new w xs 52 n hn hs
theorem src_newI (w : World) (xs : Array Value) (n : Nat) (l : List Int) (hn : xs.size = n) (hs : (n : Int) ≤ 9223372036854775807) (hx : xs.toList = l.map iV) : Src (w.alloc (.cells xs 2)) (.slice (some ⟨w.heap.size, 0, none⟩) n n) (l.map iV) := by
  rw [← hx]; exact src_new w xs 2 n hn hs
theorem get_yes {w w' : World} {bs : List UInt8} {n : Nat} {e : Ending} (h : GetPost w bs n e w') {l : List Int} {m : Nat} (hg : getP bs n = some (l, m)) : ∃ v, e = .returned (.tuple #[v, .int .i64 (m : Int), .int .i64 0]) ∧ BW w w' ∧ w'.ownsRow w.heap.size 2 1 v l.length (l.map iV) := by
  obtain ⟨v, k, er, rfl, hb, ⟨l', m', h1, rfl, rfl, h2⟩ | ⟨h1, _⟩⟩ := h
  · rw [hg] at h1; cases h1; exact ⟨v, rfl, hb, h2⟩
  · rw [hg] at h1; cases h1
theorem get_no {w w' : World} {bs : List UInt8} {n : Nat} {e : Ending} (h : GetPost w bs n e w') (hg : getP bs n = none) : e = .returned (.tuple #[.slice none 0 0, .int .i64 0, .int .i64 20]) ∧ BW w w' := by
  obtain ⟨v, k, er, rfl, hb, ⟨l', m', h1, _⟩ | ⟨h1, rfl, rfl, rfl⟩⟩ := h
  · rw [hg] at h1; cases h1
  · exact ⟨rfl, hb⟩
theorem put_of_get {l : List Int} {b : List UInt8} (h : getP b l.length = some (l, b.length)) : putP l = b := by
  obtain ⟨_, _, h3, h4⟩ := (get_iff _ _ _ _).1 h
  exact List.IsPrefix.eq_of_length h3 h4.symm
theorem pk1 : getP [1, 2, 12, 153] 2 = some ([-1, 2], 3) := by decide +kernel
theorem pk2 : widP [5, 0, 3] = 3 := by decide +kernel
theorem pk3 : bitsP [5, 0, 3] 3 = [197, 0] := by decide +kernel
theorem pk4 : putP [-1, 2] = [1, 2, 12] := put_of_get (by decide +kernel)
theorem src_drewN {w : World} {v : Value} {xs : List Value} (h : Src w v xs) (n : Nat) : Src (w.drewN n) v xs := h.below (drewN_below w n)
theorem len3 {a b c : Value} : (#[a, b, c] : Array Value).size = 3 := rfl

end Go.Proofs.Ytdoliejihinpkaa
