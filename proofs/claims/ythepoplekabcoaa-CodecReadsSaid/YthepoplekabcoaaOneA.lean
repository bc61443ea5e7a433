/- A reader and the reference's, side by side. -/
import Derived.Test.YthepoplekabcoaaRefG
import Derived.Test.YthepoplekabcoaaRefH
import Derived.Test.YthepoplekabcoaaRefI
import Derived.Test.YthepoplekabcoaaCodS
import Derived.Deep.RegionWith
namespace Go.Proofs.Ythepoplekabcoaa
open Go.RowKit Go.Maps

theorem RefG.some {w w' : World} {s : Nat} {v : Value} {bs : List UInt8} {p : Nat} {z : Value} {D : Option (Value × Nat)} {e : Ending} (h : RefG w s v bs p z D e w') {x : Value} {k : Nat} (hd : D = some (x, k)) : e = .returned x ∧ Moves (fun b => b = s) w w' ∧ Rf w' s v bs (p + k) 0 := by
  obtain ⟨y, rfl, hm, ⟨k', h1, h2⟩ | ⟨h1, _⟩⟩ := h
  · rw [hd] at h1; cases h1; exact ⟨rfl, hm, h2⟩
  · rw [hd] at h1; cases h1
theorem RefG.none {w w' : World} {s : Nat} {v : Value} {bs : List UInt8} {p : Nat} {z : Value} {D : Option (Value × Nat)} {e : Ending} (h : RefG w s v bs p z D e w') (hd : D = none) : e = .returned z ∧ Moves (fun b => b = s) w w' ∧ Rf w' s v bs p 20 := by
  obtain ⟨y, rfl, hm, ⟨k', h1, h2⟩ | ⟨h1, rfl, h2⟩⟩ := h
  · rw [hd] at h1; cases h1
  · exact ⟨rfl, hm, h2⟩

structure Pair (w : World) (r c s : Nat) (v : Value) (bs : List UInt8) (p : Nat) (e : Int) : Prop where
  rd : Rd w r c (bs.drop p) e
  rf : Rf w s v bs p e
  rs : r ≠ s
  cs : c ≠ s
  vr : bs ≠ [] → ∀ a n k, v = .slice (some a) n k → a.block ≠ r
  ee : e = 0 ∨ e = 20

def RS (r s : Nat) (b : Nat) : Prop := b = r ∨ b = s

theorem Rf.movedR {w w' : World} {r s : Nat} {v : Value} {bs : List UInt8} {p : Nat} {e : Int} (h : Rf w s v bs p e) (hm : Moves (fun b => b = r) w w') (hrs : r ≠ s) (hv : bs ≠ [] → ∀ a n k, v = .slice (some a) n k → a.block ≠ r) : Rf w' s v bs p e := by
  refine h.keep hm.size (hm.block s (lt_of_heap h.blk) (fun e => hrs e.symm)) (fun hne a n k e => ?_)
  have hlt : a.block < w.heap.size := by
    rcases h.src with ⟨_, _, _, hx, _⟩ | ⟨b, off, cap, hv', _, _, h3, _⟩
    · exact absurd (by simpa using hx) hne
    · rw [hv'] at e; cases e; exact h3
  exact hm.block _ hlt (hv hne a n k e)

theorem Pair.below {w w' : World} {r c s : Nat} {v : Value} {bs : List UInt8} {p : Nat} {e : Int} (h : Pair w r c s v bs p e) (hb : BW w w') : Pair w' r c s v bs p e := ⟨h.rd.below hb, h.rf.below hb, h.rs, h.cs, h.vr, h.ee⟩
/-- both have gone on -/
theorem Pair.step {w w1 w2 : World} {r c s : Nat} {v : Value} {bs : List UInt8} {p : Nat} {e : Int} (h : Pair w r c s v bs p e) {p' : Nat} {e' : Int} (m1 : Moves (fun b => b = r) w w1) (h1 : Rd w1 r c (bs.drop p') e') (m2 : Moves (fun b => b = s) w1 w2) (h2 : Rf w2 s v bs p' e') (he : e' = 0 ∨ e' = 20) :
    Pair w2 r c s v bs p' e' ∧ Moves (RS r s) w w2 :=
  ⟨⟨h1.moved m2 h.rs h.cs, h2, h.rs, h.cs, h.vr, he⟩, (m1.mono (fun _ _ e => .inl e)).trans (m2.mono (G := RS r s) (fun _ _ e => .inr e)) (fun _ _ e => e)⟩

def OnePost (w : World) (r c s : Nat) (v : Value) (bs : List UInt8) (e : Int) (en : Ending) (w' : World) : Prop := en = .returned (.bool true) ∧ ∃ p' e', Pair w' r c s v bs p' e' ∧ Moves (RS r s) w w' ∧ (e = 20 → e' = 20)
theorem moves_alloc_rs {w w' : World} {o : Obj} {F : Nat → Prop} (m : Moves F (w.alloc o) w') : Moves F w w' := (Moves.alloc (Moves.refl F w) o).trans m (fun _ _ e => e)
theorem moves_bw {w w1 w2 : World} {F : Nat → Prop} (hb : BW w w1) (m : Moves F w1 w2) : Moves F w w2 := (Moves.of_below hb F).trans m (fun _ _ e => e)

end Go.Proofs.Ythepoplekabcoaa
