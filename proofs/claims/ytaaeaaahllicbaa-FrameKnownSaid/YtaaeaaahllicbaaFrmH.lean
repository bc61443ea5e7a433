/- The document's reader, step by step, over a reading of a sealed file. -/
import Derived.Test.YtaaeaaahllicbaaFrmG
import Derived.Test.YtaaeaaahllicbaaRefI
import Derived.Test.YtaaeaaahllicbaaRefJ
import Derived.Test.YtaaeaaahllicbaaRefG
namespace Go.Proofs.Ytaaeaaahllicbaa
open Go.RowKit Go.Maps Crc

theorem Bag.base {w : World} {B B' : Nat} {v : Value} {vs : List Value} {ss : List (List UInt8)} (h : Bag w B v vs ss) (hb : B' ≤ B) : Bag w B' v vs ss :=
  ⟨h.len, row_base h.out hb, fun j x s hx hs => row_base (h.row j x s hx hs) hb, h.apart, h.off⟩
theorem Src.mid {w : World} {b off n cap : Nat} {xs : List Value} (h : Src w (.slice (some ⟨b, off, none⟩) n cap) xs) {i j : Nat} (hj : j ≤ xs.length) (hij : i ≤ j) : Src w (.slice (some ⟨b, off + i, none⟩) (j - i) (cap - i)) ((xs.drop i).take (j - i)) := by
  rcases Nat.lt_or_ge i j with h1 | h1
  · exact h.part hj h1
  · obtain rfl : i = j := by omega
    rw [Nat.sub_self, List.take_zero]
    refine .inl ⟨_, _, rfl, rfl, fun e => (by cases e), ?_⟩
    rcases h with ⟨_, _, e, _, _, h6⟩ | ⟨_, _, _, e, _, h2, _⟩
    · injection e with _ _ e3; omega
    · injection e with _ _ e3; omega
theorem App.moves {F : Nat → Prop} {A w w' : World} {v v' : Value} (h : App v v' w w') (hm : Moves F A w) (hv : ∀ b, v.ownBlock = some b → A.heap.size ≤ b) : Moves F A w' := by
  rcases h with ⟨g, n, c, n', c', rfl, rfl, hg⟩ | ⟨hg, _⟩
  · exact hm.grown hg fun k e hk => by injection e with e; subst e; have := hv g rfl; omega
  · exact hm.grown hg fun k e => by cases e
theorem alloc_le (w : World) (o : Obj) : w.heap.size ≤ (w.alloc o).heap.size := by simp
theorem App.low {B : Nat} {w w' : World} {v v' : Value} (h : App v v' w w') (hB : B ≤ w.heap.size) (hv : ∀ b, v.ownBlock = some b → B ≤ b) : ∀ b, b < B → w'.heap[b]? = w.heap[b]? := fun b hb => by
  rcases h with ⟨g, n, c, n', c', rfl, rfl, hg⟩ | ⟨hg, _⟩
  · refine hg.block b (by omega) fun e => ?_
    injection e with e; have := hv g rfl; omega
  · exact hg.block b (by omega) (by simp)
theorem App.size {w w' : World} {v v' : Value} (h : App v v' w w') : w.heap.size ≤ w'.heap.size := by
  rcases h with ⟨g, n, c, n', c', rfl, rfl, hg⟩ | ⟨hg, _⟩ <;> exact hg.size
theorem grown_low {B : Nat} {w w' : World} {row : Option Nat} (hg : w.grownBy w' row) (hB : B ≤ w.heap.size) (hr : ∀ k, row = some k → B ≤ k) : ∀ b, b < B → w'.heap[b]? = w.heap[b]? := fun b hb => hg.block b (by omega) fun e => by have := hr b (by first | exact e | exact e.symm); omega
theorem moves_block {s : Nat} {w w' : World} (h : Moves (fun b => b = s) w w') {b : Nat} (hb : b < w.heap.size) (hne : b ≠ s) : w'.heap[b]? = w.heap[b]? := h.block b hb hne

namespace DocR
def StS (w : World) (s : Nat) (v : Value) (l : List UInt8) (g : Nat) (zs : List Nat) : Prop :=
  (∃ p, Rf w s v l p 0 ∧ restP l = ((sizesP g (l.drop p)).map fun q => (zs ++ q.1, q.2)).bind finP) ∨ (∃ p, Rf w s v l p 20 ∧ restP l = none)
def StC (w : World) (s : Nat) (v : Value) (l : List UInt8) (ns : List Nat) (ss : List (List UInt8)) : Prop :=
  (∃ p, Rf w s v l p 0 ∧ restP l = ((cutP ns (l.drop p)).map fun q => (ss ++ q.1, q.2)).bind finQ) ∨ (∃ p, Rf w s v l p 20 ∧ restP l = none)
theorem StS.keep {w w' : World} {s : Nat} {v : Value} {l : List UInt8} {g : Nat} {zs : List Nat} (h : StS w s v l g zs) {B : Nat} (hsB : s < B) (hv : ∀ a n k, v = .slice (some a) n k → a.block < B) (hs : w.heap.size ≤ w'.heap.size) (hk : ∀ b, b < B → w'.heap[b]? = w.heap[b]?) : StS w' s v l g zs := by
  rcases h with ⟨p, h, h2⟩ | ⟨p, h, h2⟩
  · exact .inl ⟨p, h.keep hs (hk s hsB) (fun _ a n k e => hk _ (hv a n k e)), h2⟩
  · exact .inr ⟨p, h.keep hs (hk s hsB) (fun _ a n k e => hk _ (hv a n k e)), h2⟩
theorem StC.keep {w w' : World} {s : Nat} {v : Value} {l : List UInt8} {ns : List Nat} {ss : List (List UInt8)} (h : StC w s v l ns ss) {B : Nat} (hsB : s < B) (hv : ∀ a n k, v = .slice (some a) n k → a.block < B) (hs : w.heap.size ≤ w'.heap.size) (hk : ∀ b, b < B → w'.heap[b]? = w.heap[b]?) : StC w' s v l ns ss := by
  rcases h with ⟨p, h, h2⟩ | ⟨p, h, h2⟩
  · exact .inl ⟨p, h.keep hs (hk s hsB) (fun _ a n k e => hk _ (hv a n k e)), h2⟩
  · exact .inr ⟨p, h.keep hs (hk s hsB) (fun _ a n k e => hk _ (hv a n k e)), h2⟩
theorem StS.done {w : World} {s : Nat} {v : Value} {l : List UInt8} {zs : List Nat} (h : StS w s v l 0 zs) : StC w s v l zs [] := by
  rcases h with ⟨p, h, h2⟩ | h
  · exact .inl ⟨p, h, by rw [h2, sizes_end]⟩
  · exact .inr h
def CountPost (w : World) (s : Nat) (v : Value) (l : List UInt8) (e : Ending) (w' : World) : Prop := ∃ k : Nat, k ≤ 1024 ∧ e = .returned (.int .i64 (k : Int)) ∧ Moves (fun b => b = s) w w' ∧ StS w' s v l k []
def SizePost (w : World) (s : Nat) (v : Value) (l : List UInt8) (g : Nat) (zs : List Nat) (e : Ending) (w' : World) : Prop := ∃ z : Nat, z ≤ 16777216 ∧ e = .returned (.int .i64 (z : Int)) ∧ Moves (fun b => b = s) w w' ∧ StS w' s v l g (zs ++ [z])
def CutPost (w : World) (s : Nat) (v : Value) (l : List UInt8) (ns : List Nat) (ss : List (List UInt8)) (e : Ending) (w' : World) : Prop := ∃ (x : Value) (t : List UInt8), e = .returned x ∧ Moves (fun b => b = s) w w' ∧ w'.ownsRow w.heap.size 5 1 x t.length (t.map bV) ∧ StC w' s v l ns (ss ++ [t])
def EndPost (w : World) (s : Nat) (l : List UInt8) (ss : List (List UInt8)) (e : Ending) (w' : World) : Prop := ∃ er : Int, e = .returned (.int .i64 er) ∧ Moves (fun b => b = s) w w' ∧ ((er = 0 ∧ restP l = some ss) ∨ (er = 20 ∧ restP l = none))
theorem dS_some {l : List UInt8} {m : Int} {x : Value} {c : Nat} (h : dS l m = some (x, c)) : ∃ u : Nat, sizeD l m = some (u, c) ∧ x = .int .i64 (u : Int) := by
  unfold dS at h
  cases hs : sizeD l m with
  | none => rw [hs] at h; cases h
  | some q => rw [hs] at h; cases h; exact ⟨_, rfl, rfl⟩
theorem dS_none {l : List UInt8} {m : Int} (h : dS l m = none) : sizeD l m = none := by
  unfold dS at h
  cases hs : sizeD l m with
  | none => rfl
  | some q => rw [hs] at h; cases h
theorem count_any {w : World} {s : Nat} {v : Value} {l : List UInt8} (h : Rf w s v l 0 0) : Calls Try.prog 33 #[.pointer (some ⟨s, 0, none⟩), .int .i64 1024] w (CountPost w s v l) := by
  refine (refSize_ok h 1024 (by decide) (by decide)).mono ?_
  rintro e w' ⟨x, rfl, hm, ⟨c, hd, hr⟩ | ⟨hd, rfl, hr⟩⟩
  · obtain ⟨u, hs, rfl⟩ := dS_some hd
    rw [List.drop_zero] at hs
    obtain ⟨h1, h2⟩ := rest_yes hs
    rw [Nat.zero_add] at hr
    exact ⟨u, h1, rfl, hm, .inl ⟨c, hr, h2⟩⟩
  · have hs := dS_none hd
    rw [List.drop_zero] at hs
    exact ⟨0, by decide, rfl, hm, .inr ⟨0, hr, rest_none hs⟩⟩
theorem size_any {w : World} {s : Nat} {v : Value} {l : List UInt8} {g : Nat} {zs : List Nat} (h : StS w s v l (g + 1) zs) : Calls Try.prog 33 #[.pointer (some ⟨s, 0, none⟩), .int .i64 16777216] w (SizePost w s v l g zs) := by
  rcases h with ⟨p, h, h2⟩ | ⟨p, h, h2⟩
  · refine (refSize_ok h 16777216 (by decide) (by decide)).mono ?_
    rintro e w' ⟨x, rfl, hm, ⟨c, hd, hr⟩ | ⟨hd, rfl, hr⟩⟩
    · obtain ⟨u, hs, rfl⟩ := dS_some hd
      obtain ⟨h1, h3⟩ := sizes_go (j := g) (zs := zs) hs
      refine ⟨u, h1, rfl, hm, .inl ⟨p + c, hr, ?_⟩⟩
      rw [h2, h3, List.drop_drop]
    · refine ⟨0, by decide, rfl, hm, .inr ⟨p, hr, ?_⟩⟩
      rw [h2, sizes_bad (dS_none hd)]; rfl
  · refine (refSize_bad h (by decide) 16777216).mono ?_
    rintro e w' ⟨rfl, rfl⟩
    exact ⟨0, by decide, rfl, Moves.refl _ _, .inr ⟨p, h, h2⟩⟩
theorem cut_any {w : World} {s : Nat} {v : Value} {l : List UInt8} {n : Nat} {ns : List Nat} {ss : List (List UInt8)} (h : StC w s v l (n :: ns) ss) (hn : n ≤ 16777216) : Calls Try.prog 34 #[.pointer (some ⟨s, 0, none⟩), .int .i64 (n : Int)] w (CutPost w s v l ns ss) := by
  rcases h with ⟨p, h, h2⟩ | ⟨p, h, h2⟩
  · refine (refBytes_ok h (n : Int) (by omega) (by omega)).mono ?_
    rintro e w' ⟨x, rfl, hm, ⟨hok, m, hmn, hr, ho⟩ | ⟨hno, rfl, hr⟩⟩
    · obtain rfl : m = n := by omega
      have hle : m ≤ (l.drop p).length := by unfold BytesOk at hok; omega
      refine ⟨x, (l.drop p).take m, rfl, hm, ?_, .inl ⟨p + m, hr, ?_⟩⟩
      · rw [List.length_take, Nat.min_eq_left hle]; exact ho
      · rw [h2, cut_go hle, List.drop_drop]
    · refine ⟨_, [], rfl, hm, World.ownsRow_nil _ _ _ _, .inr ⟨p, hr, ?_⟩⟩
      rw [h2, cut_bad (by unfold BytesOk at hno; omega)]; rfl
  · refine (refBytes_bad h (by decide) (n : Int)).mono ?_
    rintro e w' ⟨rfl, rfl⟩
    exact ⟨_, [], rfl, Moves.refl _ _, World.ownsRow_nil _ _ _ _, .inr ⟨p, h, h2⟩⟩
theorem end_any {w : World} {s : Nat} {v : Value} {l : List UInt8} {ss : List (List UInt8)} (h : StC w s v l [] ss) : Calls Try.prog 35 #[.pointer (some ⟨s, 0, none⟩)] w (EndPost w s l ss) := by
  rcases h with ⟨p, h, h2⟩ | ⟨p, h, h2⟩
  · refine (refEnd_any h).mono ?_
    rintro e w' ⟨rfl, hm, _⟩
    rw [cut_end] at h2
    have hle := h.le
    by_cases hp : p < l.length
    · refine ⟨20, by rw [if_pos ⟨rfl, hp⟩], hm, .inr ⟨rfl, ?_⟩⟩
      rw [h2, if_neg]
      intro e; have := congrArg List.length e; rw [List.length_drop, List.length_nil] at this; omega
    · refine ⟨0, by rw [if_neg (fun h => hp h.2)], hm, .inl ⟨rfl, ?_⟩⟩
      rw [h2, if_pos]
      exact List.drop_eq_nil_of_le (by omega)
  · refine (refEnd_any h).mono ?_
    rintro e w' ⟨rfl, hm, _⟩
    exact ⟨20, by rw [if_neg (fun h => absurd h.1 (by decide))], hm, .inr ⟨rfl, h2⟩⟩
end DocR
end Go.Proofs.Ytaaeaaahllicbaa
