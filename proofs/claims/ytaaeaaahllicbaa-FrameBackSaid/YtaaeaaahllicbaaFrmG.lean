/- Rows of bytes that are made one behind the other, in a row. -/
import Derived.Test.YtaaeaaahllicbaaFrmE
import Derived.Test.YtaaeaaahllicbaaKitG
namespace Go.Proofs.Ytaaeaaahllicbaa
open Go.RowKit Go.Maps Crc

structure Bag (w : World) (B : Nat) (v : Value) (vs : List Value) (ss : List (List UInt8)) : Prop where
  len : vs.length = ss.length
  out : w.ownsRow B 23 1 v vs.length vs
  row : ∀ (j : Nat) (x : Value) (s : List UInt8), vs[j]? = some x → ss[j]? = some s → w.ownsRow B 5 1 x s.length (s.map bV)
  apart : ∀ (i j : Nat) (x y : Value) (b : Nat), vs[i]? = some x → vs[j]? = some y → x.ownBlock = some b → y.ownBlock = some b → i = j
  off : ∀ (j : Nat) (x : Value) (b : Nat), vs[j]? = some x → x.ownBlock = some b → v.ownBlock ≠ some b
theorem Bag.nil (w : World) (B : Nat) : Bag w B (.slice none 0 0) [] [] :=
  ⟨rfl, World.ownsRow_nil _ _ _ _, fun j x s h => by simp at h, fun i j x y b h => by simp at h, fun j x b h => by simp at h⟩
theorem row_block {w : World} {base n t : Nat} {v : Value} {xs : List Value} (h : w.ownsRow base t 1 v n xs) {b : Nat} (hb : v.ownBlock = some b) : base ≤ b ∧ b < w.heap.size := by
  obtain ⟨a, n', c, e1, e2⟩ := own_some hb
  exact ⟨by have := row_base' h a n' c e1; omega, by have := row_lt h e1; omega⟩
theorem Bag.elem {w : World} {B : Nat} {v : Value} {vs : List Value} {ss : List (List UInt8)} (h : Bag w B v vs ss) {j : Nat} {x : Value} (hx : vs[j]? = some x) : ∃ s, ss[j]? = some s ∧ w.ownsRow B 5 1 x s.length (s.map bV) := by
  obtain ⟨hj, _⟩ := List.getElem?_eq_some_iff.1 hx
  have hs : ss[j]? = some (ss[j]'(by have := h.len; omega)) := List.getElem?_eq_getElem _
  exact ⟨_, hs, h.row j x _ hx hs⟩
theorem row_keepB {w w' : World} {base n t : Nat} {v : Value} {xs : List Value} (h : w.ownsRow base t 1 v n xs) (hk : ∀ b, v.ownBlock = some b → w'.heap[b]? = w.heap[b]?) : w'.ownsRow base t 1 v n xs :=
  row_keep h fun a n c e => hk a.block (by rw [e]; rfl)
theorem Bag.keep {w w' : World} {B : Nat} {v : Value} {vs : List Value} {ss : List (List UInt8)} (h : Bag w B v vs ss) (hk : ∀ b, B ≤ b → b < w.heap.size → w'.heap[b]? = w.heap[b]?) : Bag w' B v vs ss := by
  refine ⟨h.len, row_keepB h.out fun b e => ?_, fun j x s hx hs => row_keepB (h.row j x s hx hs) fun b e => ?_, h.apart, h.off⟩
  · have := row_block h.out e; exact hk b this.1 this.2
  · have := row_block (h.row j x s hx hs) e; exact hk b this.1 this.2
theorem Bag.below {w w' : World} {B : Nat} {v : Value} {vs : List Value} {ss : List (List UInt8)} (h : Bag w B v vs ss) (hb : BW w w') : Bag w' B v vs ss := h.keep fun b _ h2 => hb.block b h2
theorem Bag.push {w0 w w2 : World} {B : Nat} {v v' x : Value} {vs : List Value} {ss : List (List UInt8)} {s : List UInt8} {o : Obj} (h : Bag w0 B v vs ss) (hB : B ≤ w0.heap.size) (hs0 : w0.heap.size ≤ w.heap.size) (hk : ∀ b, B ≤ b → b < w0.heap.size → w.heap[b]? = w0.heap[b]?)
    (hx : w.ownsRow w0.heap.size 5 1 x s.length (s.map bV)) (ho : w2.ownsRow B 23 1 v' (vs.length + 1) (vs ++ [x])) (ha : App v v' (w.alloc o) w2) : Bag w2 B v' (vs ++ [x]) (ss ++ [s]) := by
  have hkw : ∀ b, b < w.heap.size → (w.alloc o).heap[b]? = w.heap[b]? := fun b hb => Below.heap_alloc _ _ _ hb
  have hsz : (w.alloc o).heap.size = w.heap.size + 1 := by simp
  have hmem : ∀ (j : Nat) (y : Value), (vs ++ [x])[j]? = some y → vs[j]? = some y ∨ (j = vs.length ∧ y = x) := fun j y hy => by
    rcases Nat.lt_or_ge j vs.length with hj | hj
    · rw [List.getElem?_append_left hj] at hy; exact .inl hy
    · rw [List.getElem?_append_right hj] at hy
      have : j - vs.length = 0 := by have := (List.getElem?_eq_some_iff.1 hy).1; simp at this; omega
      rw [this] at hy
      exact .inr ⟨by omega, by simpa using hy.symm⟩
  have hxb : ∀ b, x.ownBlock = some b → w0.heap.size ≤ b ∧ b < w.heap.size := fun b e => row_block hx e
  have hold : ∀ (j : Nat) (y : Value) (b : Nat), vs[j]? = some y → y.ownBlock = some b → B ≤ b ∧ b < w0.heap.size := fun j y b hy e => by
    obtain ⟨s', hs', hr⟩ := h.elem hy
    exact row_block hr e
  have hvb : ∀ b, v.ownBlock = some b → B ≤ b ∧ b < w0.heap.size := fun b e => row_block h.out e
  -- what is kept, and where the new row lies
  have hkeep : (∀ (j : Nat) (y : Value) (b : Nat), (vs ++ [x])[j]? = some y → y.ownBlock = some b → w2.heap[b]? = w.heap[b]? ∧ v'.ownBlock ≠ some b) := fun j y b hy e => by
    have hb : (B ≤ b ∧ b < w0.heap.size ∧ v.ownBlock ≠ some b) ∨ (w0.heap.size ≤ b ∧ b < w.heap.size) := by
      rcases hmem j y hy with hy | ⟨_, rfl⟩
      · exact .inl ⟨(hold j y b hy e).1, (hold j y b hy e).2, h.off j y b hy e⟩
      · exact .inr (hxb b e)
    have hbw : b < w.heap.size := by rcases hb with hb | hb <;> omega
    have hne : v.ownBlock ≠ some b := by
      rcases hb with hb | hb
      · exact hb.2.2
      · intro e2; have := hvb b e2; omega
    rcases ha with ⟨g, n, c, n', c', rfl, rfl, hg⟩ | ⟨hg, hnew⟩
    · refine ⟨(hg.block b (by omega) ?_).trans (hkw b hbw), hne⟩
      intro e2; exact hne e2.symm
    · refine ⟨(hg.block b (by omega) (by simp)).trans (hkw b hbw), fun e2 => ?_⟩
      obtain ⟨a, n, c, e3, e4⟩ := own_some e2
      have := hnew a n c e3
      omega
  refine ⟨by simp [h.len], by simpa using ho, fun j y s' hy hs' => ?_, fun i j y z b hy hz ey ez => ?_, fun j y b hy e => (hkeep j y b hy e).2⟩
  · rcases hmem j y hy with hv | ⟨rfl, rfl⟩
    · have hj := (List.getElem?_eq_some_iff.1 hv).1
      rw [List.getElem?_append_left (by have := h.len; omega)] at hs'
      exact row_keepB (h.row j y s' hv hs') fun b e => ((hkeep j y b hy e).1).trans (hk b (hold j y b hv e).1 (hold j y b hv e).2)
    · rw [h.len, List.getElem?_append_right (Nat.le_refl _), Nat.sub_self] at hs'
      have : s' = s := by simpa using hs'.symm
      subst this
      exact row_base (row_keepB hx fun b e => (hkeep _ _ b hy e).1) hB
  · rcases hmem i y hy with hy1 | ⟨rfl, rfl⟩ <;> rcases hmem j z hz with hz1 | ⟨rfl, rfl⟩
    · exact h.apart i j y z b hy1 hz1 ey ez
    · have := hold i y b hy1 ey; have := hxb b ez; omega
    · have := hold j z b hz1 ez; have := hxb b ey; omega
    · rfl
theorem Bag.rows {w : World} {B : Nat} {v : Value} {vs : List Value} {ss : List (List UInt8)} (h : Bag w B v vs ss) : SrcRows w v ss :=
  ⟨vs, h.len, Src.of_row h.out, fun i x s hx hs => Src.of_row (h.row i x s hx hs)⟩

/-- where a reading of lengths, and of sections, stands -/
def finP (q : List Nat × List UInt8) : Option (List (List UInt8)) := (cutP q.1 q.2).bind fun p => if p.2 = [] then some p.1 else none
def finQ (p : List (List UInt8) × List UInt8) : Option (List (List UInt8)) := if p.2 = [] then some p.1 else none
theorem rest_none {l : List UInt8} (h : sizeD l 1024 = none) : restP l = none := by
  unfold sizeD at h
  unfold restP
  cases hd : deco l with
  | none => rfl
  | some p =>
    obtain ⟨k, c⟩ := p
    rw [hd] at h
    simp only [Option.bind_some] at h
    have : ¬ k ≤ 1024 := fun hk => by rw [if_pos ⟨by decide, by show (k : Int) ≤ 1024; omega⟩] at h; cases h
    simp only [if_neg this]
theorem size_some {l : List UInt8} {m : Nat} {k c : Nat} (h : sizeD l (m : Int) = some (k, c)) : deco l = some (k, c) ∧ k ≤ m := by
  unfold sizeD at h
  cases hd : deco l with
  | none => rw [hd] at h; cases h
  | some p =>
    rw [hd] at h
    simp only [Option.bind_some] at h
    split at h
    · rename_i hk; cases h; exact ⟨rfl, by have := hk.2; simp at this; omega⟩
    · cases h
theorem rest_yes {l : List UInt8} {k c : Nat} (h : sizeD l 1024 = some (k, c)) : k ≤ 1024 ∧ restP l = ((sizesP k (l.drop c)).map fun q => (([] : List Nat) ++ q.1, q.2)).bind finP := by
  obtain ⟨h1, h2⟩ := size_some (m := 1024) h
  refine ⟨h2, ?_⟩
  unfold restP
  rw [h1]
  simp only [if_pos h2]
  cases sizesP k (l.drop c) with
  | none => rfl
  | some q => rfl
theorem sizes_go {j : Nat} {l : List UInt8} {zs : List Nat} {u c : Nat} (h : sizeD l 16777216 = some (u, c)) : u ≤ 16777216 ∧ (sizesP (j + 1) l).map (fun q => (zs ++ q.1, q.2)) = (sizesP j (l.drop c)).map fun q => ((zs ++ [u]) ++ q.1, q.2) := by
  obtain ⟨h1, h2⟩ := size_some (m := 16777216) h
  refine ⟨h2, ?_⟩
  rw [sizesP]
  simp only [h1, if_pos h2]
  cases sizesP j (l.drop c) with
  | none => rfl
  | some q => simp
theorem sizes_bad {j : Nat} {l : List UInt8} (h : sizeD l 16777216 = none) : sizesP (j + 1) l = none := by
  unfold sizeD at h
  rw [sizesP]
  cases hd : deco l with
  | none => rfl
  | some p =>
    obtain ⟨k, c⟩ := p
    rw [hd] at h
    simp only [Option.bind_some] at h
    have : ¬ k ≤ 16777216 := fun hk => by rw [if_pos ⟨by decide, by show (k : Int) ≤ 16777216; omega⟩] at h; cases h
    simp only [if_neg this]
theorem sizes_end {zs : List Nat} {l : List UInt8} : ((sizesP 0 l).map fun q => (zs ++ q.1, q.2)).bind finP = ((cutP zs l).map fun q => (([] : List (List UInt8)) ++ q.1, q.2)).bind finQ := by
  unfold sizesP finP
  simp only [Option.map_some, Option.bind_some, List.append_nil]
  cases cutP zs l with
  | none => rfl
  | some q => rfl
theorem cut_go {n : Nat} {ns : List Nat} {l : List UInt8} {ss : List (List UInt8)} (h : n ≤ l.length) : (cutP (n :: ns) l).map (fun q => (ss ++ q.1, q.2)) = (cutP ns (l.drop n)).map fun q => ((ss ++ [l.take n]) ++ q.1, q.2) := by
  rw [cutP, if_pos h]
  cases cutP ns (l.drop n) with
  | none => rfl
  | some q => simp
theorem cut_bad {n : Nat} {ns : List Nat} {l : List UInt8} (h : ¬ n ≤ l.length) : cutP (n :: ns) l = none := by rw [cutP, if_neg h]
theorem cut_end {ss : List (List UInt8)} {l : List UInt8} : ((cutP [] l).map fun q => (ss ++ q.1, q.2)).bind finQ = if l = [] then some ss else none := by
  unfold cutP finQ
  simp
end Go.Proofs.Ytaaeaaahllicbaa
