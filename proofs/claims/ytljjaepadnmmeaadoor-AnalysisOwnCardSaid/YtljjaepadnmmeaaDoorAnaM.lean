/- Stage 6 ahead (PLAIN): runes in runs, tokens, filters, as lists. -/
import Derived.Test.YtljjaepadnmmeaaDoorFldE
namespace Go.Proofs.YtljjaepadnmmeaaDoor
namespace Ana
open Fld

/-- blanks -/
def blankI (r : Int) : Bool := decide (9 ≤ r ∧ r ≤ 13) || decide (r = 32) || decide (r = 133) || decide (r = 160) || decide (8192 ≤ r ∧ r ≤ 8202) || decide (r = 8232) || decide (r = 8233) || decide (r = 12288)
def wordI (r : Int) : Bool := letterI r || digitI r
def mayI (n : Nat) (r : Int) : Bool := if n = 2 then !blankI r else wordI r || markI r
def mayN (n r : Nat) : Bool := mayI n (r : Int)
def beginI (n : Nat) (r : Int) : Bool := mayI n r && (n == 2 || wordI r)
/-- the runs of a row of runes: where one begins, and what is behind its end -/
def runsF : Nat → Nat → Nat → List Nat → List (Nat × Nat)
  | 0, _, _, _ => []
  | _ + 1, _, _, [] => []
  | f + 1, n, i, r :: l =>
    if beginI n r then
      (i, i + 1 + (l.takeWhile (mayN n)).length) :: runsF f n (i + 1 + (l.takeWhile (mayN n)).length) (l.drop (l.takeWhile (mayN n)).length)
    else runsF f n (i + 1) l
def runs (n i : Nat) (l : List Nat) : List (Nat × Nat) := runsF (l.length + 1) n i l
theorem runsF_enough : ∀ (f g n i : Nat) (l : List Nat), l.length < f → l.length < g → runsF f n i l = runsF g n i l
  | 0, _, _, _, _, h, _ => by omega
  | _, 0, _, _, _, _, h => by omega
  | f + 1, g + 1, n, i, [], _, _ => rfl
  | f + 1, g + 1, n, i, r :: l, hf, hg => by
    simp only [List.length_cons] at hf hg
    rw [runsF, runsF]
    split
    · rw [runsF_enough f g n _ _ (by rw [List.length_drop]; omega) (by rw [List.length_drop]; omega)]
    · exact runsF_enough f g n _ _ (by omega) (by omega)
theorem runs_nil (n i : Nat) : runs n i [] = [] := rfl
theorem runs_cons {n i r : Nat} {l : List Nat} : runs n i (r :: l) =
    if beginI n r then (i, i + 1 + (l.takeWhile (mayN n)).length) :: runs n (i + 1 + (l.takeWhile (mayN n)).length) (l.drop (l.takeWhile (mayN n)).length)
    else runs n (i + 1) l := by
  unfold runs
  rw [List.length_cons, runsF]
  split
  · rw [runsF_enough (l.length + 1) _ n _ _ (by rw [List.length_drop]; omega) (Nat.lt_succ_self _)]
  · rfl
theorem runs_ind {n : Nat} {P : List Nat → Prop} (h0 : P []) (h1 : ∀ r l, P l → P (l.drop (l.takeWhile (mayN n)).length) → P (r :: l)) : ∀ l, P l := by
  have : ∀ (k : Nat) (l : List Nat), l.length ≤ k → P l := by
    intro k
    induction k with
    | zero => intro l h; rw [show l = [] from List.eq_nil_of_length_eq_zero (by omega)]; exact h0
    | succ k ih =>
      intro l h
      cases l with
      | nil => exact h0
      | cons r l =>
        simp only [List.length_cons] at h
        exact h1 r l (ih l (by omega)) (ih _ (by rw [List.length_drop]; omega))
  exact fun l => this _ l (Nat.le_refl _)
/-- runs lie one behind the other, none is empty, the last ends with the row -/
theorem runs_shape {n : Nat} : ∀ (l : List Nat) (i : Nat), (∀ p ∈ runs n i l, i ≤ p.1 ∧ p.1 < p.2 ∧ p.2 ≤ i + l.length) ∧ (runs n i l).Pairwise (fun p q => p.2 ≤ q.1) := by
  intro l
  refine runs_ind (n := n) (P := fun l => ∀ i, (∀ p ∈ runs n i l, i ≤ p.1 ∧ p.1 < p.2 ∧ p.2 ≤ i + l.length) ∧ (runs n i l).Pairwise (fun p q => p.2 ≤ q.1)) ?_ ?_ l
  · intro i; rw [runs_nil]; exact ⟨fun p h => (by cases h), List.Pairwise.nil⟩
  · intro r l ih1 ih2 i
    rw [runs_cons]
    have ht : (l.takeWhile (mayN n)).length ≤ l.length := List.IsPrefix.length_le (List.takeWhile_prefix _)
    split
    · obtain ⟨h1, h2⟩ := ih2 (i + 1 + (l.takeWhile (mayN n)).length)
      rw [List.length_drop] at h1
      refine ⟨fun p hp => ?_, List.pairwise_cons.2 ⟨fun p hp => (h1 p hp).1, h2⟩⟩
      rcases List.mem_cons.1 hp with rfl | hp
      · simp only [List.length_cons]; omega
      · have := h1 p hp; simp only [List.length_cons]; omega
    · obtain ⟨h1, h2⟩ := ih1 (i + 1)
      exact ⟨fun p hp => by have := h1 p hp; simp only [List.length_cons]; omega, h2⟩
/-- what a tokenizer cuts, as numbers of runes -/
def cut (n : Nat) (l : List Nat) : List (Nat × Nat) :=
  if n = 3 then (if l = [] then [] else [(0, l.length)])
  else if n = 4 then (runs 1 0 l).flatMap fun p => (if p.2 = p.1 + 1 then [p] else []) ++ (List.range (p.2 - p.1 - 1)).map fun k => (p.1 + k, p.1 + k + 2)
  else runs n 0 l
/-- a token: its text, its position, its bytes -/
structure Tok where
  text : List UInt8
  pos : Int
  fr : Int
  en : Int
deriving DecidableEq
/-- where a text's runes begin (and, behind the last, its end) -/
def atC : List (Nat × List UInt8) → Nat → Nat
  | _, 0 => 0
  | [], _ + 1 => 0
  | p :: ps, k + 1 => p.2.length + atC ps k
def atL (s : List UInt8) (k : Nat) : Nat := atC (cutsL s) k
theorem atC_end : ∀ (ps : List (Nat × List UInt8)), atC ps ps.length = (ps.flatMap (·.2)).length
  | [] => rfl
  | p :: ps => by rw [List.length_cons, atC, atC_end ps, List.flatMap_cons, List.length_append]
theorem atC_lt : ∀ (ps : List (Nat × List UInt8)) (i k : Nat), (∀ p ∈ ps, p.2 ≠ []) → i < k → k ≤ ps.length → atC ps i < atC ps k
  | [], _, _, _, h, hk => by simp at hk; omega
  | p :: ps, 0, k + 1, hp, _, _ => by
    have := List.length_pos_iff.2 (hp p (List.mem_cons_self ..))
    rw [atC, atC]; omega
  | p :: ps, i + 1, k + 1, hp, h, hk => by
    rw [atC, atC]
    have := atC_lt ps i k (fun q hq => hp q (List.mem_cons_of_mem _ hq)) (by omega) (by simp only [List.length_cons] at hk; omega)
    omega
theorem cuts_ne (s : List UInt8) : ∀ p ∈ cutsL s, p.2 ≠ [] := by
  intro p hp
  rcases piece_all s p hp with ⟨_, c, h⟩ | ⟨_, h, _⟩
  · rw [h]; simp
  · rw [h]; exact form_ne _
theorem at_end (s : List UInt8) : atL s (cutsL s).length = s.length := by unfold atL; rw [atC_end, cuts_flat]
theorem at_lt {s : List UInt8} {i k : Nat} (h : i < k) (hk : k ≤ (cutsL s).length) : atL s i < atL s k := atC_lt _ _ _ (cuts_ne s) h hk
theorem at_le {s : List UInt8} {i k : Nat} (h : i ≤ k) (hk : k ≤ (cutsL s).length) : atL s i ≤ atL s k := by
  rcases Nat.lt_or_ge i k with h1 | h1
  · exact Nat.le_of_lt (at_lt h1 hk)
  · rw [show i = k by omega]; exact Nat.le_refl _
/-- the bytes of the runes i to k -/
def pieces (s : List UInt8) (i k : Nat) : List UInt8 := (((cutsL s).drop i).take (k - i)).flatMap (·.2)
theorem atC_drop : ∀ (ps : List (Nat × List UInt8)) (i : Nat), i ≤ ps.length → (ps.flatMap (·.2)).drop (atC ps i) = (ps.drop i).flatMap (·.2)
  | _, 0, _ => by rw [atC]; rfl
  | [], i + 1, h => by simp at h
  | p :: ps, i + 1, h => by
    rw [atC, List.flatMap_cons, List.drop_succ_cons, ← atC_drop ps i (by simp only [List.length_cons] at h; omega), List.drop_append]
    rw [List.drop_eq_nil_of_le (by omega), List.nil_append]
    congr 1; omega
theorem atC_take : ∀ (ps : List (Nat × List UInt8)) (i : Nat), i ≤ ps.length → (ps.flatMap (·.2)).take (atC ps i) = (ps.take i).flatMap (·.2)
  | ps, 0, _ => by cases ps <;> simp [atC]
  | [], i + 1, h => by simp at h
  | p :: ps, i + 1, h => by
    rw [atC, List.flatMap_cons, List.take_succ_cons, List.flatMap_cons, ← atC_take ps i (by simp only [List.length_cons] at h; omega), List.take_append]
    rw [List.take_of_length_le (by omega)]
    congr 2; omega
theorem atC_split : ∀ (ps : List (Nat × List UInt8)) (i j : Nat), atC ps (i + j) = atC ps i + atC (ps.drop i) j ∨ ps.length < i + j
  | ps, 0, j => .inl (by rw [Nat.zero_add]; simp [atC])
  | [], i + 1, j => .inr (by simp; omega)
  | p :: ps, i + 1, j => by
    rcases atC_split ps i j with h | h
    · left; rw [show i + 1 + j = (i + j) + 1 by omega, atC, atC, List.drop_succ_cons, h]; omega
    · right; simp only [List.length_cons]; omega
/-- what Go's slice of the text is -/
theorem slice_pieces {s : List UInt8} {i k : Nat} (h : i ≤ k) (hk : k ≤ (cutsL s).length) : (s.drop (atL s i)).take (atL s k - atL s i) = pieces s i k := by
  have h1 : s.drop (atL s i) = ((cutsL s).drop i).flatMap (·.2) := by
    have := atC_drop (cutsL s) i (by omega)
    rw [cuts_flat] at this; exact this
  have h2 : atL s k - atL s i = atC ((cutsL s).drop i) (k - i) := by
    rcases atC_split (cutsL s) i (k - i) with e | e
    · unfold atL; rw [show k = i + (k - i) by omega, e, show i + (k - i) - i = k - i by omega]; omega
    · omega
  rw [h1, h2, atC_take _ _ (by rw [List.length_drop]; omega)]
  rfl
def runesOf (s : List UInt8) : List Nat := (cutsL s).map (·.1)
/-- a tokenizer's tokens -/
def toks (n : Nat) (s : List UInt8) : List Tok := (cut n (runesOf s)).zipIdx.map fun x => ⟨pieces s x.1.1 x.1.2, (x.2 : Int), (atL s x.1.1 : Int), (atL s x.1.2 : Int)⟩
theorem runes_len (s : List UInt8) : (runesOf s).length = (cutsL s).length := List.length_map ..
/-- what is cut: no cut is empty or passes the end, and they begin in order -/
def Shape (c : Nat) (ps : List (Nat × Nat)) : Prop := (∀ p ∈ ps, p.1 < p.2 ∧ p.2 ≤ c) ∧ ps.Pairwise (fun p q => p.1 ≤ q.1)
theorem grams_shape {p : Nat × Nat} (hp : p.1 < p.2) : (∀ q ∈ ((if p.2 = p.1 + 1 then [p] else []) ++ (List.range (p.2 - p.1 - 1)).map fun k => (p.1 + k, p.1 + k + 2)), p.1 ≤ q.1 ∧ q.1 < q.2 ∧ q.2 ≤ p.2) ∧
    ((if p.2 = p.1 + 1 then [p] else []) ++ (List.range (p.2 - p.1 - 1)).map fun k => (p.1 + k, p.1 + k + 2)).Pairwise (fun a b => a.1 ≤ b.1) := by
  by_cases h : p.2 = p.1 + 1
  · rw [if_pos h, show p.2 - p.1 - 1 = 0 by omega]
    simp; omega
  · rw [if_neg h, List.nil_append]
    refine ⟨fun q hq => ?_, ?_⟩
    · obtain ⟨k, hk, rfl⟩ := List.mem_map.1 hq
      have := List.mem_range.1 hk
      simp only; omega
    · rw [List.pairwise_map]
      exact List.Pairwise.imp (fun h => by simp only; omega) List.pairwise_lt_range
theorem flat_shape {c : Nat} {f : Nat × Nat → List (Nat × Nat)} : ∀ (l : List (Nat × Nat)), (∀ p ∈ l, p.1 < p.2 ∧ p.2 ≤ c) → l.Pairwise (fun p q => p.2 ≤ q.1) →
    (∀ p, p.1 < p.2 → (∀ q ∈ f p, p.1 ≤ q.1 ∧ q.1 < q.2 ∧ q.2 ≤ p.2) ∧ (f p).Pairwise (fun a b => a.1 ≤ b.1)) → Shape c (l.flatMap f)
  | [], _, _, _ => ⟨fun p h => (by cases h), List.Pairwise.nil⟩
  | p :: l, h1, h2, hf => by
    obtain ⟨i1, i2⟩ := flat_shape l (fun q hq => h1 q (List.mem_cons_of_mem _ hq)) (List.pairwise_cons.1 h2).2 hf
    obtain ⟨a1, a2⟩ := hf p (h1 p (List.mem_cons_self ..)).1
    have hp := h1 p (List.mem_cons_self ..)
    rw [List.flatMap_cons]
    refine ⟨fun q hq => ?_, List.pairwise_append.2 ⟨a2, i2, fun a ha b hb => ?_⟩⟩
    · rcases List.mem_append.1 hq with h | h
      · have := a1 q h; omega
      · exact i1 q h
    · obtain ⟨q, hq, hb⟩ := List.mem_flatMap.1 hb
      have h3 := (List.pairwise_cons.1 h2).1 q hq
      have h4 := a1 a ha
      have h5 := (hf q (h1 q (List.mem_cons_of_mem _ hq)).1).1 b hb
      omega
theorem cut_shape (n : Nat) (l : List Nat) : Shape l.length (cut n l) := by
  unfold cut
  split
  · split
    · exact ⟨fun p h => (by cases h), List.Pairwise.nil⟩
    · rename_i h
      have := List.length_pos_iff.2 h
      refine ⟨fun p hp => ?_, List.pairwise_singleton ..⟩
      rw [List.mem_singleton.1 hp]; simp only; omega
  · split
    · obtain ⟨h1, h2⟩ := runs_shape (n := 1) l 0
      exact flat_shape _ (fun p hp => by have := h1 p hp; omega) h2 (fun p hp => grams_shape hp)
    · obtain ⟨h1, h2⟩ := runs_shape (n := n) l 0
      refine ⟨fun p hp => by have := h1 p hp; omega, ?_⟩
      refine List.Pairwise.imp_of_mem (fun {a b} ha hb h => ?_) h2
      have := h1 a ha; omega
/-- tokens come from places, in order -/
def Placed (c : Nat) (l : List Tok) : Prop := (∀ t ∈ l, 0 ≤ t.fr ∧ t.fr < t.en ∧ t.en ≤ (c : Int)) ∧ l.Pairwise (fun a b => a.pos ≤ b.pos ∧ a.fr ≤ b.fr)
theorem zip_pair {R : Nat × Nat → Nat × Nat → Prop} : ∀ (l : List (Nat × Nat)) (j : Nat), l.Pairwise R → (l.zipIdx j).Pairwise (fun a b => a.2 < b.2 ∧ R a.1 b.1) ∧ ∀ x ∈ l.zipIdx j, j ≤ x.2 ∧ x.1 ∈ l
  | [], _, _ => ⟨List.Pairwise.nil, fun x h => (by cases h)⟩
  | p :: l, j, h => by
    obtain ⟨h1, h2⟩ := List.pairwise_cons.1 h
    obtain ⟨i1, i2⟩ := zip_pair l (j + 1) h2
    rw [List.zipIdx_cons]
    refine ⟨List.pairwise_cons.2 ⟨fun x hx => ⟨by have := (i2 x hx).1; simp only; omega, h1 _ (i2 x hx).2⟩, i1⟩, fun x hx => ?_⟩
    rcases List.mem_cons.1 hx with rfl | hx
    · exact ⟨Nat.le_refl _, List.mem_cons_self ..⟩
    · exact ⟨by have := (i2 x hx).1; omega, List.mem_cons_of_mem _ (i2 x hx).2⟩
theorem toks_placed (n : Nat) (s : List UInt8) : Placed s.length (toks n s) := by
  obtain ⟨h1, h2⟩ := cut_shape n (runesOf s)
  rw [runes_len] at h1
  obtain ⟨z1, z2⟩ := zip_pair _ 0 h2
  unfold toks
  refine ⟨fun t ht => ?_, ?_⟩
  · obtain ⟨x, hx, rfl⟩ := List.mem_map.1 ht
    have h3 := h1 _ (z2 x hx).2
    have h4 := at_lt (s := s) h3.1 h3.2
    have h5 := at_le (s := s) h3.2 (Nat.le_refl _)
    rw [at_end] at h5
    simp only; omega
  · rw [List.pairwise_map]
    refine List.Pairwise.imp_of_mem (fun {a b} ha hb h => ?_) z1
    have h3 := h1 _ (z2 a ha).2
    have h4 := h1 _ (z2 b hb).2
    have h5 := at_le (s := s) h.2 (by omega)
    simp only; omega
/-- a filter's texts -/
def stopWords : List (List UInt8) := [[97], [97, 110], [97, 110, 100], [97, 114, 101], [97, 115], [97, 116], [98, 101], [98, 117, 116], [98, 121], [102, 111, 114], [105, 102], [105, 110], [105, 110, 116, 111], [105, 115], [105, 116], [110, 111], [110, 111, 116], [111, 102], [111, 110], [111, 114], [115, 117, 99, 104], [116, 104, 97, 116], [116, 104, 101], [116, 104, 101, 105, 114], [116, 104, 101, 110], [116, 104, 101, 114, 101], [116, 104, 101, 115, 101], [116, 104, 101, 121], [116, 104, 105, 115], [116, 111], [119, 97, 115], [119, 105, 108, 108], [119, 105, 116, 104]]
def stopL (s : List UInt8) : Bool := stopWords.contains s
def bare (s : List UInt8) : List UInt8 := ((cutsL s).filter fun p => !markI p.1).flatMap (·.2)
def one (n : Int) (s : List UInt8) : List (List UInt8) :=
  if n = 10 then [foldL s]
  else if n = 11 then (if stopL s then [] else [s])
  else if n = 12 ∨ n = 13 then (if (n - 10).toNat < (cutsL s).length then (List.range ((cutsL s).length - (n - 10).toNat + 1)).map fun i => pieces s i (i + (n - 10).toNat) else [s])
  else if n = 14 then (if 16 < (cutsL s).length then [pieces s 0 16] else [s])
  else if n = 15 then (if bare s = [] then [] else [bare s])
  else [s]
def linkT (n : Int) (l : List Tok) : List Tok := l.flatMap fun t => (one n t.text).map fun x => { t with text := x }
def filterI (n : Int) : Bool := decide (10 ≤ n ∧ n ≤ 15)
/-- a filter's answer: the tokens, the error -/
def linkL (n : Int) (l : List Tok) : List Tok × Int := if filterI n then (if (linkT n l).length ≤ 4096 then (linkT n l, 0) else ([], 84)) else ([], 60)
theorem linkT_placed {c : Nat} (n : Int) : ∀ (l : List Tok), Placed c l → Placed c (linkT n l)
  | [], _ => ⟨fun p h => (by cases h), List.Pairwise.nil⟩
  | t :: l, ⟨h1, h2⟩ => by
    obtain ⟨i1, i2⟩ := linkT_placed n l ⟨fun q hq => h1 q (List.mem_cons_of_mem _ hq), (List.pairwise_cons.1 h2).2⟩
    have e : linkT n (t :: l) = (one n t.text).map (fun x => { t with text := x }) ++ linkT n l := List.flatMap_cons
    rw [e]
    refine ⟨fun q hq => ?_, List.pairwise_append.2 ⟨?_, i2, fun a ha b hb => ?_⟩⟩
    · rcases List.mem_append.1 hq with h | h
      · obtain ⟨x, _, rfl⟩ := List.mem_map.1 h
        exact h1 t (List.mem_cons_self ..)
      · exact i1 q h
    · rw [List.pairwise_map]
      exact List.pairwise_of_forall (fun _ _ => ⟨Int.le_refl _, Int.le_refl _⟩)
    · obtain ⟨x, _, rfl⟩ := List.mem_map.1 ha
      obtain ⟨u, hu, hb⟩ := List.mem_flatMap.1 hb
      obtain ⟨y, _, rfl⟩ := List.mem_map.1 hb
      exact (List.pairwise_cons.1 h2).1 u hu
/-- a chain -/
def checkL (c : List Int) : Int := if c.length = 0 ∨ 8 < c.length then 60 else if (c.zipIdx.any fun x => (x.2 == 0 && (decide (x.1 < 1) || decide (4 < x.1))) || (x.2 != 0 && !filterI x.1)) || !decide c.Nodup then 60 else 0
def linksL : List Int → List Tok → List Tok × Int
  | [], l => (l, 0)
  | n :: c, l => if (linkL n l).2 = 0 then linksL c (linkL n l).1 else ([], (linkL n l).2)
def runL (c : List Int) (s : List UInt8) : List Tok × Int :=
  if checkL c ≠ 0 then ([], checkL c) else if 4096 < s.length then ([], 3) else if 4096 < (toks (c.headD 0).toNat s).length then ([], 84) else linksL c.tail (toks (c.headD 0).toNat s)
theorem links_placed {k : Nat} : ∀ (c : List Int) (l : List Tok), Placed k l → Placed k (linksL c l).1
  | [], _, h => h
  | n :: c, l, h => by
    rw [linksL]
    split
    · refine links_placed c _ ?_
      unfold linkL
      split
      · split
        · exact linkT_placed n l h
        · exact ⟨fun p h => (by cases h), List.Pairwise.nil⟩
      · exact ⟨fun p h => (by cases h), List.Pairwise.nil⟩
    · exact ⟨fun p h => (by cases h), List.Pairwise.nil⟩
theorem run_placed (c : List Int) (s : List UInt8) : Placed s.length (runL c s).1 := by
  have h0 : Placed s.length ([] : List Tok) := ⟨fun p h => (by cases h), List.Pairwise.nil⟩
  unfold runL
  split
  · exact h0
  · split
    · exact h0
    · split
      · exact h0
      · exact links_placed _ _ (toks_placed _ s)
theorem link_err {n : Int} {l : List Tok} (h : (linkL n l).2 ≠ 0) : linkL n l = ([], (linkL n l).2) := by
  unfold linkL at h ⊢
  by_cases h1 : filterI n = true
  · rw [if_pos h1] at h ⊢
    by_cases h2 : (linkT n l).length ≤ 4096
    · rw [if_pos h2] at h; exact absurd rfl h
    · rw [if_neg h2]
  · rw [if_neg h1]
theorem links_snoc (n : Int) : ∀ (c : List Int) (l : List Tok), linksL (c ++ [n]) l = if (linksL c l).2 = 0 then linkL n (linksL c l).1 else ([], (linksL c l).2)
  | [], l => by
    simp only [List.nil_append, linksL, if_true]
    split
    · rename_i h; exact Prod.ext rfl h.symm
    · rename_i h; exact (link_err h).symm
  | m :: c, l => by
    rw [List.cons_append, linksL, linksL]
    split
    · exact links_snoc n c _
    · first | rfl | (rename_i h; rw [if_neg h])
end Ana
end Go.Proofs.YtljjaepadnmmeaaDoor
