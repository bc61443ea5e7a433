/- Stage 6, the program, PLAIN: how its closures come to the document's cuts: a scan over the runes' places; grams by places. -/
import Derived.Test.YtljjaepadnmmeaaDoorAnaP
namespace Go.Proofs.YtljjaepadnmmeaaDoor
namespace Ana
open Fld

/-- the scan: what was put, where a run began -/
def scanS (b h : Nat → Bool) (s : List (Nat × Nat) × Option Nat) (x : Nat × Nat) : List (Nat × Nat) × Option Nat :=
  match s.2 with
  | none => if b x.2 then (if h x.2 then (s.1, some x.1) else (s.1 ++ [(x.1, x.1)], none)) else (s.1, none)
  | some a => if h x.2 then (s.1, some a) else (s.1 ++ [(a, x.1)], none)
def scanE (e : Nat) (s : List (Nat × Nat) × Option Nat) : List (Nat × Nat) := match s.2 with | none => s.1 | some a => s.1 ++ [(a, e)]
def scanL (b h : Nat → Bool) (l : List UInt8) : List (Nat × Nat) := scanE l.length ((placesL l).foldl (scanS b h) ([], none))
def tot (cs : List (Nat × List UInt8)) : Nat := atC cs cs.length
theorem tot_cons (c : Nat × List UInt8) (cs : List (Nat × List UInt8)) : tot (c :: cs) = c.2.length + tot cs := by unfold tot; rw [List.length_cons, atC]
theorem scan_some {b h : Nat → Bool} (hbh : ∀ r, b r = true → h r = true) : ∀ (cs : List (Nat × List UInt8)) (k a : Nat) (out : List (Nat × Nat)),
    scanE (k + tot cs) ((placesC k cs).foldl (scanS b h) (out, some a)) =
      scanE (k + tot cs) ((placesC (k + atC cs ((cs.map (·.1)).takeWhile h).length) (cs.drop ((cs.map (·.1)).takeWhile h).length)).foldl (scanS b h) (out ++ [(a, k + atC cs ((cs.map (·.1)).takeWhile h).length)], none))
  | [], k, a, out => by simp [placesC, scanE, tot, atC]
  | (r, p) :: cs, k, a, out => by
    rw [placesC, List.foldl_cons, List.map_cons, List.takeWhile_cons]
    by_cases hr : h r = true
    · rw [if_pos hr, List.length_cons, List.drop_succ_cons, atC, tot_cons]
      have ih := scan_some hbh cs (k + p.length) a out
      have e : scanS b h (out, some a) (k, r) = (out, some a) := by simp [scanS, hr]
      rw [e, show k + (p.length + tot cs) = (k + p.length) + tot cs by omega, ih]
      simp only [Nat.add_assoc]
    · rw [if_neg hr, List.length_nil, List.drop_zero]
      have hb : b r = false := by cases hb : b r with | false => rfl | true => exact absurd (hbh r hb) hr
      have e : scanS b h (out, some a) (k, r) = (out ++ [(a, k)], none) := by simp [scanS, hr]
      have e2 : scanS b h (out ++ [(a, k)], none) (k, r) = (out ++ [(a, k)], none) := by simp [scanS, hb]
      rw [e]
      simp only [atC, Nat.add_zero, placesC, List.foldl_cons, e2]
theorem atC_add {ps : List (Nat × List UInt8)} {i j : Nat} (h : i + j ≤ ps.length) : atC ps (i + j) = atC ps i + atC (ps.drop i) j := by
  rcases atC_split ps i j with e | e
  · exact e
  · omega
theorem scan_none {b h : Nat → Bool} {n : Nat} (hb : ∀ r : Nat, b r = beginI n r) (hh : ∀ r, h r = mayN n r) : ∀ (m : Nat) (cs : List (Nat × List UInt8)) (k i : Nat) (out : List (Nat × Nat)), cs.length ≤ m →
    scanE (k + tot cs) ((placesC k cs).foldl (scanS b h) (out, none)) = out ++ (runs n i (cs.map (·.1))).map fun p => (k + atC cs (p.1 - i), k + atC cs (p.2 - i)) := by
  have hbh : ∀ r, b r = true → h r = true := fun r hr => by
    rw [hb] at hr; rw [hh]; unfold beginI at hr; rw [Bool.and_eq_true] at hr; exact hr.1
  have hhe : h = mayN n := funext hh
  intro m
  induction m with
  | zero => intro cs k i out hm; rw [show cs = [] from List.eq_nil_of_length_eq_zero (by omega)]; simp [placesC, scanE, runs_nil]
  | succ m ih =>
    intro cs k i out hm
    cases cs with
    | nil => simp [placesC, scanE, runs_nil]
    | cons c cs =>
      obtain ⟨r, p⟩ := c
      rw [List.length_cons] at hm
      rw [placesC, List.foldl_cons, List.map_cons, runs_cons, tot_cons]
      obtain ⟨h1, _⟩ := runs_shape (n := n) (cs.map (·.1)) (i + 1)
      by_cases hr : beginI n r = true
      · have hr' : b r = true := by rw [hb]; exact hr
        have e : scanS b h (out, none) (k, r) = (out, some k) := by simp [scanS, hr', hbh r hr']
        rw [if_pos hr, e, show k + (p.length + tot cs) = (k + p.length) + tot cs by omega, scan_some hbh, hhe]
        obtain ⟨t, ht⟩ : ∃ t, t = ((cs.map (·.1)).takeWhile (mayN n)).length := ⟨_, rfl⟩
        rw [← ht]
        have htl : t ≤ cs.length := by rw [ht]; have := List.IsPrefix.length_le (List.takeWhile_prefix (mayN n) (l := cs.map (·.1))); rw [List.length_map] at this; exact this
        have e3 : k + p.length + tot cs = (k + p.length + atC cs t) + tot (cs.drop t) := by
          unfold tot; rw [List.length_drop]
          have := atC_add (ps := cs) (i := t) (j := cs.length - t) (by omega)
          rw [show t + (cs.length - t) = cs.length by omega] at this; omega
        rw [e3, ← hhe, ih (cs.drop t) _ (i + 1 + t) _ (by rw [List.length_drop]; omega), List.map_cons, List.append_assoc, List.singleton_append]
        have e4 : (cs.map (·.1)).drop t = (cs.drop t).map (·.1) := List.map_drop.symm
        rw [e4]
        obtain ⟨h2, _⟩ := runs_shape (n := n) ((cs.drop t).map (·.1)) (i + 1 + t)
        congr 1
        congr 1
        · rw [Nat.sub_self, show i + 1 + t - i = t + 1 by omega]; simp only [atC, Nat.add_assoc, Nat.add_zero]
        · refine List.map_congr_left fun q hq => ?_
          have h3 := h2 q hq
          rw [List.length_map, List.length_drop] at h3
          rw [show q.1 - i = (t + (q.1 - (i + 1 + t))) + 1 by omega, show q.2 - i = (t + (q.2 - (i + 1 + t))) + 1 by omega]
          simp only [atC]
          rw [atC_add (by omega), atC_add (by omega)]
          simp only [Prod.mk.injEq]; omega
      · have hr' : b r = false := by rw [hb]; simpa using hr
        have e : scanS b h (out, none) (k, r) = (out, none) := by simp [scanS, hr']
        rw [if_neg hr, e, show k + (p.length + tot cs) = (k + p.length) + tot cs by omega, ih cs (k + p.length) (i + 1) out (by omega)]
        congr 1
        refine List.map_congr_left fun q hq => ?_
        have h3 := h1 q hq
        rw [show q.1 - i = (q.1 - (i + 1)) + 1 by omega, show q.2 - i = (q.2 - (i + 1)) + 1 by omega]
        simp only [atC, Nat.add_assoc]
/-- a cut's places in the text -/
def byPlace (s : List UInt8) (p : Nat × Nat) : Nat × Nat := (atL s p.1, atL s p.2)
theorem tot_cuts (l : List UInt8) : tot (cutsL l) = l.length := at_end l
theorem scan_runs {b h : Nat → Bool} {n : Nat} (hb : ∀ r : Nat, b r = beginI n r) (hh : ∀ r, h r = mayN n r) (l : List UInt8) : scanL b h l = (runs n 0 (runesOf l)).map (byPlace l) := by
  have := scan_none hb hh (cutsL l).length (cutsL l) 0 0 [] (Nat.le_refl _)
  rw [tot_cuts, Nat.zero_add, List.nil_append] at this
  unfold scanL placesL
  rw [this]
  refine List.map_congr_left fun q _ => ?_
  unfold byPlace atL; simp
/-- the places rise -/
theorem places_rise : ∀ (cs : List (Nat × List UInt8)) (k : Nat), (∀ p ∈ cs, p.2 ≠ []) → (∀ x ∈ placesC k cs, k ≤ x.1 ∧ x.1 < k + tot cs) ∧ (placesC k cs).Pairwise (fun x y => x.1 < y.1)
  | [], k, _ => ⟨fun x h => (by cases h), List.Pairwise.nil⟩
  | (r, p) :: cs, k, hp => by
    have hl := List.length_pos_iff.2 (hp (r, p) (List.mem_cons_self ..))
    obtain ⟨i1, i2⟩ := places_rise cs (k + p.length) (fun q hq => hp q (List.mem_cons_of_mem _ hq))
    simp only at hl
    rw [placesC, tot_cons]
    refine ⟨fun x hx => ?_, List.pairwise_cons.2 ⟨fun y hy => by have := i1 y hy; simp only; omega, i2⟩⟩
    rcases List.mem_cons.1 hx with rfl | hx
    · simp only; omega
    · have := i1 x hx; simp only; omega
theorem places_lt {l : List UInt8} {x : Nat × Nat} (h : x ∈ placesL l) : x.1 < l.length := by
  have := (places_rise (cutsL l) 0 (cuts_ne l)).1 x h
  rw [tot_cuts] at this; omega
theorem scan_from {b h : Nat → Bool} : ∀ (ps : List (Nat × Nat)) (s : List (Nat × Nat) × Option Nat) (a : Nat), (ps.foldl (scanS b h) s).2 = some a → s.2 = some a ∨ ∃ x ∈ ps, x.1 = a
  | [], s, a, e => .inl e
  | x :: ps, s, a, e => by
    rw [List.foldl_cons] at e
    rcases scan_from ps _ a e with h1 | ⟨y, hy, h1⟩
    · unfold scanS at h1
      split at h1
      · split at h1
        · split at h1
          · simp only [Option.some.injEq] at h1; exact .inr ⟨x, List.mem_cons_self .., h1⟩
          · cases h1
        · cases h1
      · rename_i a' ha
        split at h1
        · exact .inl (ha.trans h1)
        · cases h1
    · exact .inr ⟨y, List.mem_cons_of_mem _ hy, h1⟩
/-- where a run began lies ahead of the next place, and within the text -/
theorem scan_ahead {b h : Nat → Bool} {l : List UInt8} {pre : List (Nat × Nat)} {x : Nat × Nat} {a : Nat} (hp : pre ++ [x] <+: placesL l) (e : (pre.foldl (scanS b h) ([], none)).2 = some a) : a < x.1 ∧ x.1 < l.length := by
  obtain ⟨t, ht⟩ := hp
  have hr := (places_rise (cutsL l) 0 (cuts_ne l)).2
  have hx : x ∈ placesL l := by rw [← ht]; simp
  rcases scan_from _ _ _ e with h1 | ⟨y, hy, h1⟩
  · cases h1
  · have h2 : (placesL l).Pairwise (fun x y => x.1 < y.1) := hr
    rw [← ht, List.append_assoc] at h2
    have := (List.pairwise_append.1 h2).2.2 y hy x (by simp)
    exact ⟨by omega, places_lt hx⟩
theorem scan_lies {b h : Nat → Bool} {l : List UInt8} {a : Nat} (e : ((placesL l).foldl (scanS b h) ([], none)).2 = some a) : a < l.length := by
  rcases scan_from _ _ _ e with h1 | ⟨y, hy, h1⟩
  · cases h1
  · have := places_lt hy; omega
theorem cuts_drop : ∀ (l : List UInt8) (i : Nat), i ≤ (cutsL l).length → cutsL (l.drop (atL l i)) = (cutsL l).drop i := by
  refine cuts_ind ?_ ?_
  · intro i h; rw [cuts_nil] at h; rw [show i = 0 by simpa using h]; rfl
  · intro l hne ih i h
    cases i with
    | zero => unfold atL; rw [List.drop_zero]; simp [atC]
    | succ i =>
      have hp := next_pos hne
      rw [cuts_step hne, List.length_cons] at h
      have e : atL l (i + 1) = (nextL l).2 + atL (l.drop (nextL l).2) i := by
        unfold atL; rw [cuts_step hne, atC]; simp only [List.length_take]; omega
      rw [e, ← List.drop_drop, ih i (by omega), cuts_step hne, List.drop_succ_cons]
/-- the place n runes behind another -/
theorem at_next {l : List UInt8} {i : Nat} (h : i < (cutsL l).length) : ∃ r p, (cutsL l)[i]? = some (r, p) ∧ atL l (i + 1) = atL l i + p.length ∧ nextL (l.drop (atL l i)) = (r, p.length) ∧ p ≠ [] := by
  obtain ⟨⟨r, p⟩, hc⟩ : ∃ q, (cutsL l)[i] = q := ⟨_, rfl⟩
  refine ⟨r, p, by rw [List.getElem?_eq_getElem h, hc], ?_, ?_, ?_⟩
  · unfold atL
    rw [atC_add (i := i) (j := 1) (by omega), List.drop_eq_getElem_cons h, hc]
    simp [atC]
  · have : cutsL (l.drop (atL l i)) = (cutsL l).drop i := cuts_drop l i (by omega)
    have hne : l.drop (atL l i) ≠ [] := by
      intro e; rw [e, cuts_nil] at this
      have := congrArg List.length this; rw [List.length_drop] at this; simp at this; omega
    rw [cuts_step hne, List.drop_eq_getElem_cons h, hc] at this
    injection this with h1 _
    have hp := next_pos hne
    have h3 : (nextL (l.drop (atL l i))).1 = r := congrArg (fun q => q.1) h1
    refine Prod.ext h3 ?_
    have h2 := congrArg (fun q => q.2.length) h1
    simp only [List.length_take] at h2
    omega
  · exact cuts_ne l (r, p) (by rw [← hc]; exact List.getElem_mem h)
end Ana
end Go.Proofs.YtljjaepadnmmeaaDoor
