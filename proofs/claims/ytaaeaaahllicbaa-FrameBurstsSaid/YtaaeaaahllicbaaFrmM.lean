/- Plain: sealed files and how they are read. -/
import Derived.Test.YtaaeaaahllicbaaCodM
import Derived.Test.YtaaeaaahllicbaaFrmC
namespace Go.Proofs.Ytaaeaaahllicbaa
namespace Crc
def headF (kind : UInt8) (ss : List (List UInt8)) : List UInt8 := [76, 84, 1, kind] ++ (form ss.length ++ ss.flatMap fun s => form s.length)
def bodyF (kind : UInt8) (ss : List (List UInt8)) : List UInt8 := headF kind ss ++ ss.flatten
def sealF (kind : UInt8) (ss : List (List UInt8)) : List UInt8 := bodyF kind ss ++ le4 (crcP (bodyF kind ss))
def sealP (kind : UInt8) (ss : List (List UInt8)) : Option (List UInt8) := if 1024 < ss.length ∨ 16777216 < (sealF kind ss).length then none else some (sealF kind ss)
theorem le4_len (v : Nat) : (le4 v).length = 4 := rfl
theorem sealF_len (kind : UInt8) (ss : List (List UInt8)) : (sealF kind ss).length = (headF kind ss).length + ss.flatten.length + 4 := by
  unfold sealF bodyF; rw [List.length_append, List.length_append, le4_len]
def sizesP : Nat → List UInt8 → Option (List Nat × List UInt8)
  | 0, l => some ([], l)
  | k + 1, l => match deco l with
    | none => none
    | some (u, c) => if u ≤ 16777216 then (sizesP k (l.drop c)).map fun q => (u :: q.1, q.2) else none
def cutP : List Nat → List UInt8 → Option (List (List UInt8) × List UInt8)
  | [], l => some ([], l)
  | n :: ns, l => if n ≤ l.length then (cutP ns (l.drop n)).map fun q => (l.take n :: q.1, q.2) else none
/-- what stands behind the kind, without the check -/
def restP (l : List UInt8) : Option (List (List UInt8)) := match deco l with
  | none => none
  | some (k, c) => if k ≤ 1024 then (sizesP k (l.drop c)).bind fun q => (cutP q.1 q.2).bind fun p => if p.2 = [] then some p.1 else none else none
def checkedP (kind : UInt8) (data : List UInt8) : Prop := 8 ≤ data.length ∧ data.take 4 = [76, 84, 1, kind] ∧ data.drop (data.length - 4) = le4 (crcP (data.take (data.length - 4)))
instance (kind : UInt8) (data : List UInt8) : Decidable (checkedP kind data) := by unfold checkedP; exact inferInstance
def openP (kind : UInt8) (data : List UInt8) : Option (List (List UInt8)) := if checkedP kind data then restP ((data.take (data.length - 4)).drop 4) else none

theorem sizes_of : ∀ (ss : List (List UInt8)) (t : List UInt8), (∀ s ∈ ss, s.length ≤ 16777216) → sizesP ss.length ((ss.flatMap fun s => form s.length) ++ t) = some (ss.map List.length, t)
  | [], t, _ => rfl
  | s :: r, t, h => by
    show sizesP (r.length + 1) ((form s.length ++ r.flatMap fun s => form s.length) ++ t) = _
    have h1 := h s List.mem_cons_self
    unfold sizesP
    rw [List.append_assoc, deco_form (by omega)]
    simp only [if_pos h1, List.drop_left]
    rw [sizes_of r t fun x hx => h x (List.mem_cons_of_mem _ hx)]; rfl
theorem cut_of : ∀ (ss : List (List UInt8)) (t : List UInt8), cutP (ss.map List.length) (ss.flatten ++ t) = some (ss, t)
  | [], t => rfl
  | s :: r, t => by
    show cutP (s.length :: r.map List.length) ((s ++ r.flatten) ++ t) = _
    unfold cutP
    rw [List.append_assoc, if_pos (by simp), List.drop_left, List.take_left, cut_of r t]; rfl
theorem sizes_some : ∀ (k : Nat) (l : List UInt8) (ns : List Nat) (t : List UInt8), sizesP k l = some (ns, t) → ns.length = k ∧ l = (ns.flatMap form) ++ t ∧ ∀ n ∈ ns, n ≤ 16777216
  | 0, l, ns, t, h => by cases h; exact ⟨rfl, rfl, fun _ h => by cases h⟩
  | k + 1, l, ns, t, h => by
    unfold sizesP at h
    cases hd : deco l with
    | none => rw [hd] at h; cases h
    | some p =>
      obtain ⟨u, c⟩ := p
      simp only [hd] at h
      by_cases hu : u ≤ 16777216
      · rw [if_pos hu] at h
        cases hs : sizesP k (l.drop c) with
        | none => rw [hs] at h; cases h
        | some q =>
          obtain ⟨q1, q2⟩ := q
          rw [hs] at h
          cases h
          obtain ⟨h1, h2, h3⟩ := sizes_some k _ _ _ hs
          obtain ⟨_, d2, _⟩ := deco_some hd
          refine ⟨by rw [List.length_cons, h1], ?_, ?_⟩
          · rw [List.flatMap_cons, List.append_assoc, ← h2, d2, List.take_append_drop]
          · intro n hn
            rcases List.mem_cons.1 hn with rfl | hn
            · exact hu
            · exact h3 n hn
      · rw [if_neg hu] at h; cases h
theorem cut_some : ∀ (ns : List Nat) (l : List UInt8) (ss : List (List UInt8)) (t : List UInt8), cutP ns l = some (ss, t) → ss.map List.length = ns ∧ l = ss.flatten ++ t
  | [], l, ss, t, h => by cases h; exact ⟨rfl, rfl⟩
  | n :: ns, l, ss, t, h => by
    unfold cutP at h
    by_cases hn : n ≤ l.length
    · rw [if_pos hn] at h
      cases hs : cutP ns (l.drop n) with
      | none => rw [hs] at h; cases h
      | some q =>
        obtain ⟨q1, q2⟩ := q
        rw [hs] at h
        cases h
        obtain ⟨h1, h2⟩ := cut_some ns _ _ _ hs
        refine ⟨?_, ?_⟩
        · rw [List.map_cons, h1, List.length_take, Nat.min_eq_left hn]
        · rw [List.flatten_cons, List.append_assoc, ← h2, List.take_append_drop]
    · rw [if_neg hn] at h; cases h
theorem rest_of (ss : List (List UInt8)) (h : ss.length ≤ 1024) (h2 : ∀ s ∈ ss, s.length ≤ 16777216) : restP ((form ss.length ++ ss.flatMap fun s => form s.length) ++ ss.flatten) = some ss := by
  unfold restP
  rw [List.append_assoc, deco_form (by omega)]
  simp only [if_pos h, List.drop_left]
  rw [sizes_of ss _ h2]
  have h3 := cut_of ss []
  rw [List.append_nil] at h3
  show (cutP (ss.map List.length) ss.flatten).bind _ = _
  rw [h3]; rfl
theorem rest_some {l : List UInt8} {ss : List (List UInt8)} (h : restP l = some ss) : ss.length ≤ 1024 ∧ l = (form ss.length ++ ss.flatMap fun s => form s.length) ++ ss.flatten := by
  unfold restP at h
  cases hd : deco l with
  | none => rw [hd] at h; cases h
  | some p =>
    obtain ⟨k, c⟩ := p
    simp only [hd] at h
    by_cases hk : k ≤ 1024
    · rw [if_pos hk] at h
      cases hs : sizesP k (l.drop c) with
      | none => rw [hs] at h; cases h
      | some q =>
        obtain ⟨ns, t⟩ := q
        rw [hs] at h
        simp only [Option.bind_some] at h
        cases hc : cutP ns t with
        | none => rw [hc] at h; cases h
        | some p =>
          obtain ⟨s2, t2⟩ := p
          rw [hc] at h
          simp only [Option.bind_some] at h
          by_cases ht : t2 = []
          · rw [if_pos ht] at h
            cases h
            obtain ⟨h1, h2, _⟩ := sizes_some _ _ _ _ hs
            obtain ⟨c1, c2⟩ := cut_some _ _ _ _ hc
            obtain ⟨_, d2, _⟩ := deco_some hd
            have e : ss.length = k := by rw [← h1, ← c1, List.length_map]
            refine ⟨by omega, ?_⟩
            rw [e, d2, List.append_assoc]
            have e2 : (ss.flatMap fun s => form s.length) = ns.flatMap form := by rw [← c1, List.flatMap_map]
            rw [e2]
            rw [ht, List.append_nil] at c2
            rw [← c2, ← h2, List.take_append_drop]
          · rw [if_neg ht] at h; cases h
    · rw [if_neg hk] at h; cases h
theorem seal_checked (kind : UInt8) (ss : List (List UInt8)) : checkedP kind (sealF kind ss) := by
  have h1 : (sealF kind ss).length - 4 = (bodyF kind ss).length := by unfold sealF; rw [List.length_append, le4_len]; omega
  have h4 : 4 ≤ (bodyF kind ss).length := by unfold bodyF headF; simp
  refine ⟨?_, rfl, ?_⟩
  · omega
  · rw [h1]; unfold sealF; rw [List.drop_left, List.take_left]
theorem open_seal {kind : UInt8} {ss : List (List UInt8)} {b : List UInt8} (h : sealP kind ss = some b) : openP kind b = some ss := by
  unfold sealP at h
  split at h
  · cases h
  · cases h
    rename_i hn
    unfold openP
    rw [if_pos (seal_checked kind ss)]
    have h1 : (sealF kind ss).length - 4 = (bodyF kind ss).length := by unfold sealF; rw [List.length_append, le4_len]; omega
    have h2 : (sealF kind ss).take (bodyF kind ss).length = bodyF kind ss := by unfold sealF; rw [List.take_left]
    rw [h1, h2]
    show restP ((form ss.length ++ ss.flatMap fun s => form s.length) ++ ss.flatten) = _
    refine rest_of ss (by omega) fun s hs => ?_
    have := sealF_len kind ss
    have h3 : s.length ≤ ss.flatten.length := by
      obtain ⟨a, b, rfl⟩ := List.append_of_mem hs
      simp; omega
    omega
theorem open_some {kind : UInt8} {ss : List (List UInt8)} {b : List UInt8} (h : openP kind b = some ss) (hb : b.length ≤ 16777216) : sealF kind ss = b ∧ sealP kind ss = some b := by
  unfold openP at h
  split at h
  · rename_i hc
    obtain ⟨c1, c2, c3⟩ := hc
    obtain ⟨r1, r2⟩ := rest_some h
    have e : bodyF kind ss = b.take (b.length - 4) := by
      show [76, 84, 1, kind] ++ _ ++ _ = _
      rw [List.append_assoc, ← r2, ← c2]
      have := List.take_append_drop 4 (b.take (b.length - 4))
      rw [List.take_take, Nat.min_eq_left (by omega)] at this
      exact this
    have e2 : sealF kind ss = b := by unfold sealF; rw [e, ← c3, List.take_append_drop]
    refine ⟨e2, ?_⟩
    unfold sealP
    rw [e2, if_neg (by omega)]
  · cases h
/-- a sealed file leaves one state, of whatever kind -/
theorem checked_resid {kind : UInt8} {b : List UInt8} (h : checkedP kind b) : run 4294967295 (bitsL b) = resid := by
  have h1 := run_sealed (b.take (b.length - 4))
  rw [← h.2.2, List.take_append_drop] at h1
  exact h1
end Crc
end Go.Proofs.Ytaaeaaahllicbaa
