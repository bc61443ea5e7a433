/- Plain: a directory as a sorted list of names with the numbers of their files; how it stands to the datum that a map reads as. -/
import Derived.Test.YtjiklpoggpdngaaRows
import Derived.WalkKit
import Derived.Maps.Ext
import Derived.Maps.OwnSet
import Derived.Sort.KeysCollected
namespace Go.Proofs.Ytjiklpoggpdngaa
open Go.RowKit Go.Maps Go.ChangeMaps

abbrev Nm := List UInt8
/-- names with their files' block numbers -/
abbrev AM := List (Nm × Nat)

def ptD (f : Nat) : DataW Unit := .lit (.int .i64 (f : Int))
def ent (p : Nm × Nat) : Lit × DataW Unit := (.string p.1, ptD p.2)
def toD (l : AM) : DataW Unit := .map (l.map ent)
def aget (l : AM) (n : Nm) : Option Nat := (l.find? (fun p => p.1 == n)).map (·.2)
def ains (x : Nm × Nat) : AM → AM
  | [] => [x]
  | y :: r => if bytesBefore x.1 y.1 then x :: y :: r else y :: ains x r
def aput (l : AM) (n : Nm) (f : Nat) : AM := ains (n, f) (l.filter fun p => !(p.1 == n))
def adel (l : AM) (n : Nm) : AM := l.filter fun p => !(p.1 == n)

/-- how a map's element, a pointer to a file, reads -/
def RP : Value → Option (DataW Unit × List MemPlace)
  | .pointer (some ⟨b, 0, none⟩) => some (ptD b, [])
  | .pointer none => some (.nil, [])
  | _ => none

theorem RP_mk (f : Nat) : RP (.pointer (some ⟨f, 0, none⟩)) = some (ptD f, []) := rfl
theorem RP_nil : RP (.pointer none) = some (.nil, []) := rfl
theorem ptD_inj {a b : Nat} (h : ptD a = ptD b) : a = b := by
  unfold ptD at h
  injection h with h; injection h with _ h
  exact_mod_cast h
theorem RP_pt {v : Value} {f : Nat} {ps : List MemPlace} (h : RP v = some (ptD f, ps)) : v = .pointer (some ⟨f, 0, none⟩) := by
  unfold RP at h
  split at h
  · simp only [Option.some.injEq, Prod.mk.injEq] at h
    rw [ptD_inj h.1]
  · simp [ptD] at h
  · cases h
theorem RP_nl {v : Value} {ps : List MemPlace} (h : RP v = some (.nil, ps)) : v = .pointer none := by
  unfold RP at h
  split at h
  · simp [ptD] at h
  · rfl
  · cases h

theorem ent_same (p : Nm × Nat) (n : Nm) : (ent p).1.sameKey (.string n) = (p.1 == n) := rfl

theorem map_ains (x : Nm × Nat) : ∀ l : AM, (ains x l).map ent = DataW.insert (ent x) (l.map ent)
  | [] => rfl
  | y :: r => by
    show (if bytesBefore x.1 y.1 then x :: y :: r else y :: ains x r).map ent = (if (ent x).1.before (ent y).1 then ent x :: ent y :: r.map ent else ent y :: DataW.insert (ent x) (r.map ent))
    have e : (ent x).1.before (ent y).1 = bytesBefore x.1 y.1 := rfl
    rw [e]
    split
    · rfl
    · rw [List.map_cons, map_ains x r]

theorem toD_put (l : AM) (n : Nm) (f : Nat) : (toD l).put (.string n) (ptD f) = toD (aput l n f) := by
  unfold toD aput DataW.put
  rw [map_ains]
  simp only
  rw [List.filter_map]
  rfl
theorem toD_del (l : AM) (n : Nm) : (toD l).del (.string n) = toD (adel l n) := by
  unfold toD adel DataW.del
  simp only
  rw [List.filter_map]
  rfl
theorem toD_get (l : AM) (n : Nm) (z : DataW Unit) : (toD l).atKey (.string n) z = (match aget l n with | some f => ptD f | none => z) := by
  unfold toD aget DataW.atKey
  simp only [List.find?_map]
  have e : ((fun p : Lit × DataW Unit => p.1.sameKey (.string n)) ∘ ent) = (fun p : Nm × Nat => p.1 == n) := rfl
  rw [e]
  cases l.find? (fun p => p.1 == n) <;> rfl
theorem size_toD (l : AM) : Maps.size (toD l) = l.length := by simp [toD, Maps.size_eq]
theorem isMap_toD (l : AM) : IsMap (toD l) := ⟨_, rfl⟩

theorem aget_put (l : AM) (n : Nm) (f : Nat) (m : Nm) : aget (aput l n f) m = if m = n then some f else aget l m := by
  have h := toD_get (aput l n f) m .nil
  rw [← toD_put] at h
  split
  · rename_i e
    subst e
    rw [atKey_put_same (k := .string m) (isMap_toD l) (by unfold WideAt.IsKeyLit; trivial)] at h
    revert h
    cases aget (aput l m f) m
    · intro h; simp [ptD] at h
    · intro h; rw [ptD_inj h]
  · rename_i e
    rw [atKey_put_other (by simpa using e), toD_get] at h
    revert h
    cases aget (aput l n f) m <;> cases aget l m <;> intro h
    · rfl
    · simp [ptD] at h
    · simp [ptD] at h
    · rw [ptD_inj h]
theorem aget_del (l : AM) (n m : Nm) : aget (adel l n) m = if m = n then none else aget l m := by
  have h := toD_get (adel l n) m .nil
  rw [← toD_del] at h
  split
  · rename_i e
    subst e
    rw [atKey_del_same] at h
    revert h
    cases aget (adel l m) m
    · intro _; rfl
    · intro h; simp [ptD] at h
  · rename_i e
    rw [atKey_del_other (by simpa using e), toD_get] at h
    revert h
    cases aget (adel l n) m <;> cases aget l m <;> intro h
    · rfl
    · simp [ptD] at h
    · simp [ptD] at h
    · rw [ptD_inj h]

/-- rising, without a name twice -/
def Asc (l : AM) : Prop := l.Pairwise fun p q => bytesBefore p.1 q.1 = true
theorem asc_of_canon {l : AM} (h : Canon (toD l)) : Asc l := by
  obtain ⟨es, he, hp, _⟩ := h
  unfold toD at he
  injection he with he
  rw [← he, List.pairwise_map] at hp
  exact hp

theorem len_del (l : AM) (n : Nm) : (adel l n).length ≤ l.length := List.length_filter_le _ _
theorem len_ains (x : Nm × Nat) : ∀ l : AM, (ains x l).length = l.length + 1
  | [] => rfl
  | y :: r => by
    unfold ains
    split
    · rfl
    · simp [len_ains x r]
theorem len_put (l : AM) (n : Nm) (f : Nat) : (aput l n f).length ≤ l.length + 1 := by
  unfold aput
  rw [len_ains]
  have := List.length_filter_le (fun p : Nm × Nat => !(p.1 == n)) l
  omega

/-- a bound on the map's entries: the datum's own size -/
theorem owns_tight {P : Program} {k : TypeId} {R : Value → Option (DataW Unit × List MemPlace)} {w : World} {b n : Nat} {D : DataW Unit} (h : w.ownsMap P k R b n D) : w.ownsMap P k R b (Maps.size D) D := by
  obtain ⟨es, clock, hb, F, hs, hD⟩ := h
  refine ⟨es, clock, hb, F, ?_, hD⟩
  rw [hD, Maps.size_eq, length_sorted]
  simp

/-- block b of w is the map l -/
def IsDir (P : Program) (w : World) (b : Nat) (l : AM) : Prop := w.ownsMap P 9 RP b l.length (toD l)
theorem isDir_of {P : Program} {w : World} {b n : Nat} {l : AM} (h : w.ownsMap P 9 RP b n (toD l)) : IsDir P w b l := by
  have := owns_tight h
  rw [size_toD] at this
  exact this

theorem aget_mem {l : AM} {n : Nm} {f : Nat} (h : aget l n = some f) : (n, f) ∈ l := by
  unfold aget at h
  simp only [Option.map_eq_some_iff] at h
  obtain ⟨p, hp, rfl⟩ := h
  have h1 := List.mem_of_find?_eq_some hp
  have h2 := List.find?_some hp
  simp at h2
  subst h2
  exact h1

theorem bb_irrefl (a : Nm) : bytesBefore a a = false := by
  induction a with
  | nil => rfl
  | cons x r ih => unfold bytesBefore; simp [ih]

theorem mem_aget {l : AM} (h : Asc l) {n : Nm} {f : Nat} (hm : (n, f) ∈ l) : aget l n = some f := by
  induction l with
  | nil => cases hm
  | cons p r ih =>
    unfold Asc at h
    rw [List.pairwise_cons] at h
    unfold aget
    rw [List.find?_cons]
    rcases List.mem_cons.1 hm with e | hr
    · rw [← e]; simp
    · have hb := h.1 _ hr
      have hne : (p.1 == n) = false := by
        rw [beq_eq_false_iff_ne]
        intro e
        rw [← e, bb_irrefl] at hb
        cases hb
      rw [hne]
      exact ih h.2 hr

/-- the changes that a crash may keep -/
inductive Ch where
  | put (n : Nm) (f : Nat)
  | ren (a b : Nm) (f : Nat)
  | del (n : Nm)

def apCh : Ch → AM → AM
  | .put n f, l => aput l n f
  | .ren a b f, l => aput (if aget l a = some f then adel l a else l) b f
  | .del n, l => adel l n

def filesOf : Ch → List Nat
  | .put _ f => [f]
  | .ren _ _ f => [f]
  | .del _ => []

theorem len_apCh (c : Ch) (l : AM) : (apCh c l).length ≤ l.length + 1 := by
  cases c with
  | put n f => exact len_put _ _ _
  | ren a b f =>
    unfold apCh
    refine Nat.le_trans (len_put _ _ _) ?_
    split
    · have := len_del l a; omega
    · omega
  | del n => exact Nat.le_trans (len_del _ _) (by omega)

theorem mem_ains {x p : Nm × Nat} : ∀ {l : AM}, p ∈ ains x l ↔ p = x ∨ p ∈ l
  | [] => by simp [ains]
  | y :: r => by
    unfold ains
    split
    · simp
    · simp only [List.mem_cons, mem_ains]
      constructor
      · rintro (h | h | h) <;> simp [h]
      · rintro (h | h | h) <;> simp [h]

/-- each file of what a change makes is the change's or was there -/
theorem mem_apCh {c : Ch} {l : AM} {p : Nm × Nat} (h : p ∈ apCh c l) : p.2 ∈ filesOf c ∨ p ∈ l := by
  cases c with
  | put n f =>
    unfold apCh aput at h
    rcases mem_ains.1 h with rfl | h
    · left; simp [filesOf]
    · right; exact (List.mem_filter.1 h).1
  | ren a b f =>
    unfold apCh aput at h
    rcases mem_ains.1 h with rfl | h
    · left; simp [filesOf]
    · right
      have h := (List.mem_filter.1 h).1
      split at h
      · exact (List.mem_filter.1 h).1
      · exact h
  | del n =>
    right
    exact (List.mem_filter.1 h).1

end Go.Proofs.Ytjiklpoggpdngaa
