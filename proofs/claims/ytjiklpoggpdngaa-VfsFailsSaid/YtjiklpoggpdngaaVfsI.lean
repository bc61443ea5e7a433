/- The library's calls on maps: Clone, Copy, Sorted of Keys, in the words of directories. -/
import Derived.Test.YtjiklpoggpdngaaVfsH
import Derived.Test.YtjiklpoggpdngaaShelf
namespace Go.Proofs.Ytjiklpoggpdngaa
open Go.RowKit Go.Maps Go.Sort Go.Shelf

theorem canon_of_asc {l : AM} (h : Asc l) : Canon (toD l) := by
  refine ⟨l.map ent, rfl, ?_, ?_⟩
  · rw [List.pairwise_map]; exact h
  · intro p hp
    obtain ⟨q, _, rfl⟩ := List.mem_map.1 hp
    unfold ent WideAt.IsKeyLit; trivial

theorem ent_inj : ∀ {a b : List (Nm × Nat)}, a.map ent = b.map ent → a = b
  | [], [], _ => rfl
  | [], _ :: _, h => by cases h
  | _ :: _, [], h => by cases h
  | x :: r, y :: s, h => by
    simp only [List.map_cons, List.cons.injEq] at h
    rw [ent_inj h.2]
    congr 1
    have h1 := h.1
    unfold ent at h1
    rw [Prod.mk.injEq] at h1
    have h2 := ptD_inj h1.2
    have h3 : x.1 = y.1 := by have := h1.1; injection this
    exact Prod.ext h3 h2
theorem toD_inj {a b : AM} (h : toD a = toD b) : a = b := by
  unfold toD at h
  injection h with h
  exact ent_inj h

theorem has_toD (l : AM) (n : Nm) : has (toD l) (.string n) = (aget l n).isSome := by
  unfold toD aget
  rw [has_eq, List.any_map]
  have e : ((fun p : Lit × DataW Unit => p.1.sameKey (.string n)) ∘ ent) = (fun p : Nm × Nat => p.1 == n) := rfl
  rw [e, Option.isSome_map, Bool.eq_iff_iff, List.find?_isSome, List.any_eq_true]
theorem has_other (l : AM) {k : Lit} (hk : ∀ n, k ≠ .string n) : has (toD l) k = false := by
  unfold toD
  rw [has_eq, List.any_map, List.any_eq_false]
  intro p _
  cases k <;> simp [ent, Lit.sameKey]
  rename_i s
  exact absurd rfl (hk s)

theorem asc_ext {a b : AM} (ha : Asc a) (hb : Asc b) (h : ∀ n, aget a n = aget b n) : a = b := by
  refine toD_inj (Maps.ext (canon_of_asc ha) (canon_of_asc hb) ?_ ?_)
  · intro k
    by_cases hk : ∃ n, k = .string n
    · obtain ⟨n, rfl⟩ := hk
      rw [has_toD, has_toD, h]
    · rw [has_other a (fun n e => hk ⟨n, e⟩), has_other b (fun n e => hk ⟨n, e⟩)]
  · intro k z hh
    by_cases hk : ∃ n, k = .string n
    · obtain ⟨n, rfl⟩ := hk
      rw [toD_get, toD_get, h]
    · rw [has_other a (fun n e => hk ⟨n, e⟩)] at hh; cases hh

theorem aget_cons (p : Nm × Nat) (r : AM) (n : Nm) : aget (p :: r) n = if p.1 = n then some p.2 else aget r n := by
  unfold aget
  rw [List.find?_cons]
  by_cases e : p.1 = n
  · rw [if_pos e, show (p.1 == n) = true by simpa using e]; rfl
  · rw [if_neg e, show (p.1 == n) = false by simpa using e]

theorem aget_fold : ∀ (l acc : AM), Asc l → ∀ n, aget (l.foldl (fun a p => aput a p.1 p.2) acc) n = (match aget l n with | some f => some f | none => aget acc n)
  | [], acc, _, n => rfl
  | p :: r, acc, h, n => by
    have h' := h
    unfold Asc at h'
    rw [List.pairwise_cons] at h'
    rw [List.foldl_cons, aget_fold r _ h'.2 n, aget_cons, aget_put]
    by_cases e : p.1 = n
    · rw [if_pos e, if_pos e.symm]
      have : aget r n = none := by
        cases hr : aget r n with
        | none => rfl
        | some f =>
          have h2 := h'.1 _ (aget_mem hr)
          rw [e] at h2
          rw [bb_irrefl] at h2; cases h2
      rw [this]
    · rw [if_neg e, if_neg (fun h => e h.symm)]

theorem merge_toD : ∀ (l acc : AM), Lib.mergeD (toD acc) (toD l) = toD (l.foldl (fun a p => aput a p.1 p.2) acc) := by
  intro l acc
  show (l.map ent).foldl (fun D p => D.put p.1 p.2) (toD acc) = _
  induction l generalizing acc with
  | nil => rfl
  | cons p r ih =>
    rw [List.map_cons, List.foldl_cons, List.foldl_cons, ← ih]
    show _ = (r.map ent).foldl _ (toD (aput acc p.1 p.2))
    rw [← toD_put]
    rfl

theorem isdir_asc {w : World} {b : Nat} {l : AM} (h : IsDir Try.prog w b l) : Asc l := asc_of_canon (World.ownsMap.canon h law9)

theorem clone_any {w : World} {b : Nat} {l : AM} (h : IsDir Try.prog w b l) :
    Calls Try.prog 53 #[.map (some b)] w fun e w' => e = .returned (.map (some w.heap.size)) ∧ IsDir Try.prog w' w.heap.size l ∧ Below w.heap.size w w' :=
  (AnyW.maps_Clone_owns Try.clone53 9 RP b _ _ w h).mono fun e w' ⟨h1, h2, _, h4⟩ => ⟨h1, h2, h4⟩

theorem copy_any {w : World} {bd bs : Nat} {l : AM} (hd : IsDir Try.prog w bd []) (hs : IsDir Try.prog w bs l) (hne : bd ≠ bs) (hl : l.length ≤ maxLen) :
    Calls Try.prog 76 #[.map (some bd), .map (some bs)] w fun e w' => e = .returned (.tuple #[]) ∧ IsDir Try.prog w' bd l ∧ Moves (fun k => k = bd) w w' := by
  refine (AnyX.maps_Copy Try.copy76 law9 RP bd bs 0 _ _ _ w hd hs hne (by rw [size_toD]; omega)).mono fun e w' ⟨h1, h2, _, h4⟩ => ⟨h1, ?_, moves_grown h4⟩
  rw [show (toD [] : DataW Unit) = toD ([] : AM) from rfl, merge_toD] at h2
  have hasc := isdir_asc (isDir_of h2)
  have he : l.foldl (fun a p => aput a p.1 p.2) [] = l := asc_ext hasc (isdir_asc hs) (fun n => by
    rw [aget_fold l [] (isdir_asc hs) n]
    cases aget l n <;> rfl)
  rw [he] at h2
  exact isDir_of h2

/-! names, rising -/
theorem bb_lt : ∀ (a b : Nm), bytesBefore a b = true ↔ a < b
  | [], [] => by simp [bytesBefore]
  | [], _ :: _ => by simp [bytesBefore]
  | _ :: _, [] => by simp [bytesBefore]
  | x :: r, y :: s => by
    have ih := bb_lt r s
    rw [List.cons_lt_cons_iff, ← ih]
    simp [bytesBefore]

theorem sorted_names {l : AM} (h : Asc l) {ss : List Nm} (hp : ss.Perm (l.map (·.1))) : ss.mergeSort (fun x y => decide (x ≤ y)) = l.map (·.1) := by
  have h1 : (l.map (·.1)).Pairwise (fun x y : Nm => decide (x ≤ y) = true) := by
    rw [List.pairwise_map]
    refine List.Pairwise.imp ?_ h
    intro a b hab
    rw [decide_eq_true_eq]
    exact List.le_of_lt ((bb_lt _ _).1 hab)
  have h2 : (ss.mergeSort (fun x y => decide (x ≤ y))).Pairwise (fun x y : Nm => decide (x ≤ y) = true) :=
    List.pairwise_mergeSort (fun a b c hab hbc => by simp only [decide_eq_true_eq] at *; exact List.le_trans hab hbc) (fun a b => by simp only [Bool.or_eq_true, decide_eq_true_eq]; exact List.le_total a b) ss
  have h3 : (ss.mergeSort (fun x y => decide (x ≤ y))).Perm (l.map (·.1)) := (List.mergeSort_perm ss _).trans hp
  exact h3.eq_of_pairwise (fun a b _ _ hab hba => by simp only [decide_eq_true_eq] at *; exact List.le_antisymm hab hba) h2 h1

theorem strKeys_toD (l : AM) : strKeys (toD l) = l.map (·.1) := by
  show (l.map ent).map (fun p => strOf p.1) = _
  rw [List.map_map]
  rfl

theorem keys_any (mb : Option Nat) (W : World) : Calls Try.prog 51 #[.map mb] W fun e w' => e = .returned (.func (.func 79) #[] #[.pointer (some ⟨W.heap.size, 0, none⟩)]) ∧ w' = W.alloc (.cells #[.map mb] 68) :=
  (callsIn_wide (n := 5)).1 (AnyZ.keys_in Try.keys51 Fence.wide 5 trivial rfl mb W)

theorem sorts_in (m : Nat) : AnyZ.SortsIn Try.prog Try.sorted50_ren Fence.wide m :=
  ⟨fun blk off cap ss W hH hblk hsz => callsIn_wide.2 (AnyM.slices_Sort_string Try.sort78 blk off cap ss W hH hblk hsz),
   fun p cap W => callsIn_wide.2 (AnyM.slices_Sort_string_none Try.sort78 p cap W)⟩

def SortPost (w : World) (l : AM) (e : Ending) (w' : World) : Prop :=
  ∃ v : Value, e = .returned v ∧ w'.ownsRow w.heap.size 9 1 v l.length ((l.map (·.1)).map encStr) ∧ Below w.heap.size w w'

set_option maxHeartbeats 1000000 in
theorem sorted_any {w : World} {b : Nat} {l : AM} (hown : IsDir Try.prog w b l) (hsmall : l.length ≤ 1000000) :
    Calls Try.prog 50 #[.func (.func 79) #[] #[.pointer (some ⟨w.heap.size, 0, none⟩)]] (w.alloc (.cells #[.map (some b)] 68)) (SortPost (w.alloc (.cells #[.map (some b)] 68)) l) := by
  have hbl := World.ownsMap.lt hown
  have hseq : SeqGives Fence.wide 2 Try.prog 79 #[.pointer (some ⟨w.heap.size, 0, none⟩)] encStr (fun ss => ss.Perm (strKeys (toD l))) (Maps.size (toD l)) (w.alloc (.cells #[.map (some b)] 68)) :=
    AnyZ.keys_gives (ρ := Try.keys51_ren) { Try.keys51 with } Fence.wide _ trivial rfl (by omega) w.heap.size b l.length (toD l) _ (by simp) (by simp) (by
      obtain ⟨es, clock, hb, Ft, hs, hD⟩ := hown
      exact ⟨es, clock, (Below.heap_alloc _ _ b hbl).trans hb, Ft, hs, hD⟩)
  have h := AnyZ.sorted_in Try.sorted50 Fence.wide 5 trivial trivial trivial trivial rfl (by omega) (sorts_in _) (enters_of Try.func78 (by kernel_rfl) rfl) 79 #[.pointer (some ⟨w.heap.size, 0, none⟩)] trivial (enters_of Try.func79 (by kernel_rfl) rfl) _ _ (by rw [size_toD]; unfold maxLen; omega) (by rw [size_toD]; omega) _ hseq
  refine ((callsIn_wide (n := 5)).1 h).mono ?_
  rintro e w' ⟨v, ss, he, hperm, hrow, _, hbelow⟩
  rw [strKeys_toD] at hperm
  have hl : ss.length = l.length := by rw [hperm.length_eq, List.length_map]
  rw [sorted_names (isdir_asc hown) hperm, hl] at hrow
  exact ⟨v, he, hrow, hbelow⟩

end Go.Proofs.Ytjiklpoggpdngaa
