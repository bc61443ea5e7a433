/- Crash, in parts: what its loop does to the new directory. -/
import Derived.Test.YtjiklpoggpdngaaVfsS
namespace Go.Proofs.Ytjiklpoggpdngaa
open Go.RowKit Go.Maps Go.Sort

open Classical in
noncomputable def roleCut (role : Nat → Role) (nf : Nat) (v : Value) (b : Nat) : Role := if b = nf then .file else if v.ownBlock = some b then .row nf else role b

theorem Rep.cutput {w w3 w4 : World} {d : Nat} {g : Gh} {S : DS} (h : Rep w d g S) {nf n : Nat} {v : Value} {bs : List UInt8} {nm : Nm} (hnf : w.heap.size ≤ nf) (hbl : Below w.heap.size w w3)
    (blk : w3.heap[nf]? = some (.cells #[v, .int .i64 (n : Int)] 85 (0, 0))) (row : w3.ownsRow w.heap.size 5 1 v n (bs.map bV)) (hlen : bs.length = n) (hmax : n ≤ 16777216)
    (hdir : IsDir Try.prog w4 g.nb (aput S.now nm nf)) (hm : Moves (fun k => k = g.nb) w3 w4) (hroom : S.now.length + 1 ≤ S.bd) :
    Rep w4 d { g with role := roleCut g.role nf v, fv := upd g.fv nf v } { S with now := aput S.now nm nf, fs := upd S.fs nf (bs, n) } := by
  have hs3 := hbl.size
  have hs4 := hm.size
  have hvb : ∀ b, v.ownBlock = some b → w.heap.size ≤ b ∧ b ≠ nf ∧ b < w3.heap.size := by
    intro b hb
    obtain ⟨a, k, c, e1, e2⟩ := own_some hb
    refine ⟨by rw [← e2]; exact new_of_row row e1, ?_, by rw [← e2]; exact row_lt row e1⟩
    rintro rfl
    obtain ⟨_, h2 | ⟨g', cap', cur', hv', _, hh, _⟩⟩ := row
    · rw [h2.1] at e1; cases e1
    · rw [hv'] at e1; cases e1
      simp only at e2
      rw [e2, blk] at hh
      injection hh with hh; injection hh with _ h9 _
      revert h9; decide
  have hnbl := h.lt g.nb (by rw [h.rn]; simp)
  have ro : ∀ b, g.role b ≠ .no → roleCut g.role nf v b = g.role b := by
    intro b hb
    have h1 := h.lt b hb
    unfold roleCut
    rw [if_neg (by omega), if_neg (fun e => by have := (hvb b e).1; omega)]
  have rl : ∀ {x : Nat} {q : Role}, g.role x = q → q ≠ .no → roleCut g.role nf v x = q := fun {x q} e n => by rw [ro x (by rw [e]; exact n)]; exact e
  have keep : ∀ b, b ≠ g.nb → b < w.heap.size → w4.heap[b]? = w.heap[b]? := by
    intro b h1 h2
    rw [hm.block b (by omega) h1, hbl.block b h2]
  have kp : ∀ {b : Nat} {r : Role}, g.role b = r → r ≠ .no → r ≠ .map → w4.heap[b]? = w.heap[b]? := by
    intro b r e n1 n2
    exact keep b (by rintro rfl; rw [h.rn] at e; exact n2 e.symm) (h.lt b (by rw [e]; exact n1))
  have hnfl : nf < w3.heap.size := lt_of_heap blk
  have fileNew : FileRep w4 { g with role := roleCut g.role nf v, fv := upd g.fv nf v } { S with now := aput S.now nm nf, fs := upd S.fs nf (bs, n) } nf := by
    refine ⟨?_, ?_, ?_, ?_, ?_⟩
    · simp only [upd_same]; rw [hm.block nf hnfl (by omega)]; exact blk
    · simp only [upd_same]
      rw [hlen]
      exact row_base (row_keep row fun a k c e => hm.block _ (row_lt row e) (by have := new_of_row row e; omega)) (Nat.zero_le _)
    · intro a k c e
      simp only [upd_same] at e
      show roleCut g.role nf v a.block = .row nf
      have hb : v.ownBlock = some a.block := by rw [e]; rfl
      unfold roleCut
      rw [if_neg (hvb _ hb).2.1, if_pos hb]
    · simp only [upd_same]; omega
    · simp only [upd_same]; omega
  refine h.turn (by omega) ro (fun b e => kp e (by simp) (by simp)) (fun f e => ⟨kp e (by simp) (by simp), fun b e => kp e (by simp) (by simp), upd_other _ _ (by rintro rfl; have := h.lt f (by rw [e]; simp); omega), upd_other _ _ (by rintro rfl; have := h.lt f (by rw [e]; simp); omega)⟩) ?_ ?_ hdir
    (isdir_keep h.dur (keep g.db (fun e => h.nd e.symm) (h.lt g.db (by rw [h.rb]; simp)))) (rl h.rn (by simp)) (rl h.rb (by simp)) h.nd (row_keep h.chs fun a n c e => kp (h.rc a n c e) (by simp) (by simp)) (fun a n c e => rl (h.rc a n c e) (by simp))
    ⟨h.cl.1, fun i h1 h2 => (h.cl.2 i h1 h2).keep fun x e => ⟨kp e (by simp) (by simp), rl e (by simp)⟩⟩ ?_ (fun p hp => rl (h.fdur p hp) (by simp)) (fun c hc x hx => rl (h.fchg c hc x hx) (by simp)) (Nat.le_trans (len_put _ _ _) hroom) h.bdur h.bleft h.bfl h.bfp
  · intro b e1 e2
    by_cases hb : b = nf
    · subst hb; exact ⟨by omega, fun _ => fileNew⟩
    · have hb2 : v.ownBlock = some b := by
        apply Classical.byContradiction
        intro e
        apply e2
        show roleCut g.role nf v b = .no
        unfold roleCut
        rw [if_neg hb, if_neg e]; exact e1
      refine ⟨by have := (hvb b hb2).2.2; omega, fun e => ?_⟩
      have : roleCut g.role nf v b = .row nf := by unfold roleCut; rw [if_neg hb, if_pos hb2]
      have e' : roleCut g.role nf v b = .file := e
      rw [this] at e'; cases e'
  · rw [kp h.rd (by simp) (by simp)]; exact h.dir
  · intro p hp
    unfold aput at hp
    rcases mem_ains.1 hp with rfl | hp
    · show roleCut g.role nf v nf = .file
      unfold roleCut; rw [if_pos rfl]
    · exact rl (h.fnow p (List.mem_filter.1 hp).1) (by simp)

theorem roleCut_new {w : World} {role : Nat → Role} {nf n : Nat} {v : Value} {xs : List Value} {w3 : World} (hnf : w.heap.size ≤ nf) (row : w3.ownsRow w.heap.size 5 1 v n xs) (b : Nat) (hb : roleCut role nf v b ≠ .no) : role b ≠ .no ∨ w.heap.size ≤ b := by
  unfold roleCut at hb
  split at hb
  · rename_i e; right; omega
  · split at hb
    · rename_i e
      obtain ⟨a, k, c, e1, e2⟩ := own_some e
      right; rw [← e2]; exact new_of_row row e1
    · exact .inl hb

/-- names that rise go to the end -/
theorem ains_last {x : Nm × Nat} : ∀ {l : AM}, (∀ p ∈ l, bytesBefore p.1 x.1 = true) → ains x l = l ++ [x]
  | [], _ => rfl
  | y :: r, h => by
    unfold ains
    have h1 := h y (List.mem_cons_self ..)
    have h2 : bytesBefore x.1 y.1 = false := by
      cases e : bytesBefore x.1 y.1 with
      | false => rfl
      | true =>
        have := WideShapes.bytes_trans _ _ _ h1 e
        rw [bb_irrefl] at this; cases this
    rw [h2]
    simp [ains_last (l := r) (fun p hp => h p (List.mem_cons_of_mem _ hp))]

theorem aput_last {l : AM} {n : Nm} {f : Nat} (h : ∀ p ∈ l, bytesBefore p.1 n = true) : aput l n f = l ++ [(n, f)] := by
  unfold aput
  have e : l.filter (fun p => !(p.1 == n)) = l := by
    rw [List.filter_eq_self]
    intro p hp
    have := h p hp
    simp only [Bool.not_eq_true', beq_eq_false_iff_ne, ne_eq]
    intro e
    rw [e, bb_irrefl] at this; cases this
  rw [e]
  exact ains_last h

/-- keys that are read have strings' length -/
theorem isdir_names {w : World} {b : Nat} {l : AM} (h : IsDir Try.prog w b l) : ∀ p ∈ l, p.1.length ≤ maxLen := by
  obtain ⟨es, clock, hb, F, hs, hD⟩ := h
  intro p hp
  unfold toD at hD
  injection hD with hD
  have hm : ent p ∈ (es.toList.map (WideElems.rg Try.prog 9 RP)).foldr DataW.insert [] := by rw [← hD]; exact List.mem_map_of_mem hp
  have hm2 : ent p ∈ es.toList.map (WideElems.rg Try.prog 9 RP) := (WideShapes.sorted_perm _).mem_iff.1 hm
  obtain ⟨x, hx, hxe⟩ := List.mem_map.1 hm2
  obtain ⟨y, hy⟩ := F.reads x hx
  rw [WideElems.rg_of hy] at hxe
  subst hxe
  unfold WideElems.rd at hy
  simp only [Option.bind_eq_some_iff, Option.map_eq_some_iff] at hy
  obtain ⟨key, hk, z, h2, he⟩ := hy
  obtain ⟨s, _, hl, hsz⟩ := WideMaps.string_of_keyOf Try.underlying9 hk
  have h3 : (ent p).1 = key := by rw [← he]
  rw [hl] at h3
  unfold ent at h3
  injection h3 with h3
  rw [h3]; simpa using hsz

def crashLeft (S : DS) (cs : List Int) : AM := keptF S.chg cs S.dur
def cutOf (S : DS) (cs : List Int) (i : Nat) (p : Nm × Nat) : List UInt8 × Nat :=
  ((S.fs p.2).1.take (cutN (S.fs p.2).1.length (S.fs p.2).2 ((cs.drop (S.chg.length + i)).headD 0)), cutN (S.fs p.2).1.length (S.fs p.2).2 ((cs.drop (S.chg.length + i)).headD 0))

/-- the first k names of what is left stand in S' -/
structure CutUpto (S : DS) (cs : List Int) (k : Nat) (S' : DS) : Prop where
  calls : S'.calls = 0
  bd : S'.bd = S.bd
  asked : S'.asked = false
  left : S'.left = 0
  fl : S'.fl = 0
  chg : S'.chg = []
  names : S'.now.map (·.1) = ((crashLeft S cs).take k).map (·.1)
  files : ∀ i (h : i < S'.now.length) (h' : i < (crashLeft S cs).length), S'.fs S'.now[i].2 = cutOf S cs i (crashLeft S cs)[i]

theorem CutUpto.len {S S' : DS} {cs : List Int} {k : Nat} (h : CutUpto S cs k S') (hk : k ≤ (crashLeft S cs).length) : S'.now.length = k := by
  have := congrArg List.length h.names
  simp at this; omega

theorem CutUpto.next {S S' : DS} {cs : List Int} {k nf : Nat} (h : CutUpto S cs k S') (hk : k < (crashLeft S cs).length) (hasc : Asc (crashLeft S cs)) (hnf : ∀ p ∈ S'.now, p.2 ≠ nf) :
    CutUpto S cs (k + 1) { S' with now := aput S'.now (crashLeft S cs)[k].1 nf, fs := upd S'.fs nf (cutOf S cs k (crashLeft S cs)[k]) } := by
  have hl := h.len (Nat.le_of_lt hk)
  have hap : aput S'.now (crashLeft S cs)[k].1 nf = S'.now ++ [((crashLeft S cs)[k].1, nf)] := by
    refine aput_last fun p hp => ?_
    obtain ⟨i, hi, rfl⟩ := List.getElem_of_mem hp
    have hi2 : i < (crashLeft S cs).length := by omega
    have hn : S'.now[i].1 = (crashLeft S cs)[i].1 := by
      have h1 : (S'.now.map (·.1))[i]? = (((crashLeft S cs).take k).map (·.1))[i]? := by rw [h.names]
      rw [List.getElem?_map, List.getElem?_map, List.getElem?_take, if_pos (by omega), List.getElem?_eq_getElem hi, List.getElem?_eq_getElem hi2] at h1
      simpa using h1
    rw [hn]
    unfold Asc at hasc
    rw [List.pairwise_iff_getElem] at hasc
    exact hasc i k hi2 hk (by omega)
  refine ⟨h.calls, h.bd, h.asked, h.left, h.fl, h.chg, ?_, ?_⟩
  · show (aput _ _ _).map _ = _
    rw [hap, List.map_append, h.names, List.take_succ_eq_append_getElem hk, List.map_append]
    rfl
  · intro i hi hi'
    have hi3 : i < (S'.now ++ [((crashLeft S cs)[k].1, nf)]).length := by rw [← hap]; exact hi
    have e : ({ S' with now := aput S'.now (crashLeft S cs)[k].1 nf, fs := upd S'.fs nf (cutOf S cs k (crashLeft S cs)[k]) } : DS).now[i] = (S'.now ++ [((crashLeft S cs)[k].1, nf)])[i] := by
      simp only [hap]
    rw [e]
    show upd S'.fs nf _ _ = _
    by_cases h1 : i < S'.now.length
    · rw [List.getElem_append_left h1, upd_other _ _ (hnf _ (List.getElem_mem h1))]
      exact h.files i h1 hi'
    · have h2 : i = k := by rw [List.length_append] at hi3; simp at hi3; omega
      subst h2
      rw [List.getElem_append_right (by omega)]
      simp only [hl, Nat.sub_self, List.getElem_cons_zero, upd_same]

end Go.Proofs.Ytjiklpoggpdngaa
