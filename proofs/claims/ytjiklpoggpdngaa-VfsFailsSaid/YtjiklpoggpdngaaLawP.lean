/- Plain: what scripts of calls keep: calm, good names, one name a file; a step that is made to fail. -/
import Derived.Test.YtjiklpoggpdngaaLawS
namespace Go.Proofs.Ytjiklpoggpdngaa
open Go.RowKit Go.Maps

theorem stepR_cases {P : DS → Prop} {s : Stp} {S S' : DS} (h : stepR s S S') (h0 : ∀ f, FreshF S f → P (opCreate S s.name.data.toList f).2) (h1 : P (opAppend S s.name.data.toList s.bs).2) (h2 : P (opSync S s.name.data.toList).2) (h3 : P (opSyncDir S).2)
    (h4 : P (opRename S s.name.data.toList s.other.data.toList).2) (h5 : P (opDelete S s.name.data.toList).2) (h6 : P S) : P S' := by
  unfold stepR at h
  split at h
  · obtain ⟨f, hf, rfl⟩ := h; exact h0 f hf
  · split at h
    · subst h; exact h1
    · split at h
      · subst h; exact h2
      · split at h
        · subst h; exact h3
        · split at h
          · subst h; exact h4
          · split at h
            · subst h; exact h5
            · subst h; exact h6

theorem opPut_calm {S : DS} (h : Calm S) (n : Nm) (bs : List UInt8) (k : Nat) : Calm (opPut S n bs k).2 := by
  unfold opPut
  split
  · exact h
  · split <;> exact h
theorem stepR_calm {s : Stp} {S S' : DS} (hc : Calm S) (h : stepR s S S') : Calm S' := by
  have hb := calm_beg hc
  refine stepR_cases (P := Calm) h ?_ ?_ ?_ ?_ ?_ ?_ hc
  · intro f _
    unfold opCreate
    split
    · exact hb
    · split
      · exact hb
      · split <;> exact hb
  · unfold opAppend
    split
    · exact opPut_calm hb _ _ _
    · split
      · exact hb
      · exact opPut_calm hb _ _ _
  · unfold opSync
    split
    · exact hb
    · split <;> exact hb
  · unfold opSyncDir
    split <;> exact hb
  · unfold opRename
    split
    · exact hb
    · split
      · exact hb
      · split <;> exact hb
  · unfold opDelete
    split
    · exact hb
    · split <;> exact hb
theorem SureR.calm : ∀ {l : List Stp} {S S' : DS}, SureR l S S' → Calm S → Calm S'
  | [], _, _, h, hc => by rw [show _ = _ from h]; exact hc
  | _ :: _, _, _, ⟨_, h1, h2⟩, hc => SureR.calm h2 (stepR_calm hc h1)

/-! good names, one name a file -/
def goodCh : Ch → Prop
  | .put n _ => goodNm n = true
  | .ren _ b _ => goodNm b = true
  | .del _ => True
structure Good (S : DS) : Prop where
  now : ∀ p ∈ S.now, goodNm p.1 = true
  dur : ∀ p ∈ S.dur, goodNm p.1 = true
  chg : ∀ c ∈ S.chg, goodCh c
  inj : ∀ p ∈ S.now, ∀ q ∈ S.now, p.2 = q.2 → p = q

theorem good_apCh {c : Ch} {l : AM} (hc : goodCh c) (hl : ∀ p ∈ l, goodNm p.1 = true) : ∀ p ∈ apCh c l, goodNm p.1 = true := by
  intro p hp
  cases c with
  | put n f =>
    unfold apCh aput at hp
    rcases mem_ains.1 hp with rfl | h
    · exact hc
    · exact hl p (List.mem_filter.1 h).1
  | ren a b f =>
    unfold apCh aput at hp
    rcases mem_ains.1 hp with rfl | h
    · exact hc
    · have h := (List.mem_filter.1 h).1
      split at h
      · exact hl p (List.mem_filter.1 h).1
      · exact hl p h
  | del n => exact hl p (List.mem_filter.1 hp).1

theorem Good.beg {S : DS} (h : Good S) : Good (begS S) := ⟨h.now, h.dur, h.chg, h.inj⟩
theorem Good.put {S : DS} (h : Good S) (n : Nm) (bs : List UInt8) (k : Nat) : Good (opPut S n bs k).2 := by
  unfold opPut
  split
  · exact h
  · split
    · exact h
    · exact ⟨h.now, h.dur, h.chg, h.inj⟩
theorem Good.change {S : DS} (h : Good S) {c : Ch} (hc : goodCh c) (fs : Nat → List UInt8 × Nat) (hi : ∀ p ∈ apCh c S.now, ∀ q ∈ apCh c S.now, p.2 = q.2 → p = q) : Good { begS S with now := apCh c S.now, chg := S.chg ++ [c], fs := fs } := by
  refine ⟨good_apCh hc h.now, h.dur, ?_, hi⟩
  intro x hx
  rcases List.mem_append.1 hx with e | e
  · exact h.chg x e
  · rw [List.mem_singleton.1 e]; exact hc

theorem calm_good {S : DS} (hc : Calm S) {g : Bool} (h : ¬ (begR S g).1 ≠ 0) : g = true := by
  rw [begR_calm hc] at h
  cases g
  · exact absurd (by decide) h
  · rfl

theorem stepR_good {s : Stp} {S S' : DS} (hc : Calm S) (hg : Good S) (h : stepR s S S') : Good S' := by
  have hb := hg.beg
  refine stepR_cases (P := Good) h ?_ ?_ ?_ ?_ ?_ ?_ hg
  · intro f hf
    unfold opCreate
    split
    · exact hb
    · rename_i h1
      split
      · exact hb
      · split
        · exact hb
        · refine hg.change (c := .put s.name.data.toList f) (calm_good hc h1) _ ?_
          intro p hp q hq e
          unfold apCh aput at hp hq
          rcases mem_ains.1 hp with rfl | hp <;> rcases mem_ains.1 hq with rfl | hq
          · rfl
          · exact absurd e.symm (hf.1 q (List.mem_filter.1 hq).1)
          · exact absurd e (hf.1 p (List.mem_filter.1 hp).1)
          · exact hg.inj p (List.mem_filter.1 hp).1 q (List.mem_filter.1 hq).1 e
  · unfold opAppend
    split
    · exact hb.put _ _ _
    · split
      · exact hb
      · exact hb.put _ _ _
  · unfold opSync
    split
    · exact hb
    · split
      · exact hb
      · exact ⟨hg.now, hg.dur, hg.chg, hg.inj⟩
  · unfold opSyncDir
    split
    · exact hb
    · exact ⟨hg.now, hg.now, (fun c hc => by cases hc), hg.inj⟩
  · unfold opRename
    split
    · exact hb
    · rename_i h1
      split
      · exact hb
      · rename_i f hf
        split
        · exact hb
        · rename_i hne
          have hgd := calm_good hc h1
          rw [Bool.and_eq_true] at hgd
          refine hg.change (c := .ren s.name.data.toList s.other.data.toList f) hgd.2 _ ?_
          have hmem := aget_mem hf
          have key : ∀ p, p ∈ (if aget S.now s.name.data.toList = some f then adel S.now s.name.data.toList else S.now) → p ∈ S.now ∧ p.2 ≠ f := by
            intro p hp
            rw [if_pos hf] at hp
            have h2 := List.mem_filter.1 hp
            refine ⟨h2.1, fun e => ?_⟩
            have h3 := hg.inj p h2.1 _ hmem e
            subst h3
            simp at h2
          intro p hp q hq e
          unfold apCh aput at hp hq
          rcases mem_ains.1 hp with rfl | hp <;> rcases mem_ains.1 hq with rfl | hq
          · rfl
          · exact absurd e.symm (key q (List.mem_filter.1 hq).1).2
          · exact absurd e (key p (List.mem_filter.1 hp).1).2
          · exact hg.inj p (key p (List.mem_filter.1 hp).1).1 q (key q (List.mem_filter.1 hq).1).1 e
  · unfold opDelete
    split
    · exact hb
    · split
      · exact hb
      · refine hg.change (c := .del s.name.data.toList) trivial _ ?_
        intro p hp q hq e
        exact hg.inj p (List.mem_filter.1 hp).1 q (List.mem_filter.1 hq).1 e
theorem SureR.good : ∀ {l : List Stp} {S S' : DS}, SureR l S S' → Calm S → Good S → Good S'
  | [], _, _, h, _, hg => by rw [show _ = _ from h]; exact hg
  | _ :: _, _, _, ⟨_, h1, h2⟩, hc, hg => SureR.good h2 (stepR_calm hc h1) (stepR_good hc hg h1)
theorem good0 : Good DS0 := ⟨(fun p h => by cases h), (fun p h => by cases h), (fun p h => by cases h), (fun p h => by cases h)⟩
theorem calm0 : Calm DS0 := ⟨rfl, rfl⟩

/-! a step that is made to fail -/
theorem fail_begR {S : DS} (hc : Calm S) {e p : Int} (he : e ≠ 0) (g : Bool) : begR (opFail S 1 e p) g = (e, true) := by
  unfold begR
  rw [if_neg (by simp [opFail, hc.1]), if_pos ⟨rfl, he⟩]
  rfl

theorem fail_step {s : Stp} {S S2 : DS} {e p : Int} (hc : Calm S) (he : e ≠ 0) (hk : 0 ≤ s.kind ∧ s.kind ≤ 5) (h : stepR s (opFail S 1 e p) S2) :
    S2.now = S.now ∧ Calm S2 ∧ S2.calls = S.calls + 1 ∧ S2.bd = S.bd + 1 ∧ ∀ f, (S2.fs f).1 = (S.fs f).1 ∨ (s.kind = 1 ∧ aget S.now s.name.data.toList = some f ∧ ∃ n, (S2.fs f).1 = (S.fs f).1 ++ s.bs.take n) := by
  have hbeg : Calm (begS (opFail S 1 e p)) := ⟨hc.1, rfl⟩
  have base : (begS (opFail S 1 e p)).now = S.now ∧ Calm (begS (opFail S 1 e p)) ∧ (begS (opFail S 1 e p)).calls = S.calls + 1 ∧ (begS (opFail S 1 e p)).bd = S.bd + 1 ∧ ∀ f, ((begS (opFail S 1 e p)).fs f).1 = (S.fs f).1 ∨ (s.kind = 1 ∧ aget S.now s.name.data.toList = some f ∧ ∃ n, ((begS (opFail S 1 e p)).fs f).1 = (S.fs f).1 ++ s.bs.take n) :=
    ⟨rfl, hbeg, rfl, rfl, fun f => .inl rfl⟩
  unfold stepR at h
  split at h
  · obtain ⟨f, _, rfl⟩ := h
    unfold opCreate
    rw [fail_begR hc he, if_pos he]
    exact base
  · split at h
    · rename_i h1
      subst h
      unfold opAppend
      rw [fail_begR hc he, if_pos rfl]
      show (opPut _ _ _ _).2.now = _ ∧ _
      unfold opPut
      split
      · exact base
      · rename_i f hf
        split
        · exact base
        · refine ⟨rfl, hbeg, rfl, rfl, fun x => ?_⟩
          by_cases hx : x = f
          · subst hx
            right
            refine ⟨h1, hf, shareN (opFail S 1 e p).fp s.bs.length, ?_⟩
            simp only [upd_same]
            rfl
          · left
            simp only [upd_other _ _ hx]
            rfl
    · split at h
      · subst h
        unfold opSync
        rw [fail_begR hc he, if_pos he]
        exact base
      · split at h
        · subst h
          unfold opSyncDir
          rw [fail_begR hc he, if_pos he]
          exact base
        · split at h
          · subst h
            unfold opRename
            rw [fail_begR hc he, if_pos he]
            exact base
          · split at h
            · subst h
              unfold opDelete
              rw [fail_begR hc he, if_pos he]
              exact base
            · omega

theorem read_good {S : DS} (hc : Calm S) (hg : ∀ p ∈ S.now, goodNm p.1 = true) (ha : Asc S.now) {i : Nat} (hi : i < S.now.length) : readR S S.now[i].1 = ((S.fs S.now[i].2).1, 0) := by
  unfold readR
  have e := mem_aget (n := S.now[i].1) (f := S.now[i].2) ha (List.getElem_mem hi)
  rw [calm_not_halted hc, hg _ (List.getElem_mem hi), e]
  rfl

end Go.Proofs.Ytjiklpoggpdngaa
