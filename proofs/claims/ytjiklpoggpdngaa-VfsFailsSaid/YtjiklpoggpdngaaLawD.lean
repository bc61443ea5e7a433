/- VfsDurable: what is plain in it; the rows that are collected. -/
import Derived.Test.YtjiklpoggpdngaaLawP
namespace Go.Proofs.Ytjiklpoggpdngaa
open Go.RowKit Go.Maps Go.Sort

theorem info_bytes : (Try.prog.info? 30).map (fun i => (i.zero, i.size, i.bytes)) = some (some (.slice none 0 0), 1, 24) := by kernel_rfl

/-- bytes that were read, one by one -/
def Coll (B : Nat) (w : World) (S : DS) (v : Value) (k : Nat) : Prop :=
  ∃ vs : List Value, vs.length = k ∧ w.ownsRow B 30 1 v k vs ∧ ∀ i (h : i < vs.length) (h' : i < S.now.length), w.ownsRow B 5 1 vs[i] (readR S S.now[i].1).1.length ((readR S S.now[i].1).1.map bV)

theorem Coll.start (B : Nat) (w : World) (S : DS) : Coll B w S (.slice none 0 0) 0 := ⟨[], rfl, ⟨rfl, .inl ⟨rfl, rfl⟩⟩, fun i h => by simp at h⟩
theorem Coll.keep {B : Nat} {w w' : World} {S : DS} {v : Value} {k : Nat} (h : Coll B w S v k) (hb : RowKit.Below w.heap.size w w') : Coll B w' S v k := by
  obtain ⟨vs, h1, h2, h3⟩ := h
  exact ⟨vs, h1, row_keep h2 (fun a n c e => hb.block _ (row_lt h2 e)), fun i hi hi' => row_keep (h3 i hi hi') (fun a n c e => hb.block _ (row_lt (h3 i hi hi') e))⟩
theorem coll_snoc {B : Nat} {w w3 : World} {S : DS} {v v2 v3 : Value} {k : Nat} {vs : List Value} (g1 : vs.length = k) (g2 : w.ownsRow B 30 1 v k vs) (g3 : ∀ i (h : i < vs.length) (h' : i < S.now.length), w.ownsRow B 5 1 vs[i] (readR S S.now[i].1).1.length ((readR S S.now[i].1).1.map bV)) (hk : k < S.now.length) (h2 : w.ownsRow B 5 1 v2 (readR S S.now[k].1).1.length ((readR S S.now[k].1).1.map bV))
    (hgr : w.grownBy w3 v.ownBlock) (hrow : w3.ownsRow B 30 1 v3 (k + 1) (vs ++ [v2])) : Coll B w3 S v3 (k + 1) := by
  have ty : ∀ {x : Value} {n : Nat} {xs : List Value}, w.ownsRow B 5 1 x n xs → w3.ownsRow B 5 1 x n xs := by
    intro x n xs hx
    refine row_keep hx fun a m c e => hgr.block _ (row_lt hx e) ?_
    intro e2
    obtain ⟨a', n', c', e3, e4⟩ := own_some e2.symm
    obtain ⟨_, q | ⟨gg, cap, cur, hv, _, hh, _⟩⟩ := id hx
    · rw [q.1] at e; cases e
    · rw [hv] at e; cases e
      obtain ⟨_, q | ⟨gg', cap', cur', hv', _, hh', _⟩⟩ := id g2
      · rw [q.1] at e3; cases e3
      · rw [hv'] at e3; cases e3
        simp only at e4
        rw [e4, hh] at hh'
        injection hh' with hh'; injection hh' with _ h9 _
        revert h9; decide
  refine ⟨vs ++ [v2], by simp [g1], hrow, fun i hi hi' => ?_⟩
  by_cases hl : i < vs.length
  · rw [List.getElem_append_left hl]; exact ty (g3 i hl hi')
  · have hi2 : i = k := by rw [List.length_append] at hi; simp at hi; omega
    subst hi2
    rw [List.getElem_append_right (by omega)]
    simp only [g1, Nat.sub_self, List.getElem_cons_zero]
    exact ty h2

/-! what is plain -/
theorem cutN_whole (n : Nat) (c : Int) : cutN n n c = n := by
  unfold cutN
  have : sizeC c % ((n : Int) - (n : Int) + 1) = 0 := by rw [show (n : Int) - (n : Int) + 1 = 1 by omega]; exact Int.emod_one _
  rw [this]; simp
theorem cutN_zero (len syn : Nat) : cutN len syn 0 = syn := by
  unfold cutN
  have : sizeC 0 = 0 := by decide
  rw [this]; simp
theorem keptF_nil : ∀ (l : List Ch) (m : AM), keptF l [] m = m
  | [], _ => rfl
  | _ :: r, m => by
    unfold keptF
    rw [show odd (([] : List Int).headD 0) = false from rfl]
    exact keptF_nil r m

/-- after Sync of the first k names -/
structure Synced (S0 : DS) (k : Nat) (S : DS) : Prop where
  now : S.now = S0.now
  calm : Calm S
  calls : S.calls ≤ S0.calls + k
  bd : S.bd ≤ S0.bd + k
  bytes : ∀ f, (S.fs f).1 = (S0.fs f).1
  syn : ∀ i (h : i < S0.now.length), i < k → (S.fs S0.now[i].2).2 = (S0.fs S0.now[i].2).1.length

theorem Synced.next {S0 S : DS} {k : Nat} (h : Synced S0 k S) (hk : k < S0.now.length) (hg : goodNm S0.now[k].1 = true) (ha : Asc S0.now) : Synced S0 (k + 1) (opSync S S0.now[k].1).2 := by
  have e : aget S.now S0.now[k].1 = some S0.now[k].2 := by rw [h.now]; exact mem_aget ha (List.getElem_mem hk)
  have ho : opSync S S0.now[k].1 = (0, { begS S with fs := upd S.fs S0.now[k].2 ((S.fs S0.now[k].2).1, (S.fs S0.now[k].2).1.length) }) := by
    unfold opSync
    rw [begR_calm h.calm, hg, e]
    simp
  rw [ho]
  refine ⟨h.now, calm_beg h.calm, ?_, ?_, ?_, ?_⟩
  · show S.calls + 1 ≤ _; have := h.calls; omega
  · show S.bd + 1 ≤ _; have := h.bd; omega
  · intro f
    show (upd S.fs _ _ f).1 = _
    by_cases hf : f = S0.now[k].2
    · rw [hf, upd_same]; exact h.bytes _
    · rw [upd_other _ _ hf]; exact h.bytes _
  · intro i hi hik
    show (upd S.fs _ _ _).2 = _
    by_cases hf : S0.now[i].2 = S0.now[k].2
    · rw [hf, upd_same]
      simp only [h.bytes]
    · rw [upd_other _ _ hf]
      have : i ≠ k := by rintro rfl; exact hf rfl
      exact h.syn i hi (by omega)

/-- a directory all of which is durable -/
structure AllDur (S0 S : DS) : Prop where
  now : S.now = S0.now
  dur : S.dur = S0.now
  chg : S.chg = []
  calm : Calm S
  bytes : ∀ f, (S.fs f).1 = (S0.fs f).1
  syn : ∀ p ∈ S0.now, (S.fs p.2).2 = (S0.fs p.2).1.length

theorem allDur {S0 S : DS} (h : Synced S0 S0.now.length S) : opSyncDir S = (0, (opSyncDir S).2) ∧ AllDur S0 (opSyncDir S).2 ∧ (opSyncDir S).2.calls = S.calls + 1 ∧ (opSyncDir S).2.bd = S.bd + 1 := by
  have ho : opSyncDir S = (0, { begS S with dur := S.now, chg := [] }) := by
    unfold opSyncDir
    rw [begR_calm h.calm]
    rfl
  rw [ho]
  refine ⟨rfl, ⟨h.now, h.now, rfl, calm_beg h.calm, h.bytes, ?_⟩, rfl, rfl⟩
  intro p hp
  obtain ⟨i, hi, rfl⟩ := List.getElem_of_mem hp
  exact h.syn i hi hi

/-- a crash of it has the same -/
theorem crash_all {S0 S Sc : DS} {cs : List Int} (h : AllDur S0 S) (hc : Crashed S cs Sc) : Sc.now.map (·.1) = S0.now.map (·.1) ∧ ∀ i (h1 : i < Sc.now.length) (h2 : i < S0.now.length), (Sc.fs Sc.now[i].2).1 = (S0.fs S0.now[i].2).1 := by
  have hl : crashLeft S cs = S0.now := by unfold crashLeft; rw [h.chg, h.dur]; rfl
  obtain ⟨hcu, _⟩ := hc
  have hn := hcu.names
  rw [hl, List.take_length] at hn
  refine ⟨hn, fun i h1 h2 => ?_⟩
  have hf := hcu.files i h1 (by rw [hl]; exact h2)
  simp only [hl] at hf
  rw [hf]
  unfold cutOf
  simp only [h.bytes, h.syn _ (List.getElem_mem h2), cutN_whole, List.take_length]

/-- what is called afterwards without a sync -/
structure NoSync (S S' : DS) : Prop where
  dur : S'.dur = S.dur
  syn : ∀ p ∈ S.dur, (S'.fs p.2).2 = (S.fs p.2).2
  more : ∀ p ∈ S.dur, ∃ t, (S'.fs p.2).1 = (S.fs p.2).1 ++ t

theorem NoSync.refl (S : DS) : NoSync S S := ⟨rfl, fun _ _ => rfl, fun _ _ => ⟨[], by simp⟩⟩
theorem NoSync.trans {A B C : DS} (h : NoSync A B) (k : NoSync B C) : NoSync A C := by
  refine ⟨k.dur.trans h.dur, fun p hp => (k.syn p (by rw [h.dur]; exact hp)).trans (h.syn p hp), fun p hp => ?_⟩
  obtain ⟨t, ht⟩ := h.more p hp
  obtain ⟨u, hu⟩ := k.more p (by rw [h.dur]; exact hp)
  exact ⟨t ++ u, by rw [hu, ht, List.append_assoc]⟩
theorem nosync_same {S S' : DS} (h1 : S'.dur = S.dur) (h2 : S'.fs = S.fs) : NoSync S S' := ⟨h1, fun _ _ => by rw [h2], fun _ _ => ⟨[], by rw [h2]; simp⟩⟩
theorem nosync_put {S S' : DS} (h1 : S'.dur = S.dur) (h2 : S'.fs = S.fs) (n : Nm) (bs : List UInt8) (k : Nat) : NoSync S (opPut S' n bs k).2 := by
  unfold opPut
  split
  · exact nosync_same h1 h2
  · rename_i f _
    split
    · exact nosync_same h1 h2
    · refine ⟨h1, fun p _ => ?_, fun p _ => ?_⟩
      · show (upd S'.fs f _ p.2).2 = _
        by_cases hf : p.2 = f
        · rw [hf, upd_same]; simp only [h2]
        · rw [upd_other _ _ hf, h2]
      · show ∃ t, (upd S'.fs f _ p.2).1 = _
        by_cases hf : p.2 = f
        · rw [hf, upd_same]; exact ⟨bs.take k, by simp only [h2]⟩
        · rw [upd_other _ _ hf, h2]; exact ⟨[], by simp⟩

theorem stepR_nosync {s : Stp} {S S' : DS} (hk : s.kind ≠ 2 ∧ s.kind ≠ 3) (h : stepR s S S') : NoSync S S' := by
  unfold stepR at h
  split at h
  · obtain ⟨f, hf, rfl⟩ := h
    unfold opCreate
    split
    · exact nosync_same rfl rfl
    · split
      · exact nosync_same rfl rfl
      · split
        · exact nosync_same rfl rfl
        · refine ⟨rfl, fun p hp => ?_, fun p hp => ?_⟩
          · show (upd S.fs f _ p.2).2 = _
            rw [upd_other _ _ (hf.2.1 p hp)]
          · show ∃ t, (upd S.fs f _ p.2).1 = _
            rw [upd_other _ _ (hf.2.1 p hp)]; exact ⟨[], by simp⟩
  · split at h
    · subst h
      unfold opAppend
      split
      · exact nosync_put (S := S) (S' := begS S) rfl rfl _ _ _
      · split
        · exact nosync_same rfl rfl
        · exact nosync_put (S := S) (S' := begS S) rfl rfl _ _ _
    · rw [if_neg hk.1, if_neg hk.2] at h
      split at h
      · subst h
        unfold opRename
        split
        · exact nosync_same rfl rfl
        · split
          · exact nosync_same rfl rfl
          · split <;> exact nosync_same rfl rfl
      · split at h
        · subst h
          unfold opDelete
          split
          · exact nosync_same rfl rfl
          · split <;> exact nosync_same rfl rfl
        · subst h; exact NoSync.refl _
theorem SureR.nosync : ∀ {l : List Stp} {S S' : DS}, (∀ s ∈ l, s.kind ≠ 2 ∧ s.kind ≠ 3) → SureR l S S' → NoSync S S'
  | [], S, S', _, h => by rw [show S' = S from h]; exact NoSync.refl _
  | s :: r, S, S', hk, ⟨S1, h1, h2⟩ => (stepR_nosync (hk s (List.mem_cons_self ..)) h1).trans (SureR.nosync (fun x hx => hk x (List.mem_cons_of_mem _ hx)) h2)

theorem crash_later {S0 S Sm Sc : DS} (h : AllDur S0 S) (hm : NoSync S Sm) (hc : Crashed Sm [] Sc) : Sc.now.map (·.1) = S0.now.map (·.1) ∧ ∀ i (h1 : i < Sc.now.length) (h2 : i < S0.now.length), (Sc.fs Sc.now[i].2).1 = (S0.fs S0.now[i].2).1 := by
  have hl : crashLeft Sm [] = S0.now := by unfold crashLeft; rw [keptF_nil, hm.dur, h.dur]
  obtain ⟨hcu, _⟩ := hc
  have hn := hcu.names
  rw [hl, List.take_length] at hn
  refine ⟨hn, fun i h1 h2 => ?_⟩
  have hf := hcu.files i h1 (by rw [hl]; exact h2)
  simp only [hl] at hf
  rw [hf]
  have hp : S0.now[i] ∈ S.dur := by rw [h.dur]; exact List.getElem_mem h2
  obtain ⟨t, ht⟩ := hm.more _ hp
  unfold cutOf
  rw [show (([] : List Int).drop (Sm.chg.length + i)).headD 0 = 0 by simp]
  simp only [cutN_zero, hm.syn _ hp, h.syn _ (List.getElem_mem h2), ht, h.bytes, List.take_left']

end Go.Proofs.Ytjiklpoggpdngaa
