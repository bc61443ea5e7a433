/- VfsBegins: what is plain in it. -/
import Derived.Test.YtjiklpoggpdngaaLawE
namespace Go.Proofs.Ytjiklpoggpdngaa
open Go.RowKit Go.Maps Go.Sort

/-- nothing was renamed or deleted: what was there stays -/
structure Kept (S : DS) : Prop where
  dur : ∀ p ∈ S.dur, p ∈ S.now
  chg : ∀ c ∈ S.chg, ∃ n f, c = .put n f ∧ (n, f) ∈ S.now

theorem aget_no {l : AM} {n : Nm} (h : aget l n = none) : ∀ p ∈ l, p.1 ≠ n := by
  intro p hp e
  unfold aget at h
  simp only [Option.map_eq_none_iff, List.find?_eq_none] at h
  exact h p hp (by simp [e])
theorem Kept.same {S S' : DS} (k : Kept S) (h1 : S'.now = S.now) (h2 : S'.dur = S.dur) (h3 : S'.chg = S.chg) : Kept S' := ⟨by rw [h1, h2]; exact k.dur, by rw [h1, h3]; exact k.chg⟩
theorem Kept.put {S : DS} (k : Kept S) (n : Nm) (bs : List UInt8) (m : Nat) : Kept (opPut S n bs m).2 := by
  unfold opPut
  split
  · exact k
  · split
    · exact k
    · exact k.same rfl rfl rfl
theorem Kept.beg {S : DS} (k : Kept S) : Kept (begS S) := k.same rfl rfl rfl
theorem kept0 : Kept DS0 := ⟨(fun p h => by cases h), (fun p h => by cases h)⟩

theorem stepR_kept {s : Stp} {S S' : DS} (hk : s.kind ≠ 4 ∧ s.kind ≠ 5) (h : stepR s S S') (k : Kept S) : Kept S' := by
  unfold stepR at h
  split at h
  · obtain ⟨f, hf, rfl⟩ := h
    unfold opCreate
    split
    · exact k.beg
    · split
      · exact k.beg
      · rename_i hn
        split
        · exact k.beg
        · have hn' : aget S.now s.name.data.toList = none := by simpa using hn
          have hin : ∀ p ∈ S.now, p ∈ apCh (.put s.name.data.toList f) S.now := by
            intro p hp
            unfold apCh aput
            exact mem_ains.2 (.inr (List.mem_filter.2 ⟨hp, by simpa using aget_no hn' p hp⟩))
          refine ⟨fun p hp => hin p (k.dur p hp), fun c hc => ?_⟩
          rcases List.mem_append.1 hc with hc | hc
          · obtain ⟨n, f', e, hm⟩ := k.chg c hc
            exact ⟨n, f', e, hin _ hm⟩
          · have : c = .put s.name.data.toList f := by simpa using hc
            exact ⟨_, _, this, by unfold apCh aput; exact mem_ains.2 (.inl rfl)⟩
  · split at h
    · subst h
      unfold opAppend
      split
      · exact k.beg.put _ _ _
      · split
        · exact k.beg
        · exact k.beg.put _ _ _
    · split at h
      · subst h
        unfold opSync
        split
        · exact k.beg
        · split <;> exact k.same rfl rfl rfl
      · split at h
        · subst h
          unfold opSyncDir
          split
          · exact k.beg
          · exact ⟨fun p hp => hp, fun c hc => by cases hc⟩
        · rw [if_neg hk.1, if_neg hk.2] at h
          subst h; exact k
theorem SureR.kept : ∀ {l : List Stp} {S S' : DS}, (∀ s ∈ l, s.kind ≠ 4 ∧ s.kind ≠ 5) → SureR l S S' → Kept S → Kept S'
  | [], S, S', _, h, k => by rw [show S' = S from h]; exact k
  | s :: r, S, S', hk, ⟨S1, h1, h2⟩, k => SureR.kept (fun x hx => hk x (List.mem_cons_of_mem _ hx)) h2 (stepR_kept (hk s (List.mem_cons_self ..)) h1 k)

theorem keptF_in {now : AM} : ∀ (l : List Ch) (cs : List Int) (m : AM), (∀ p ∈ m, p ∈ now) → (∀ c ∈ l, ∃ n f, c = .put n f ∧ (n, f) ∈ now) → ∀ p ∈ keptF l cs m, p ∈ now
  | [], _, m, hm, _ => hm
  | c :: r, cs, m, hm, hc => by
    unfold keptF
    refine keptF_in r cs.tail _ ?_ (fun x hx => hc x (List.mem_cons_of_mem _ hx))
    split
    · obtain ⟨n, f, rfl, hin⟩ := hc c (List.mem_cons_self ..)
      intro p hp
      unfold apCh aput at hp
      rcases mem_ains.1 hp with rfl | h
      · exact hin
      · exact hm p (List.mem_filter.1 h).1
    · exact hm
theorem left_mem {S : DS} (k : Kept S) (cs : List Int) : ∀ p ∈ crashLeft S cs, p ∈ S.now := keptF_in _ _ _ k.dur k.chg

theorem Holds.synle {PB : Nat → Prop} {wP w : World} {d : Nat} {S : DS} (h : Holds PB wP w d S) : ∀ p ∈ S.now, (S.fs p.2).2 ≤ (S.fs p.2).1.length := by
  obtain ⟨g, hr, _⟩ := h.ex
  exact fun p hp => (hr.fl p.2 (hr.fnow p hp)).syn

/-- a crash of what was kept -/
theorem crash_kept {S Sc : DS} {cs : List Int} (k : Kept S) (hsl : ∀ p ∈ S.now, (S.fs p.2).2 ≤ (S.fs p.2).1.length) (hc : Crashed S cs Sc) :
    ∀ i (h : i < Sc.now.length), ∃ f m, (Sc.now[i].1, f) ∈ S.now ∧ (Sc.fs Sc.now[i].2).1 = (S.fs f).1.take m ∧ (Sc.fs Sc.now[i].2).2 = (Sc.fs Sc.now[i].2).1.length := by
  intro i h
  obtain ⟨hcu, _⟩ := hc
  have hn := hcu.names
  rw [List.take_length] at hn
  have hlen : Sc.now.length = (crashLeft S cs).length := by have := congrArg List.length hn; simpa using this
  have h2 : i < (crashLeft S cs).length := by omega
  have hf := hcu.files i h h2
  have hname : Sc.now[i].1 = (crashLeft S cs)[i].1 := by
    have e1 : (Sc.now.map (·.1))[i]'(by simpa using h) = Sc.now[i].1 := by simp
    have e2 : ((crashLeft S cs).map (·.1))[i]'(by simpa using h2) = (crashLeft S cs)[i].1 := by simp
    rw [← e1, ← e2]
    simp only [hn]
  have hm := left_mem k cs _ (List.getElem_mem h2)
  refine ⟨(crashLeft S cs)[i].2, cutN (S.fs (crashLeft S cs)[i].2).1.length (S.fs (crashLeft S cs)[i].2).2 ((cs.drop (S.chg.length + i)).headD 0), by rw [hname]; exact hm, by rw [hf]; rfl, ?_⟩
  rw [hf]
  unfold cutOf
  simp only [List.length_take]
  have := cutN_le (S.fs (crashLeft S cs)[i].2).1.length (S.fs (crashLeft S cs)[i].2).2 ((cs.drop (S.chg.length + i)).headD 0) (hsl _ hm)
  omega

/-- .. as it reads -/
theorem crash_reads {S Sc : DS} {cs : List Int} (k : Kept S) (hsl : ∀ p ∈ S.now, (S.fs p.2).2 ≤ (S.fs p.2).1.length) (hc : Crashed S cs Sc) (hcs : Calm S) (hg : ∀ p ∈ S.now, goodNm p.1 = true) (ha : Asc S.now) (hac : Asc Sc.now) :
    (∀ p ∈ Sc.now, goodNm p.1 = true) ∧ ∀ i (h : i < Sc.now.length), ∃ l m, readR S Sc.now[i].1 = (l, 0) ∧ readR Sc Sc.now[i].1 = (l.take m, 0) := by
  have hgc : ∀ p ∈ Sc.now, goodNm p.1 = true := by
    intro p hp
    obtain ⟨i, hi, rfl⟩ := List.getElem_of_mem hp
    obtain ⟨f, m, h1, _⟩ := crash_kept k hsl hc i hi
    have := hg (Sc.now[i].1, f) h1
    exact this
  refine ⟨hgc, fun i h => ?_⟩
  obtain ⟨f, m, h1, h2, _⟩ := crash_kept k hsl hc i h
  refine ⟨(S.fs f).1, m, ?_, ?_⟩
  · obtain ⟨j, hj, e⟩ := List.getElem_of_mem h1
    have := read_good hcs hg ha hj
    rw [e] at this
    exact this
  · rw [read_good (crashed_calm hc) hgc hac h, h2]

/-- a crash of a crash -/
theorem crash_twice {S S1 S2 : DS} {cs : List Int} (k : Kept S) (hsl : ∀ p ∈ S.now, (S.fs p.2).2 ≤ (S.fs p.2).1.length) (h1 : Crashed S cs S1) (h2 : Crashed S1 cs S2) (hg1 : ∀ p ∈ S1.now, goodNm p.1 = true) (ha1 : Asc S1.now) (ha2 : Asc S2.now) :
    S2.now.map (·.1) = S1.now.map (·.1) ∧ ∀ i (h : i < S1.now.length), readR S2 S1.now[i].1 = readR S1 S1.now[i].1 := by
  have hl : crashLeft S1 cs = S1.now := by unfold crashLeft; rw [h1.1.chg, h1.2]; rfl
  have hn := h2.1.names
  rw [hl, List.take_length] at hn
  have hlen : S2.now.length = S1.now.length := by have := congrArg List.length hn; simpa using this
  have hg2 : ∀ p ∈ S2.now, goodNm p.1 = true := by
    intro p hp
    have : p.1 ∈ S2.now.map (·.1) := List.mem_map_of_mem hp
    rw [hn] at this
    obtain ⟨q, hq, e⟩ := List.mem_map.1 this
    rw [← e]; exact hg1 q hq
  refine ⟨hn, fun i h => ?_⟩
  have h' : i < S2.now.length := by omega
  have hname : S2.now[i].1 = S1.now[i].1 := by
    have e1 : (S2.now.map (·.1))[i]'(by simpa using h') = S2.now[i].1 := by simp
    have e2 : (S1.now.map (·.1))[i]'(by simpa using h) = S1.now[i].1 := by simp
    rw [← e1, ← e2]
    simp only [hn]
  have hf := h2.1.files i h' (by rw [hl]; exact h)
  simp only [hl] at hf
  obtain ⟨f, m, _, _, hsyn⟩ := crash_kept k hsl h1 i h
  have hr2 := read_good (crashed_calm h2) hg2 ha2 h'
  rw [hname] at hr2
  rw [hr2, read_good (crashed_calm h1) hg1 ha1 h, hf]
  unfold cutOf
  simp only [hsyn, cutN_whole, List.take_length]

theorem take_self {α : Type} (l : List α) (m : Nat) : l.take m = l.take (l.take m).length := by
  rw [List.length_take]
  rcases Nat.le_total m l.length with h | h
  · rw [Nat.min_eq_left h]
  · rw [Nat.min_eq_right h, List.take_length, List.take_of_length_le h]

theorem read_is {PB : Nat → Prop} {wP w : World} {d : Nat} {S : DS} (h : Holds PB wP w d S) {nm : ByteArray} {n : Nm} (hn : nm.data.toList = n) (hs : nm.size ≤ maxLen) {l : List UInt8} (hr : readR S n = (l, 0)) :
    Calls Try.prog 11 #[.pointer (some ⟨d, 0, none⟩), .string nm] w fun e w' => ∃ v, e = .returned (.tuple #[v, .int .i64 0]) ∧ Src w' v (l.map bV) ∧ BW w w' := by
  refine (read_h h nm hs).mono ?_
  rintro e w' ⟨v, he, hrow, hb⟩
  rw [hn, hr] at he hrow
  exact ⟨v, he, Src.of_row hrow, hb⟩

end Go.Proofs.Ytjiklpoggpdngaa
