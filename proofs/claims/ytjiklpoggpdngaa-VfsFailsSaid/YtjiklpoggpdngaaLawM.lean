/- VfsFails: what is plain in it; a step in a new row; a directory that is to fail. -/
import Derived.Test.YtjiklpoggpdngaaLawH
namespace Go.Proofs.Ytjiklpoggpdngaa
open Go.RowKit Go.Maps Go.Sort

theorem bw_drew {w w' : World} (h : BW w w') (n : Nat) : BW w (w'.drewN n) := ⟨h.os, h.tape, h.output, h.size, h.block⟩

theorem Src.drew {w : World} {v : Value} {xs : List Value} (h : Src w v xs) (n : Nat) : Src (w.drewN n) v xs := h.below (bw_drew (BW.refl w) n)

/-- a row of one step, new -/
theorem steps_one {W : World} {s : Stp} (hs : StpOk W s) {U : Nat → Prop} (hu : U W.heap.size) (hb : s.bs ≠ [] → ∀ a, s.bo = some a → U a.block) :
    Steps U (W.alloc (.cells (stpCells s) 33)) (.slice (some ⟨W.heap.size, 0, none⟩) 1 1) [s] := by
  refine .inr ⟨W.heap.size, 0, 1, rfl, hu, ?_, by simp, ?_⟩
  · intro i h hne a ha
    have : i = 0 := by simp at h; omega
    subst this
    exact hb hne a ha
  · intro i h
    have : i = 0 := by simp at h; omega
    subst this
    refine ⟨⟨hs.name, hs.other, hs.bytes.below (bw_alloc _ _), hs.len, hs.part⟩, fun j u hu => ?_⟩
    refine cell_of (heap_new W _) ?_
    simpa using hu

theorem fail_h {PB : Nat → Prop} {wP w : World} {d : Nat} {S : DS} (h : Holds PB wP w d S) (n e p : Int) (hn : n ≤ 9223372036854775807) (hp : -9223372036854775808 ≤ p ∧ p ≤ 9223372036854775807) :
    Calls Try.prog 15 #[.pointer (some ⟨d, 0, none⟩), .int .i64 n, .int .i64 e, .int .i64 p] w fun en w' => en = .returned (.tuple #[]) ∧ Holds PB wP w' d (opFail S n e p) := by
  obtain ⟨g, hr, hg⟩ := h.ex
  refine (fail_any hr n e p hn hp).mono ?_
  rintro en w' ⟨he, hr', hm⟩
  exact ⟨he, h.step hg (Step.of hr' hm)⟩
theorem calls_h {PB : Nat → Prop} {wP w : World} {d : Nat} {S : DS} (h : Holds PB wP w d S) :
    Calls Try.prog 31 #[.pointer (some ⟨d, 0, none⟩)] w fun e w' => e = .returned (.int .i64 (S.calls : Int)) ∧ w = w' := by
  obtain ⟨g, hr, _⟩ := h.ex
  exact calls_any hr

/-- what is read behind a failing call -/
theorem fail_reads {S S2 : DS} {s : Stp} (hcS : Calm S) (hg : Good S) (ha : Asc S.now) (hc2 : Calm S2) (ha2 : Asc S2.now) (hnow : S2.now = S.now)
    (hfs : ∀ f, (S2.fs f).1 = (S.fs f).1 ∨ (s.kind = 1 ∧ aget S.now s.name.data.toList = some f ∧ ∃ n, (S2.fs f).1 = (S.fs f).1 ++ s.bs.take n)) :
    ∀ i (h : i < S.now.length), ∃ l x, readR S S.now[i].1 = (l, 0) ∧ readR S2 S.now[i].1 = (l ++ x, 0) ∧ x = s.bs.take x.length ∧ (x = [] ∨ (s.kind = 1 ∧ S.now[i].1 = s.name.data.toList)) := by
  intro i h
  have h2 : i < S2.now.length := by rw [hnow]; exact h
  have hr2 := read_good hc2 (by rw [hnow]; exact hg.now) ha2 h2
  simp only [hnow] at hr2
  have hr := read_good hcS hg.now ha h
  rcases hfs S.now[i].2 with e | ⟨hk, hag, n, e⟩
  · exact ⟨_, [], hr, by rw [hr2, e, List.append_nil], rfl, .inl rfl⟩
  · refine ⟨_, s.bs.take n, hr, by rw [hr2, e], take_self _ _, .inr ⟨hk, ?_⟩⟩
    have hm := aget_mem hag
    have := hg.inj _ (List.getElem_mem h) _ hm rfl
    rw [this]

/-- what is behind a place of a source -/
theorem Src.drop {w : World} {b off n cap : Nat} {xs : List Value} (h : Src w (.slice (some ⟨b, off, none⟩) n cap) xs) {m : Nat} (hm : m ≤ xs.length) : Src w (.slice (some ⟨b, off + m, none⟩) (n - m) (cap - m)) (xs.drop m) := by
  rcases h with ⟨ao', c', e, e2, h5, h6⟩ | ⟨b', off', c, hv, h1, h2, h3, h4⟩
  · cases e
    subst e2
    have : m = 0 := by simpa using hm
    subst this
    exact .inl ⟨_, cap, rfl, rfl, fun e => (by cases e), h6⟩
  · cases hv
    refine .inr ⟨b, off + m, cap - m, by rw [List.length_drop], by rw [List.length_drop]; omega, by omega, h3, fun j u hu => ?_⟩
    rw [List.getElem?_drop] at hu
    rw [Nat.add_assoc]; exact h4 _ u hu

theorem sub_src {w : World} {b off cb : Nat} {l x : List UInt8} (h : Src w (.slice (some ⟨b, off, none⟩) (l.length + x.length) cb) ((l ++ x).map bV)) :
    Src w (.slice (if cb = l.length then some ⟨b, off, none⟩ else some ⟨b, off + l.length, none⟩) x.length (cb - l.length)) (x.map bV) := by
  have hc : l.length + x.length ≤ cb ∨ x = [] := by
    rcases h with ⟨ao, c', e, e2, _⟩ | ⟨b', off', c, hv, h1, _⟩
    · right
      have := congrArg List.length e2
      simp at this
      exact List.eq_nil_of_length_eq_zero (by simp [this.2])
    · left
      injection hv with _ _ e3
      rw [e3]
      simpa using h1
  have hcap : (cb : Int) ≤ 9223372036854775807 := by
    rcases h with ⟨ao, c', e, e2, _, h6⟩ | ⟨b', off', c, hv, _, h2, _⟩
    · injection e with _ _ e3; rw [e3]; exact h6
    · injection hv with _ _ e3; rw [e3]; exact h2
  by_cases hx : x = []
  · subst hx
    refine .inl ⟨_, _, rfl, rfl, fun e => ?_, by omega⟩
    split at e <;> cases e
  · have hc' : l.length + x.length ≤ cb := hc.resolve_right hx
    have hxl : 0 < x.length := List.length_pos_iff.2 hx
    rw [if_neg (by omega)]
    have := h.drop (m := l.length) (by simp)
    rw [List.map_append, List.drop_left' (by simp), Nat.add_sub_cancel_left] at this
    exact this

/-- .. with the form of the row -/
theorem read_is2 {PB : Nat → Prop} {wP w : World} {d : Nat} {S : DS} (h : Holds PB wP w d S) {nm : ByteArray} {n : Nm} (hn : nm.data.toList = n) (hs : nm.size ≤ maxLen) {l : List UInt8} (hr : readR S n = (l, 0)) :
    Calls Try.prog 11 #[.pointer (some ⟨d, 0, none⟩), .string nm] w fun e w' => ∃ v, e = .returned (.tuple #[v, .int .i64 0]) ∧ Src w' v (l.map bV) ∧ BW w w' ∧ ((v = .slice none 0 0 ∧ l = []) ∨ ∃ b n cap, v = .slice (some ⟨b, 0, none⟩) n cap ∧ n = l.length ∧ n ≤ cap) := by
  refine (read_h h nm hs).mono ?_
  rintro e w' ⟨v, he, hrow, hb⟩
  rw [hn, hr] at he hrow
  refine ⟨v, he, Src.of_row hrow, hb, ?_⟩
  obtain ⟨_, q | ⟨gg, cap, cur, hv, _, _, hle, _⟩⟩ := hrow
  · exact .inl ⟨q.1, List.eq_nil_of_length_eq_zero q.2⟩
  · exact .inr ⟨gg, _, cap, hv, rfl, hle⟩

end Go.Proofs.Ytjiklpoggpdngaa
