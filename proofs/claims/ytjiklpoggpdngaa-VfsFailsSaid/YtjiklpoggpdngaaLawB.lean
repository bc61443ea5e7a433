/- Crash in the words of Holds; awake. -/
import Derived.Test.YtjiklpoggpdngaaLawA
namespace Go.Proofs.Ytjiklpoggpdngaa
open Go.RowKit Go.Maps Go.Sort

def HCrash (w : World) (S : DS) (cs : List Int) (e : Ending) (w' : World) : Prop := ∃ d' S', e = .returned (ptr d') ∧ Holds (fun b => b < w.heap.size) w w' d' S' ∧ Crashed S cs S'

/-- a slice of ints that can be read -/
theorem int_src {w : World} {ao : Option Addr} {n cap : Nat} {cs : List Int} (h : Src w (.slice ao n cap) (cs.map iV)) (hi : ∀ c ∈ cs, -9223372036854775808 ≤ c ∧ c ≤ 9223372036854775807) : IntSrc w ao cap cs ∧ n = cs.length := by
  rcases h with ⟨ao', c', e, e2, h5, h6⟩ | ⟨b, off, c, hv, h1, h2, h3, h4⟩
  · injection e with e1 e3 e4
    have : cs = [] := by simpa using e2
    subst this; subst e1; subst e3; subst e4
    exact ⟨⟨Nat.zero_le _, by omega, (fun a e j u hu => by simp at hu), fun _ => rfl, (fun h => absurd rfl h), hi⟩, rfl⟩
  · injection hv with e1 e3 e4
    subst e1; subst e4
    rw [List.length_map] at h1 e3
    refine ⟨⟨h1, by omega, ?_, (fun e => by cases e), ?_, hi⟩, e3⟩
    · intro a ha j u hu
      cases ha
      rw [show (⟨b, off, none⟩ : Addr).add j = ⟨b, off + j, none⟩ by unfold Addr.add; by_cases e : j = 0 <;> simp [e]]
      exact h4 j u hu
    · intro _ a ha; cases ha; exact h3

theorem crash_h {PB : Nat → Prop} {wP w : World} {d : Nat} {S : DS} (h : Holds PB wP w d S) (hc : Sm S) {v : Value} {cs : List Int} (hs : Src w v (cs.map iV)) (hi : ∀ c ∈ cs, -9223372036854775808 ≤ c ∧ c ≤ 9223372036854775807) :
    Calls Try.prog 22 #[ptr d, v] w (HCrash w S cs) := by
  obtain ⟨g, hr, hg⟩ := h.ex
  obtain ⟨ao, cap, rfl⟩ := hs.len
  obtain ⟨h1, h2⟩ := int_src hs hi
  rw [h2]
  refine (crash_any hr hc h1).mono ?_
  rintro e w' ⟨d', g', S', he, hr', hb, hn, hcr⟩
  refine ⟨d', S', he, ⟨⟨g', hr', fun b hb => ?_⟩, hb.os, hb.tape, hb.output, hb.size, fun b h => h, fun b h => hb.block b h⟩, hcr⟩
  apply Classical.byContradiction
  intro e
  have := hn b e
  omega

theorem crashed_calm {S S' : DS} {cs : List Int} (h : Crashed S cs S') : Calm S' := ⟨h.1.asked, h.1.fl⟩

/-- held, of a directory in the words of Holds -/
theorem held_h {PB : Nat → Prop} {wP w : World} {d : Nat} {S : DS} (h : Holds PB wP w d S) (hh : halted S = false) (hsm : S.now.length ≤ 1000000) {vn vr : Value} {vs : List Value} {bss : List (List UInt8)} (hn : Src w vn ((S.now.map (·.1)).map encStr)) (hr : Src w vr vs) (hl : vs.length = S.now.length) (hl2 : bss.length = S.now.length)
    (hv : ∀ i (h1 : i < vs.length) (h2 : i < bss.length), Src w vs[i] (bss[i].map bV)) (hrd : ∀ i (h1 : i < S.now.length) (h2 : i < bss.length), readR S S.now[i].1 = (bss[i], 0)) :
    Calls Try.prog 26 #[ptr d, vn, vr] w (HeldPost w) := by
  obtain ⟨g, hrp, _⟩ := h.ex
  exact held_true hrp hh hsm hn hr hl hl2 hv hrd (isdir_names hrp.now)

/-- one file alone -/
theorem held_one {PB : Nat → Prop} {wP w : World} {d : Nat} {S : DS} (h : Holds PB wP w d S) (hh : Calm S) {n : Nm} {f k : Nat} {bs : List UInt8} (hnow : S.now = [(n, f)]) (hfs : S.fs f = (bs, k)) (hgn : goodNm n = true) {vn vr v : Value} (hn : Src w vn [encStr n]) (hr : Src w vr [v]) (hv : Src w v (bs.map bV)) :
    Calls Try.prog 26 #[ptr d, vn, vr] w (HeldPost w) := by
  refine held_h h (calm_not_halted hh) (by rw [hnow]; simp) (vs := [v]) (bss := [bs]) (by rw [hnow]; exact hn) hr (by rw [hnow]; rfl) (by rw [hnow]; rfl) ?_ ?_
  · intro i h1 h2
    have : i = 0 := by simp at h1; omega
    subst this
    exact hv
  · intro i h1 h2
    have : i = 0 := by simp at h2; omega
    subst this
    simp only [hnow, List.getElem_cons_zero]
    unfold readR
    rw [calm_not_halted hh, hgn, hnow]
    simp [aget, hfs]

theorem first_crash_t {S S' : DS} (h : FirstS true S) (hc : Crashed S [1] S') : ∃ f', S'.now = [([97], f')] ∧ S'.fs f' = ([1, 2, 3], 3) := by
  obtain ⟨f, h1, h2, h3, h4, h5, h6⟩ := h
  simp at h5 h6
  have hl : crashLeft S [1] = [([97], f)] := by unfold crashLeft; rw [h6, h5]; rfl
  obtain ⟨hcu, _⟩ := hc
  have hlen := hcu.len (Nat.le_refl _)
  rw [hl] at hlen
  have hn := hcu.names
  rw [hl] at hn
  match hS : S'.now, hlen, hn with
  | [(n, f')], _, hn =>
    simp at hn
    subst hn
    refine ⟨f', rfl, ?_⟩
    have hf := hcu.files 0 (by rw [hS]; exact Nat.zero_lt_one) (by rw [hl]; exact Nat.zero_lt_one)
    simp only [hS, List.getElem_cons_zero] at hf
    rw [hf]
    unfold cutOf
    simp only [hl, List.getElem_cons_zero, h2, h6]
    decide

theorem first_crash_f {S S' : DS} (h : FirstS false S) (hc : Crashed S [1, 0] S') : ∃ f', S'.now = [([97], f')] ∧ S'.fs f' = ([1, 2], 2) := by
  obtain ⟨f, h1, h2, h3, h4, h5, h6⟩ := h
  simp at h5 h6
  have hl : crashLeft S [1, 0] = [([97], f)] := by unfold crashLeft; rw [h6, h5]; rfl
  obtain ⟨hcu, _⟩ := hc
  have hlen := hcu.len (Nat.le_refl _)
  rw [hl] at hlen
  have hn := hcu.names
  rw [hl] at hn
  match hS : S'.now, hlen, hn with
  | [(n, f')], _, hn =>
    simp at hn
    subst hn
    refine ⟨f', rfl, ?_⟩
    have hf := hcu.files 0 (by rw [hS]; exact Nat.zero_lt_one) (by rw [hl]; exact Nat.zero_lt_one)
    simp only [hS, List.getElem_cons_zero] at hf
    rw [hf]
    unfold cutOf
    simp only [hl, List.getElem_cons_zero, h2, h6, List.length_singleton]
    decide

theorem src_new' (w : World) (xs : Array Value) (t : TypeId) {n k : Nat} (hk : k = w.heap.size) (hn : xs.size = n) (hs : (n : Int) ≤ 9223372036854775807) : Src (w.alloc (.cells xs t)) (.slice (some ⟨k, 0, none⟩) n n) xs.toList := by
  subst hk; exact src_new w xs t n hn hs

theorem held_three {w w2 : World} {d2 : Nat} {S S2 : DS} (h : Holds (fun b => b < w.heap.size) w w2 d2 S2) (hcalm : Calm S2) (hc : Crashed S [1] S2) (hS : FirstS true S) :
    Calls Try.prog 26 #[.pointer (some ⟨d2, 0, none⟩), .slice (some ⟨w2.heap.size, 0, none⟩) 1 1, .slice (some ⟨w2.heap.size + 1 + 1, 0, none⟩) 1 1] (((w2.alloc (.cells #[.string ⟨#[97]⟩] 9)).alloc (.cells #[.int .u8 1, .int .u8 2, .int .u8 3] 5)).alloc (.cells #[.slice (some ⟨w2.heap.size + 1, 0, none⟩) 3 3] 30))
      (HeldPost (((w2.alloc (.cells #[.string ⟨#[97]⟩] 9)).alloc (.cells #[.int .u8 1, .int .u8 2, .int .u8 3] 5)).alloc (.cells #[.slice (some ⟨w2.heap.size + 1, 0, none⟩) 3 3] 30))) := by
  obtain ⟨f', h1, h2⟩ := first_crash_t hS hc
  have ha : ∀ (W : World) (o : Obj), RowKit.Below W.heap.size W (W.alloc o) := fun W o => (RowKit.Below.refl _ _).alloc (Nat.le_refl _) _
  exact held_one (((h.moved (ha _ _)).moved (ha _ _)).moved (ha _ _)) hcalm h1 h2 rfl (((src_new w2 #[.string ⟨#[97]⟩] _ 1 rfl (by decide)).below (ha _ _)).below (ha _ _))
    (src_new' _ #[.slice (some ⟨w2.heap.size + 1, 0, none⟩) 3 3] _ (by simp) rfl (by decide)) ((src_new' _ #[.int .u8 1, .int .u8 2, .int .u8 3] _ (by simp) rfl (by decide)).below (ha _ _))

theorem held_two {w w2 : World} {d2 : Nat} {S S2 : DS} (h : Holds (fun b => b < w.heap.size) w w2 d2 S2) (hcalm : Calm S2) (hc : Crashed S [1, 0] S2) (hS : FirstS false S) :
    Calls Try.prog 26 #[.pointer (some ⟨d2, 0, none⟩), .slice (some ⟨w2.heap.size, 0, none⟩) 1 1, .slice (some ⟨w2.heap.size + 1 + 1, 0, none⟩) 1 1] (((w2.alloc (.cells #[.string ⟨#[97]⟩] 9)).alloc (.cells #[.int .u8 1, .int .u8 2] 5)).alloc (.cells #[.slice (some ⟨w2.heap.size + 1, 0, none⟩) 2 2] 30))
      (HeldPost (((w2.alloc (.cells #[.string ⟨#[97]⟩] 9)).alloc (.cells #[.int .u8 1, .int .u8 2] 5)).alloc (.cells #[.slice (some ⟨w2.heap.size + 1, 0, none⟩) 2 2] 30))) := by
  obtain ⟨f', h1, h2⟩ := first_crash_f hS hc
  have ha : ∀ (W : World) (o : Obj), RowKit.Below W.heap.size W (W.alloc o) := fun W o => (RowKit.Below.refl _ _).alloc (Nat.le_refl _) _
  exact held_one (((h.moved (ha _ _)).moved (ha _ _)).moved (ha _ _)) hcalm h1 h2 rfl (((src_new w2 #[.string ⟨#[97]⟩] _ 1 rfl (by decide)).below (ha _ _)).below (ha _ _))
    (src_new' _ #[.slice (some ⟨w2.heap.size + 1, 0, none⟩) 2 2] _ (by simp) rfl (by decide)) ((src_new' _ #[.int .u8 1, .int .u8 2] _ (by simp) rfl (by decide)).below (ha _ _))

set_option maxHeartbeats 4000000 in
set_option maxRecDepth 100000 in
theorem awake_any (w : World) : Calls Try.prog 8 #[] w (HeldPost w) := by
  go_enter Try.func8, Try.ntmps8
  go_wp2_with fail
  refine (first_any true _).mono ?_
  rintro e w1 ⟨d1, S1, rfl, hd1, hh1, hS1⟩
  have H1 := Lib.hid hh1; have HS1 := Lib.hid hS1
  clear hd1 hh1 hS1
  unfold ptr
  go_wp2_with fail
  refine (crash_h (cs := [1]) (H1.out.moved ((RowKit.Below.refl _ _).alloc (Nat.le_refl _) _)) (by obtain ⟨_, _, _, _, h, _⟩ := HS1.out; exact h) (src_new w1 #[.int .i64 1] _ 1 rfl (by decide)) (by decide)).mono ?_
  rintro e w2 ⟨d2, S2, rfl, hh2, hc2⟩
  have H2 := Lib.hid hh2; have HC2 := Lib.hid hc2
  clear hh2 hc2
  unfold ptr
  go_wp2_with fail
  refine (held_three (H2.out) (crashed_calm HC2.out) HC2.out HS1.out).mono ?_
  rintro e w3 ⟨rfl, hb3⟩
  have HB3 : Hid (RowKit.Below w.heap.size w w3) := by
    refine (H1.out.below (B := w.heap.size) (fun _ h => h)).trans (((RowKit.Below.refl _ w1).alloc H1.out.size _).trans (((H2.out.below (B := w.heap.size) (fun _ h => Nat.lt_of_lt_of_le h (Nat.le_trans H1.out.size (by simp)))).trans ((((RowKit.Below.refl _ w2).alloc ?_ _).alloc ?_ _).alloc ?_ _)).trans (hb3.mono ?_)))
    all_goals
      have h1 := H1.out.size
      have h2 := H2.out.size
      simp at h2 ⊢
      omega
  clear hb3
  go_wp2_with fail
  refine (first_any false _).mono ?_
  rintro e w4 ⟨d4, S4, rfl, hd4, hh4, hS4⟩
  have H4 := Lib.hid hh4; have HS4 := Lib.hid hS4
  clear hd4 hh4 hS4
  unfold ptr
  go_wp2_with fail
  refine (crash_h (cs := [1, 0]) (H4.out.moved ((RowKit.Below.refl _ _).alloc (Nat.le_refl _) _)) (by obtain ⟨_, _, _, _, h, _⟩ := HS4.out; exact h) (src_new w4 #[.int .i64 1, .int .i64 0] _ 2 rfl (by decide)) (by decide)).mono ?_
  rintro e w5 ⟨d5, S5, rfl, hh5, hc5⟩
  have H5 := Lib.hid hh5; have HC5 := Lib.hid hc5
  clear hh5 hc5
  unfold ptr
  go_wp2_with fail
  refine (held_two (H5.out) (crashed_calm HC5.out) HC5.out HS4.out).mono ?_
  rintro e w6 ⟨rfl, hb6⟩
  have HB6 : Hid (RowKit.Below w.heap.size w w6) := by
    refine HB3.out.trans (((H4.out.below (B := w.heap.size) (fun _ h => Nat.lt_of_lt_of_le h HB3.out.size)).trans (((RowKit.Below.refl _ w4).alloc ?_ _).trans (((H5.out.below (B := w.heap.size) (fun _ h => Nat.lt_of_lt_of_le h ?_)).trans ((((RowKit.Below.refl _ w5).alloc ?_ _).alloc ?_ _).alloc ?_ _)).trans (hb6.mono ?_)))))
    all_goals
      have h1 := HB3.out.size
      have h2 := H4.out.size
      have h3 := H5.out.size
      simp at h3 ⊢
      omega
  clear hb6
  go_wp2_with fail
  refine (first_any false _).mono ?_
  rintro e w7 ⟨d7, S7, rfl, hd7, hh7, hS7⟩
  have H7 := Lib.hid hh7
  clear hd7 hh7 hS7
  unfold ptr
  go_wp2
  go_ret
  exact ⟨rfl, HB6.out.trans (H7.out.below (fun _ h => Nat.lt_of_lt_of_le h HB6.out.size))⟩

end Go.Proofs.Ytjiklpoggpdngaa
