/- takeText, takeBytes. -/
import Derived.Test.YthepoplekabcoaaCodD
namespace Go.Proofs.Ythepoplekabcoaa
open Go.RowKit Go.Maps

theorem Src.taken {w : World} {ao : Option Addr} {n cap : Nat} {xs : List Value} (h : Src w (.slice ao n cap) xs) {m : Nat} (hm : m ≤ xs.length) : Src w (.slice ao m cap) (xs.take m) := by
  rcases h with ⟨ao', c', e, e2, h5, h6⟩ | ⟨b', off', c, hv, h1, h2, h3, h4⟩
  · cases e
    subst e2
    have : m = 0 := by simpa using hm
    subst this
    exact .inl ⟨ao, cap, rfl, rfl, h5, h6⟩
  · cases hv
    have hl : (xs.take m).length = m := by rw [List.length_take]; omega
    refine .inr ⟨b', off', cap, by rw [hl], by rw [hl]; omega, h2, h3, fun j u hu => ?_⟩
    rw [List.getElem?_take] at hu
    split at hu
    · exact h4 _ u hu
    · cases hu

theorem src_string {w : World} {ao : Option Addr} {n cap : Nat} {bs : List UInt8} (h : Src w (.slice ao n cap) (bs.map bV)) : (convert 22 9 (.slice ao n cap)).run Try.prog w = .ok (.string ⟨bs.toArray⟩) w := by
  rcases h with ⟨ao', c', e, e2, h5, h6⟩ | ⟨b', off', c, hv, h1, h2, h3, h4⟩
  · cases e
    have hb : bs = [] := by simpa using e2
    subst hb
    cases ao with
    | none => exact run_convert_bytes_nil w 22 5 Try.underlying22 Try.underlying5 0 cap _ Try.underlying9
    | some a => exact run_convert_bytes_back w 22 9 5 a cap [] Try.underlying22 Try.underlying5 Try.underlying9 (fun j hj => by simp at hj)
  · cases hv
    rw [List.length_map]
    refine run_convert_bytes_back w 22 9 5 ⟨b', off', none⟩ cap bs Try.underlying22 Try.underlying5 Try.underlying9 (fun j hj => ?_)
    rw [addOff]
    exact h4 j _ (by rw [List.getElem?_map, List.getElem?_eq_getElem hj]; rfl)

theorem Rd.behind1 {w : World} {r c off cap : Nat} {l : List UInt8} (h : Rd w r c l 0) (h1 : RdC w r (.slice (some ⟨c, off, none⟩) l.length cap) 0) (h2 : Src w (.slice (some ⟨c, off, none⟩) l.length cap) (l.map bV)) (hl : l ≠ []) {m : Nat} (hm : m ≤ l.length) {sa : Option Addr} (hs : sa = some ⟨c, off + m, none⟩ ∨ (sa = some ⟨c, off, none⟩ ∧ cap = m)) {ln cp : Nat} (hln : ln = l.length - m) (hcp : cp = cap - m) :
    Rd (w.setCell ⟨r, 0, none⟩ (.slice sa ln cp)) r c (l.drop m) 0 ∧ Moves (fun b => b = r) w (w.setCell ⟨r, 0, none⟩ (.slice sa ln cp)) := by
  subst hln; subst hcp
  have := h.behind (e := 0) h1 h2 hl hm hs 0
  have e : w.drewN 0 = w := by unfold World.drewN; rfl
  rw [e] at this
  exact this

/-- nothing is left, as before -/
theorem Rd.behind0 {w : World} {r c : Nat} {v : Value} (h : Rd w r c [] 0) (h1 : RdC w r v 0) {sa : Option Addr} {cp : Nat} (h2 : sa = none → cp = 0) (h3 : (cp : Int) ≤ 9223372036854775807) :
    Rd (w.setCell ⟨r, 0, none⟩ (.slice sa 0 cp)) r c [] 0 ∧ Moves (fun b => b = r) w (w.setCell ⟨r, 0, none⟩ (.slice sa 0 cp)) := by
  have hm' : Moves (fun b => b = r) w (w.setCell ⟨r, 0, none⟩ (.slice sa 0 cp)) := Moves.setCell (F := fun b => b = r) (Moves.refl _ _) (fun _ => rfl) _
  exact ⟨⟨⟨_, heap_set h1 _, .inl ⟨_, _, rfl, rfl, h2, h3⟩, fun h => absurd rfl h⟩, fun h => absurd rfl h, by have := h.lt; simpa [World.setCell] using this, by simp⟩, hm'⟩

theorem sizeD_le {l : List UInt8} {most : Int} {n k : Nat} (h : sizeD l most = some (n, k)) : k ≤ l.length := by
  unfold sizeD at h
  cases hd : deco l with
  | none => rw [hd] at h; cases h
  | some p =>
    rw [hd] at h
    simp only [Option.bind_some] at h
    split at h
    · injection h with h
      subst h
      exact (deco_some hd).2.2.1
    · cases h

theorem dT_some {l : List UInt8} {most : Int} {n k : Nat} (h : sizeD l most = some (n, k)) (hn : n ≤ (l.drop k).length) : dT l most = some (.string ⟨((l.drop k).take n).toArray⟩, k + n) := by
  unfold dT textD
  rw [h]
  simp only [Option.bind_some]
  rw [if_pos hn]; rfl
theorem dT_none {l : List UInt8} {most : Int} (h : sizeD l most = none) : dT l most = none := by
  unfold dT textD; rw [h]; rfl
theorem dT_long {l : List UInt8} {most : Int} {n k : Nat} (h : sizeD l most = some (n, k)) (hn : (l.drop k).length < n) : dT l most = none := by
  unfold dT textD
  rw [h]
  simp only [Option.bind_some]
  rw [if_neg (by omega)]; rfl

set_option maxHeartbeats 2000000 in
set_option maxRecDepth 100000 in
theorem takeT_r {w : World} {r c : Nat} {l : List UInt8} (h : Rd w r c l 0) (most : Int) (hm1 : -9223372036854775808 ≤ most) (hm2 : most ≤ 9223372036854775807) :
    Calls Try.prog 45 #[.pointer (some ⟨r, 0, none⟩), .int .i64 most] w (TakeR w r c l (dT l most)) := by
  have HS := Lib.hid (takeS_any h most hm1 hm2)
  clear h hm1 hm2
  go_enter Try.func45, Try.ntmps45
  go_wp2_with fail
  refine HS.out.mono ?_
  rintro e w1 ⟨n, ok, hn, rfl, hm, h1, h2⟩
  have HM := Lib.hid hm; have HH1 := Lib.hid h1; have HH2 := Lib.hid h2
  clear hm h1 h2 HS
  cases ok with
  | false =>
    go_wp2
    go_ret2
    obtain ⟨hd, hx⟩ := HH2.out (by simp)
    exact ⟨_, _, rfl, HM.out, (fun h => by cases h), (fun _ => ⟨dT_none hd, hx⟩)⟩
  | true =>
    obtain ⟨k, hd, hr⟩ := HH1.out rfl
    have HD := Lib.hid hd; have HR := Lib.hid hr
    obtain ⟨ao, cap, g1, g2, g3⟩ := hr.form
    have c0 : w1.cell? ⟨r, 0, none⟩ = some (.slice ao (l.drop k).length cap) := cell_of g1 rfl
    have f0 : w1.frozen? ⟨r, 0, none⟩ = false := unfrozen_of g1
    have G1 := Lib.hid g1; have G2 := Lib.hid g2; have G3 := Lib.hid g3
    have hlen := hr.len
    obtain ⟨l1, hl1⟩ : ∃ l1, l.drop k = l1 := ⟨_, rfl⟩
    have HL1 := Lib.hid hl1
    obtain ⟨ln, hln⟩ : ∃ ln, (l.drop k).length = ln := ⟨_, rfl⟩
    have HLN := Lib.hid hln
    rw [hln] at c0 hlen
    clear HH1 HH2 hd hr g1 g2 g3 hl1 hln
    by_cases hgt : ln < n
    · go_wp2
      go_ret2
      exact ⟨_, _, rfl, HM.out, (fun h => by cases h), (fun _ => ⟨dT_long HD.out (by rw [HLN.out]; exact hgt), _, G1.out⟩)⟩
    · have hle : n ≤ ln := by omega
      have hconv := src_string (bs := (l.drop k).take n) (by rw [List.map_take]; exact G2.out.taken (m := n) (by rw [List.length_map, HLN.out]; exact hle))
      by_cases hnil : l.drop k = []
      · have hz : ln = 0 := by rw [← HLN.out, hnil]; rfl
        subst hz
        obtain rfl : n = 0 := by omega
        have hcz : (ao = none → cap = 0) ∧ (cap : Int) ≤ 9223372036854775807 := by
          rcases G2.out with ⟨ao', c', e, e2, h5, h6⟩ | ⟨b', off', c', hv, h1, h2, h3, h4⟩
          · injection e with e1 _ e3; subst e1; subst e3; exact ⟨h5, h6⟩
          · injection hv with e1 _ e3; subst e1; subst e3; exact ⟨(fun e => by cases e), h2⟩
        obtain ⟨hc1, hc2⟩ := hcz
        have HR0 : Hid (Rd w1 r c [] 0) := by have := HR.out; rw [hnil] at this; exact this
        have HC1 := Lib.hid hc1
        have HNIL := Lib.hid hnil
        have hs0 : ((l.drop k).take 0).toArray = #[] := by simp
        rw [hs0] at hconv
        have G10 : Hid (RdC w1 r (.slice ao 0 cap) 0) := by have := G1.out; rw [hnil] at this; exact this
        clear hs0 hnil hc1 hgt hle
        cases ao with
        | none =>
          obtain rfl := HC1.out rfl
          go_wp2
          go_ret2
          obtain ⟨q1, q2⟩ := HR0.out.behind0 G10.out (sa := none) (cp := 0) (fun _ => rfl) (by decide)
          refine ⟨_, _, rfl, HM.out.trans q2 (fun _ _ e => e), (fun _ => ⟨_, dT_some HD.out (Nat.zero_le _), ?_⟩), (fun h => by cases h)⟩
          rw [Nat.add_zero, HNIL.out]; exact q1
        | some a =>
          go_wp2
          all_goals
            go_ret2
            refine ⟨_, _, rfl, HM.out.trans (HR0.out.behind0 G10.out (fun e => by cases e) (by omega)).2 (fun _ _ e => e), (fun _ => ⟨_, dT_some HD.out (Nat.zero_le _), ?_⟩), (fun h => by cases h)⟩
            rw [Nat.add_zero, HNIL.out]
            exact (HR0.out.behind0 G10.out (fun e => by cases e) (by omega)).1
      · rcases G2.out with ⟨_, _, _, hx, _⟩ | ⟨b, off, cap', hv, q1, q2, q3, q4⟩
        · exact absurd (by simpa using hx) hnil
        · injection hv with e1 e2 e3
          subst e1; subst e3
          obtain rfl : b = c := G3.out hnil _ rfl
          have HNIL := Lib.hid hnil
          have hcap : ln ≤ cap := by rw [List.length_map, HLN.out] at q1; exact q1
          have H2 : Hid (Src w1 (.slice (some ⟨b, off, none⟩) (l.drop k).length cap) ((l.drop k).map bV)) := G2.out
          clear e2 q1 q3 q4 hnil
          have hnc : n ≤ cap := by omega
          go_wp2
          · go_ret2
            refine ⟨_, _, rfl, HM.out.trans (HR.out.behind1 G1.out H2.out HNIL.out (m := n) (by rw [HLN.out]; exact hle) (.inr ⟨rfl, by assumption⟩) (by rw [HLN.out]) (by omega)).2 (fun _ _ e => e), (fun _ => ⟨_, dT_some HD.out (by rw [HLN.out]; exact hle), ?_⟩), (fun h => by cases h)⟩
            rw [← List.drop_drop]
            exact (HR.out.behind1 G1.out H2.out HNIL.out (m := n) (by rw [HLN.out]; exact hle) (.inr ⟨rfl, by assumption⟩) (by rw [HLN.out]) (by omega)).1
          · go_ret2
            refine ⟨_, _, rfl, HM.out.trans (HR.out.behind1 G1.out H2.out HNIL.out (m := n) (by rw [HLN.out]; exact hle) (.inl rfl) (by rw [HLN.out]) (by omega)).2 (fun _ _ e => e), (fun _ => ⟨_, dT_some HD.out (by rw [HLN.out]; exact hle), ?_⟩), (fun h => by cases h)⟩
            rw [← List.drop_drop]
            exact (HR.out.behind1 G1.out H2.out HNIL.out (m := n) (by rw [HLN.out]; exact hle) (.inl rfl) (by rw [HLN.out]) (by omega)).1

end Go.Proofs.Ythepoplekabcoaa
