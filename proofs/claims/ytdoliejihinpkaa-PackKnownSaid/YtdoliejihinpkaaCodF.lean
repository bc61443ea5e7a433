/- takeBytes; what a call that takes does, in one form. -/
import Derived.Test.YtdoliejihinpkaaCodE
namespace Go.Proofs.Ytdoliejihinpkaa
open Go.RowKit Go.Maps

def TakeG (w : World) (r c : Nat) (l : List UInt8) (Q : World → Value → Nat → Prop) (N : Prop) (e : Ending) (w' : World) : Prop :=
  ∃ (v : Value) (ok : Bool), e = .returned (.tuple #[v, .bool ok]) ∧ Moves (fun b => b = r) w w' ∧ (ok = true → ∃ k, Q w' v k ∧ Rd w' r c (l.drop k) 0) ∧ (ok = false → N ∧ ∃ x, RdC w' r x 0)
def QD (D : Option (Value × Nat)) (_ : World) (v : Value) (k : Nat) : Prop := D = some (v, k)
theorem takeG_of {w w' : World} {r c : Nat} {l : List UInt8} {D : Option (Value × Nat)} {e : Ending} (h : TakeR w r c l D e w') : TakeG w r c l (QD D) (D = none) e w' := h

def BytesOk (l : List UInt8) (n : Int) : Prop := 0 ≤ n ∧ n ≤ (l.length : Int)
def QB (w : World) (l : List UInt8) (n : Int) (w' : World) (v : Value) (k : Nat) : Prop := BytesOk l n ∧ (k : Int) = n ∧ w'.ownsRow w.heap.size 5 1 v k ((l.take k).map bV)

theorem Rd.below {w w' : World} {r c : Nat} {l : List UInt8} {e : Int} (h : Rd w r c l e) (hb : BW w w') : Rd w' r c l e :=
  h.keep hb.size (hb.block r h.ltr) (fun hc => hb.block c hc)
theorem rdc_below {w w' : World} {r : Nat} {v : Value} {e : Int} (h : RdC w r v e) (hb : BW w w') : RdC w' r v e := (hb.block r (lt_of_heap h)).trans h

theorem row_set {w w2 : World} {n r : Nat} {v u : Value} {xs : List Value} (h : w2.ownsRow w.heap.size 5 1 v n xs) (hr : r < w.heap.size) : (w2.setCell ⟨r, 0, none⟩ u).ownsRow w.heap.size 5 1 v n xs :=
  row_keep h fun a n c e => Below.heap_setCell _ _ _ _ (by have := row_base' h a n c e; intro e2; rw [e2] at this; exact absurd hr (Nat.not_lt.2 this))

set_option maxHeartbeats 2000000 in
set_option maxRecDepth 100000 in
theorem takeB_r {w : World} {r c : Nat} {l : List UInt8} (h : Rd w r c l 0) (n : Int) (hm1 : -9223372036854775808 ≤ n) (hm2 : n ≤ 9223372036854775807) :
    Calls Try.prog 63 #[.pointer (some ⟨r, 0, none⟩), .int .i64 n] w (TakeG w r c l (QB w l n) (¬ BytesOk l n)) := by
  obtain ⟨ao, cap, g1, g2, g3⟩ := h.form
  have c0 : w.cell? ⟨r, 0, none⟩ = some (.slice ao l.length cap) := cell_of g1 rfl
  have f0 : w.frozen? ⟨r, 0, none⟩ = false := unfrozen_of g1
  have hlen := h.len
  have H := Lib.hid h
  have G1 := Lib.hid g1; have G2 := Lib.hid g2; have G3 := Lib.hid g3
  have HLT := Lib.hid h.ltr
  obtain ⟨ln, hln⟩ : ∃ ln, l.length = ln := ⟨_, rfl⟩
  have HLN := Lib.hid hln
  rw [hln] at c0 hlen
  clear h g1 g2 g3 hln
  by_cases hc : 0 ≤ n ∧ n ≤ (ln : Int)
  · obtain ⟨ha, hb⟩ := hc
    obtain ⟨m, rfl⟩ := Int.eq_ofNat_of_zero_le ha
    have hml : m ≤ ln := by omega
    have HOK : Hid (BytesOk l (m : Int)) := ⟨ha, by rw [HLN.out]; exact hb⟩
    have hsrc : Src w (.slice ao m cap) ((l.take m).map bV) := by rw [List.map_take]; exact G2.out.taken (by rw [List.length_map, HLN.out]; exact hml)
    have hm64 : ((l.take m).length : Int) ≤ 140737488351232 := by rw [List.length_take, HLN.out]; omega
    have HCL := Lib.hid (cloneb_any hsrc hm64)
    have HTL : Hid ((l.take m).length = m) := by unfold Hid; rw [List.length_take, HLN.out]; omega
    clear hsrc hm64 hm1 hm2 ha hb
    by_cases hnil : l = []
    · have hz : ln = 0 := by rw [← HLN.out, hnil]; rfl
      subst hz
      obtain rfl : m = 0 := by omega
      have hcz : (ao = none → cap = 0) ∧ (cap : Int) ≤ 9223372036854775807 := by
        rcases G2.out with ⟨ao', c', e, e2, h5, h6⟩ | ⟨b', off', c', hv, h1, h2, h3, h4⟩
        · injection e with e1 _ e3; subst e1; subst e3; exact ⟨h5, h6⟩
        · injection hv with e1 _ e3; subst e1; subst e3; exact ⟨(fun e => by cases e), h2⟩
      obtain ⟨hc1, hc2⟩ := hcz
      subst hnil
      have HC1 := Lib.hid hc1
      clear hc1
      cases ao with
      | none =>
        obtain rfl := HC1.out rfl
        go_enter Try.func63, Try.ntmps63
        go_wp2_with fail
        refine HCL.out.mono ?_
        rintro e w2 ⟨v, rfl, hrow, hbl⟩
        have HROW := Lib.hid hrow; have HBL := Lib.hid hbl
        have d0 : w2.cell? ⟨r, 0, none⟩ = some (.slice none 0 0) := cell_of (rdc_below G1.out hbl) rfl
        have e0 : w2.frozen? ⟨r, 0, none⟩ = false := unfrozen_of (rdc_below G1.out hbl)
        clear hrow hbl c0 f0
        go_wp2
        go_ret2
        obtain ⟨q1, q2⟩ := (H.out.below HBL.out).behind0 (rdc_below G1.out HBL.out) (sa := none) (cp := 0) (fun _ => rfl) (by decide)
        exact ⟨_, _, rfl, (Moves.of_below HBL.out _).trans q2 (fun _ _ e => e), (fun _ => ⟨0, ⟨HOK.out, rfl, row_set HROW.out HLT.out⟩, q1⟩), (fun h => by cases h)⟩
      | some a =>
        go_enter Try.func63, Try.ntmps63
        go_wp2_with fail
        refine HCL.out.mono ?_
        rintro e w2 ⟨v, rfl, hrow, hbl⟩
        have HROW := Lib.hid hrow; have HBL := Lib.hid hbl
        have d0 : w2.cell? ⟨r, 0, none⟩ = some (.slice (some a) 0 cap) := cell_of (rdc_below G1.out hbl) rfl
        have e0 : w2.frozen? ⟨r, 0, none⟩ = false := unfrozen_of (rdc_below G1.out hbl)
        clear hrow hbl c0 f0
        go_wp2
        all_goals
          go_ret2
          have q := fun x hx => (H.out.below HBL.out).behind0 (rdc_below G1.out HBL.out) (sa := some x) (cp := cap) (fun e => by cases e) hx
          exact ⟨_, _, rfl, (Moves.of_below HBL.out _).trans (q _ (by omega)).2 (fun _ _ e => e), (fun _ => ⟨0, ⟨HOK.out, rfl, row_set HROW.out HLT.out⟩, (q _ (by omega)).1⟩), (fun h => by cases h)⟩
    · rcases G2.out with ⟨_, _, _, hx, _⟩ | ⟨b, off, cap', hv, q1, q2, q3, q4⟩
      · exact absurd (by simpa using hx) hnil
      · injection hv with e1 e2 e3
        subst e1; subst e3
        obtain rfl : b = c := G3.out hnil _ rfl
        have HNIL := Lib.hid hnil
        have hcap : ln ≤ cap := by rw [List.length_map, HLN.out] at q1; exact q1
        clear e2 q1 q3 q4 hnil
        have hnc : m ≤ cap := by omega
        go_enter Try.func63, Try.ntmps63
        go_wp2_with fail
        refine HCL.out.mono ?_
        rintro e w2 ⟨v, rfl, hrow, hbl⟩
        rw [HTL.out] at hrow
        have HROW := Lib.hid hrow; have HBL := Lib.hid hbl
        have d0 : w2.cell? ⟨r, 0, none⟩ = some (.slice (some ⟨b, off, none⟩) ln cap) := by rw [← HLN.out]; exact cell_of (rdc_below G1.out hbl) rfl
        have e0 : w2.frozen? ⟨r, 0, none⟩ = false := unfrozen_of (rdc_below G1.out hbl)
        have Q : ∀ (sa : Option Addr) (l1 cp : Nat), (sa = some ⟨b, off + m, none⟩ ∨ (sa = some ⟨b, off, none⟩ ∧ cap = m)) → l1 = ln - m → cp = cap - m → _ := fun sa l1 cp hs h1 h2 => (H.out.below hbl).behind1 (rdc_below G1.out hbl) (G2.out.below hbl) HNIL.out (m := m) (by rw [HLN.out]; exact hml) hs (ln := l1) (cp := cp) (by rw [HLN.out]; exact h1) h2
        have HQ := Lib.hid Q
        clear hrow hbl c0 f0 Q
        go_wp2
        · go_ret2
          exact ⟨_, _, rfl, (Moves.of_below HBL.out _).trans (HQ.out _ _ _ (.inr ⟨rfl, by assumption⟩) rfl (by omega)).2 (fun _ _ e => e), (fun _ => ⟨m, ⟨HOK.out, rfl, row_set HROW.out HLT.out⟩, (HQ.out _ _ _ (.inr ⟨rfl, by assumption⟩) rfl (by omega)).1⟩), (fun h => by cases h)⟩
        · go_ret2
          exact ⟨_, _, rfl, (Moves.of_below HBL.out _).trans (HQ.out _ _ _ (.inl rfl) rfl (by omega)).2 (fun _ _ e => e), (fun _ => ⟨m, ⟨HOK.out, rfl, row_set HROW.out HLT.out⟩, (HQ.out _ _ _ (.inl rfl) rfl (by omega)).1⟩), (fun h => by cases h)⟩
  · have HNO : Hid (¬ BytesOk l n) := by unfold Hid BytesOk; rw [HLN.out]; exact hc
    by_cases ha : 0 ≤ n
    · have hb : (ln : Int) < n := by omega
      clear hc
      go_enter Try.func63, Try.ntmps63
      go_wp2
      go_ret2
      exact ⟨_, _, rfl, Moves.refl _ _, (fun h => by cases h), (fun _ => ⟨HNO.out, _, G1.out⟩)⟩
    · clear hc
      go_wp2
      go_ret2
      exact ⟨_, _, rfl, Moves.refl _ _, (fun h => by cases h), (fun _ => ⟨HNO.out, _, G1.out⟩)⟩

end Go.Proofs.Ytdoliejihinpkaa
