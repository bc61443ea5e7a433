/- read, for each kind of answer. -/
import Derived.Test.YtdoliejihinpkaaCodF
namespace Go.Proofs.Ytdoliejihinpkaa
open Go.RowKit Go.Maps

def ReadG (w : World) (r c : Nat) (l : List UInt8) (z : Value) (Q : World → Value → Nat → Prop) (N : Prop) (e : Ending) (w' : World) : Prop :=
  ∃ v, e = .returned v ∧ Moves (fun b => b = r) w w' ∧ ((∃ k, Q w' v k ∧ Rd w' r c (l.drop k) 0) ∨ (N ∧ v = z ∧ Rd w' r c l 20))

/-- put back to where it was -/
theorem Rd.back {w w1 : World} {r c : Nat} {l : List UInt8} {x : Value} {ao : Option Addr} {cap : Nat} (h : Rd w r c l 0) (g1 : RdC w r (.slice ao l.length cap) 0) (g2 : Src w (.slice ao l.length cap) (l.map bV)) (g3 : l ≠ [] → ∀ a, ao = some a → a.block = c)
    (hm : Moves (fun b => b = r) w w1) (hx : RdC w1 r x 0) {ln : Nat} (hln : l.length = ln) :
    Rd ((w1.setCell ⟨r, 0, none⟩ (.slice ao ln cap)).setCell ⟨r, 1, none⟩ (.int .i64 20)) r c l 20 ∧ Moves (fun b => b = r) w ((w1.setCell ⟨r, 0, none⟩ (.slice ao ln cap)).setCell ⟨r, 1, none⟩ (.int .i64 20)) := by
  subst hln
  have hm' : Moves (fun b => b = r) w ((w1.setCell ⟨r, 0, none⟩ (.slice ao l.length cap)).setCell ⟨r, 1, none⟩ (.int .i64 20)) := Moves.setCell (F := fun b => b = r) (Moves.setCell (F := fun b => b = r) hm (fun _ => rfl) _) (fun _ => rfl) _
  have h1 : (w1.setCell ⟨r, 0, none⟩ (.slice ao l.length cap)).heap[r]? = some (.cells #[.slice ao l.length cap, .int .i64 0] 83 (0, 0)) := heap_set hx _
  have h2 : RdC ((w1.setCell ⟨r, 0, none⟩ (.slice ao l.length cap)).setCell ⟨r, 1, none⟩ (.int .i64 20)) r (.slice ao l.length cap) 20 := heap_set h1 _
  refine ⟨⟨⟨_, h2, g2.keep hm'.size ?_, ?_⟩, h.ne, Nat.lt_of_lt_of_le h.lt hm'.size, h.len⟩, hm'⟩
  · intro hne a n k e
    have hl : l ≠ [] := by rintro rfl; exact hne rfl
    cases e
    have hb := g3 hl a rfl
    exact hm'.block _ (by rw [hb]; exact h.lt) (by rw [hb]; exact fun e => h.ne hl e.symm)
  · intro hl a n k e
    cases e
    exact g3 hl a rfl

set_option maxHeartbeats 1000000 in
theorem read_I {w : World} {r c : Nat} {l : List UInt8} {Q : World → Value → Nat → Prop} {N : Prop} (h : Rd w r c l 0) (hc : Calls Try.prog 61 #[.pointer (some ⟨r, 0, none⟩)] w (TakeG w r c l Q N)) :
    Calls Try.prog 60 #[.pointer (some ⟨r, 0, none⟩), .func (.func 61) #[.pointer (some ⟨r, 0, none⟩)] #[]] w (ReadG w r c l (.int .i64 0) Q N) := by
  obtain ⟨ao, cap, g1, g2, g3⟩ := h.form
  have c0 : w.cell? ⟨r, 0, none⟩ = some (.slice ao l.length cap) := cell_of g1 rfl
  have H := Lib.hid h
  have G1 := Lib.hid g1; have G2 := Lib.hid g2; have G3 := Lib.hid g3; have HC := Lib.hid hc
  obtain ⟨ln, hln⟩ : ∃ ln, l.length = ln := ⟨_, rfl⟩
  have HLN := Lib.hid hln
  rw [hln] at c0
  clear h g1 g2 g3 hc hln
  go_enter Try.func60, Try.ntmps60
  go_wp2_with fail
  refine (err_c G1.out).mono ?_
  rintro e w' ⟨rfl, rfl⟩
  go_wp2_with fail
  refine HC.out.mono ?_
  rintro e w1 ⟨v, ok, rfl, hm, h1, h2⟩
  have HM := Lib.hid hm; have HH1 := Lib.hid h1; have HH2 := Lib.hid h2
  clear hm h1 h2 HC c0
  cases ok with
  | true =>
    go_wp2
    go_ret
    exact ⟨_, rfl, HM.out, .inl (HH1.out (by simp))⟩
  | false =>
    obtain ⟨hN, x, hx⟩ := HH2.out rfl
    have HX := Lib.hid hx; have HNN := Lib.hid hN
    have d0 : w1.cell? ⟨r, 0, none⟩ = some x := cell_of hx rfl
    have d1 : w1.cell? ⟨r, 1, none⟩ = some (.int .i64 0) := cell_of hx rfl
    have f0 : w1.frozen? ⟨r, 0, none⟩ = false := unfrozen_of hx
    have f1 : w1.frozen? ⟨r, 1, none⟩ = false := unfrozen_of hx
    clear hx hN HH1 HH2
    go_wp2
    go_ret
    exact ⟨_, rfl, (H.out.back G1.out G2.out G3.out HM.out HX.out HLN.out).2, .inr ⟨HNN.out, rfl, (H.out.back G1.out G2.out G3.out HM.out HX.out HLN.out).1⟩⟩
set_option maxHeartbeats 1000000 in
theorem read_I_bad {w : World} {r : Nat} {v fv : Value} {e : Int} (h : RdC w r v e) (he : (e != 0) = true) :
    Calls Try.prog 60 #[.pointer (some ⟨r, 0, none⟩), fv] w fun en w' => en = .returned (.int .i64 0) ∧ w = w' := by
  have H := Lib.hid h
  clear h
  go_enter Try.func60, Try.ntmps60
  go_wp2_with fail
  refine (err_c H.out).mono ?_
  rintro en w' ⟨rfl, rfl⟩
  go_wp2
  go_ret
  exact ⟨rfl, rfl⟩
set_option maxHeartbeats 1000000 in
theorem read_I_nil {w : World} {fv : Value} :
    Calls Try.prog 60 #[.pointer none, fv] w fun en w' => en = .returned (.int .i64 0) ∧ w = w' := by
  go_enter Try.func60, Try.ntmps60
  go_wp2_with fail
  refine (err_nil _).mono ?_
  rintro en w' ⟨rfl, rfl⟩
  go_wp2
  go_ret
  exact ⟨rfl, rfl⟩

set_option maxHeartbeats 1000000 in
theorem read_B {w : World} {r c : Nat} {l : List UInt8} {Q : World → Value → Nat → Prop} {N : Prop} (h : Rd w r c l 0) {b4 b5 : Nat} (hc : Calls Try.prog 69 #[.pointer (some ⟨b4, 0, none⟩), .pointer (some ⟨b5, 0, none⟩)] w (TakeG w r c l Q N)) :
    Calls Try.prog 68 #[.pointer (some ⟨r, 0, none⟩), .func (.func 69) #[] #[.pointer (some ⟨b4, 0, none⟩), .pointer (some ⟨b5, 0, none⟩)]] w (ReadG w r c l (.slice none 0 0) Q N) := by
  obtain ⟨ao, cap, g1, g2, g3⟩ := h.form
  have c0 : w.cell? ⟨r, 0, none⟩ = some (.slice ao l.length cap) := cell_of g1 rfl
  have H := Lib.hid h
  have G1 := Lib.hid g1; have G2 := Lib.hid g2; have G3 := Lib.hid g3; have HC := Lib.hid hc
  obtain ⟨ln, hln⟩ : ∃ ln, l.length = ln := ⟨_, rfl⟩
  have HLN := Lib.hid hln
  rw [hln] at c0
  clear h g1 g2 g3 hc hln
  go_enter Try.func68, Try.ntmps68
  go_wp2_with fail
  refine (err_c G1.out).mono ?_
  rintro e w' ⟨rfl, rfl⟩
  go_wp2_with fail
  refine HC.out.mono ?_
  rintro e w1 ⟨v, ok, rfl, hm, h1, h2⟩
  have HM := Lib.hid hm; have HH1 := Lib.hid h1; have HH2 := Lib.hid h2
  clear hm h1 h2 HC c0
  cases ok with
  | true =>
    go_wp2
    go_ret
    exact ⟨_, rfl, HM.out, .inl (HH1.out (by simp))⟩
  | false =>
    obtain ⟨hN, x, hx⟩ := HH2.out rfl
    have HX := Lib.hid hx; have HNN := Lib.hid hN
    have d0 : w1.cell? ⟨r, 0, none⟩ = some x := cell_of hx rfl
    have d1 : w1.cell? ⟨r, 1, none⟩ = some (.int .i64 0) := cell_of hx rfl
    have f0 : w1.frozen? ⟨r, 0, none⟩ = false := unfrozen_of hx
    have f1 : w1.frozen? ⟨r, 1, none⟩ = false := unfrozen_of hx
    clear hx hN HH1 HH2
    go_wp2
    go_ret
    exact ⟨_, rfl, (H.out.back G1.out G2.out G3.out HM.out HX.out HLN.out).2, .inr ⟨HNN.out, rfl, (H.out.back G1.out G2.out G3.out HM.out HX.out HLN.out).1⟩⟩
set_option maxHeartbeats 1000000 in
theorem read_B_bad {w : World} {r : Nat} {v fv : Value} {e : Int} (h : RdC w r v e) (he : (e != 0) = true) :
    Calls Try.prog 68 #[.pointer (some ⟨r, 0, none⟩), fv] w fun en w' => en = .returned (.slice none 0 0) ∧ w = w' := by
  have H := Lib.hid h
  clear h
  go_enter Try.func68, Try.ntmps68
  go_wp2_with fail
  refine (err_c H.out).mono ?_
  rintro en w' ⟨rfl, rfl⟩
  go_wp2
  go_ret
  exact ⟨rfl, rfl⟩
set_option maxHeartbeats 1000000 in
theorem read_B_nil {w : World} {fv : Value} :
    Calls Try.prog 68 #[.pointer none, fv] w fun en w' => en = .returned (.slice none 0 0) ∧ w = w' := by
  go_enter Try.func68, Try.ntmps68
  go_wp2_with fail
  refine (err_nil _).mono ?_
  rintro en w' ⟨rfl, rfl⟩
  go_wp2
  go_ret
  exact ⟨rfl, rfl⟩

end Go.Proofs.Ytdoliejihinpkaa
