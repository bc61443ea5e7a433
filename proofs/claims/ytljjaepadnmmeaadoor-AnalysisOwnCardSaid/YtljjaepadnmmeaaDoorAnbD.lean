/- Stage 6, the program: the tests of runes, and the tokenizers that cut runs. -/
import Derived.Test.YtljjaepadnmmeaaDoorAnbC
import Derived.Test.YtljjaepadnmmeaaDoorFlpC
namespace Go.Proofs.YtljjaepadnmmeaaDoor
open Go.RowKit Go.Maps Fld Ana Go.Shelf
attribute [local go_sem] Oper.semAt_some

set_option maxHeartbeats 1000000 in
theorem solid_any (r : Nat) (w : World) : Calls Tryd.prog 37 #[.int .i32 (r : Int)] w (BoolPost w (mayN 2 r)) := by
  have HB := Lib.hid (fun W => blank_any (r : Int) W)
  have hm : mayN 2 r = !blankI (r : Int) := by unfold mayN mayI; rw [if_pos rfl]
  rw [hm]
  obtain ⟨q, hq⟩ : ∃ q, q = blankI (r : Int) := ⟨_, rfl⟩
  rw [← hq] at HB ⊢
  clear hq hm
  go_enter Tryd.func37, Tryd.ntmps37
  go_wp2_with fail
  refine (HB.out _).mono ?_
  rintro e w1 ⟨rfl, hb⟩
  go_wp2
  go_ret
  exact ⟨rfl, hb⟩
set_option maxHeartbeats 1000000 in
theorem let1_any (r : Nat) (hr : r ≤ 1114111) (w : World) : Calls Tryd.prog 52 #[.int .i32 (r : Int)] w (BoolPost w (wordI r)) := by
  have HL := Lib.hid (fun W => letter_any (r : Int) (by omega) (by omega) W)
  have HD := Lib.hid (fun W => digit_any (r : Int) (by omega) (by omega) W)
  have hm : wordI r = (letterI (r : Int) || digitI (r : Int)) := rfl
  rw [hm]
  obtain ⟨p, hp⟩ : ∃ q, q = letterI (r : Int) := ⟨_, rfl⟩
  obtain ⟨q, hq⟩ : ∃ q, q = digitI (r : Int) := ⟨_, rfl⟩
  rw [← hp] at HL ⊢
  rw [← hq] at HD ⊢
  clear hq hp hm hr
  go_enter Tryd.func52, Tryd.ntmps52
  cases p with
  | true =>
    go_wp2_with fail
    refine (HL.out _).mono ?_
    rintro e w1 ⟨rfl, hb⟩
    go_wp2
    go_ret
    exact ⟨rfl, hb⟩
  | false =>
    go_wp2_with fail
    refine (HL.out _).mono ?_
    rintro e w1 ⟨rfl, hb⟩
    go_wp2_with fail
    refine (HD.out _).mono ?_
    rintro e w2 ⟨rfl, hb2⟩
    go_wp2
    go_ret
    exact ⟨rfl, hb.trans hb2⟩
set_option maxHeartbeats 1000000 in
theorem let2_any (r : Nat) (hr : r ≤ 1114111) (b0 : Nat) (w : World) (hb0 : Boxed w b0 39 (.func (.func 52) #[] #[])) : Calls Tryd.prog 55 #[.int .i32 (r : Int), .pointer (some ⟨b0, 0, none⟩)] w (BoolPost w (mayN 1 r)) := by
  have HL := Lib.hid (fun W => let1_any r hr W)
  have HD := Lib.hid (fun W => mark_any (r : Int) (by omega) (by omega) W)
  have hm : mayN 1 r = (wordI (r : Int) || markI (r : Int)) := by unfold mayN mayI; rw [if_neg (by decide)]
  rw [hm]
  obtain ⟨p, hp⟩ : ∃ q, q = wordI (r : Int) := ⟨_, rfl⟩
  obtain ⟨q, hq⟩ : ∃ q, q = markI (r : Int) := ⟨_, rfl⟩
  rw [← hp] at HL ⊢
  rw [← hq] at HD ⊢
  have c0 := hb0.cell
  clear hq hp hm hr hb0
  go_enter Tryd.func55, Tryd.ntmps55
  cases p with
  | true =>
    go_wp2_with fail
    refine (HL.out _).mono ?_
    rintro e w1 ⟨rfl, hb⟩
    go_wp2
    go_ret
    exact ⟨rfl, hb⟩
  | false =>
    go_wp2_with fail
    refine (HL.out _).mono ?_
    rintro e w1 ⟨rfl, hb⟩
    go_wp2_with fail
    refine (HD.out _).mono ?_
    rintro e w2 ⟨rfl, hb2⟩
    go_wp2
    go_ret
    exact ⟨rfl, hb.trans hb2⟩
/-- the boxes of a closure that cuts runs of letters -/
def LetBox (W : World) (B1 B2 : Nat) : Prop := ∃ b0, Boxed W b0 39 (.func (.func 52) #[] #[]) ∧ Boxed W B1 39 (.func (.func 52) #[] #[]) ∧ Boxed W B2 39 (.func (.func 55) #[] #[.pointer (some ⟨b0, 0, none⟩)])
def SolBox (W : World) (B1 B2 : Nat) : Prop := Boxed W B1 39 (.func (.func 37) #[] #[]) ∧ Boxed W B2 39 (.func (.func 37) #[] #[])
theorem boxed_on {W W' : World} {b t : Nat} {v : Value} (h : Boxed W b t v) (hb : BW W W') : Boxed W' b t v := (hb.block b h.lt).trans h
theorem LetBox.bw {W W' : World} {B1 B2 : Nat} (h : LetBox W B1 B2) (hb : BW W W') : LetBox W' B1 B2 := by
  obtain ⟨b0, h0, h1, h2⟩ := h; exact ⟨b0, boxed_on h0 hb, boxed_on h1 hb, boxed_on h2 hb⟩
theorem SolBox.bw {W W' : World} {B1 B2 : Nat} (h : SolBox W B1 B2) (hb : BW W W') : SolBox W' B1 B2 := ⟨boxed_on h.1 hb, boxed_on h.2 hb⟩
set_option maxHeartbeats 1000000 in
theorem runs_any (f g : Nat) (lf lg : Array Value) (w : World) : Calls Tryd.prog 38 #[.func (.func f) #[] lf, .func (.func g) #[] lg] w fun e w' => e = .returned (.func (.func 57) #[] #[.pointer (some ⟨w.heap.size, 0, none⟩), .pointer (some ⟨w.heap.size + 1, 0, none⟩)]) ∧ BW w w' ∧ Boxed w' w.heap.size 39 (.func (.func f) #[] lf) ∧ Boxed w' (w.heap.size + 1) 39 (.func (.func g) #[] lg) := by
  have hmf : ∀ (fn : Fn) (first cap : Array Value) (w : World), (Instr.makeFunc fn first cap).run Tryd.prog w = .ok (.func fn first cap) w := fun _ _ _ _ => rfl
  have HE : Hid (BW w ((w.alloc (.cells #[.func (.func f) #[] lf] 39)).alloc (.cells #[.func (.func g) #[] lg] 39)) ∧ Boxed ((w.alloc (.cells #[.func (.func f) #[] lf] 39)).alloc (.cells #[.func (.func g) #[] lg] 39)) w.heap.size 39 (.func (.func f) #[] lf) ∧ Boxed ((w.alloc (.cells #[.func (.func f) #[] lf] 39)).alloc (.cells #[.func (.func g) #[] lg] 39)) (w.heap.size + 1) 39 (.func (.func g) #[] lg)) := by
    refine ⟨(bw_alloc w _).alloc _, (Boxed.new w _ _).alloc _, ?_⟩
    have := Boxed.new (w.alloc (.cells #[.func (.func f) #[] lf] 39)) 39 (.func (.func g) #[] lg)
    rw [World.size_alloc] at this; exact this
  go_enter Tryd.func38, Tryd.ntmps38
  go_wp2
  go_ret
  exact ⟨rfl, HE.out⟩
set_option maxHeartbeats 1000000 in
theorem letters_any (w : World) : Calls Tryd.prog 36 #[] w fun e w' => ∃ B1 B2, e = .returned (.func (.func 57) #[] #[.pointer (some ⟨B1, 0, none⟩), .pointer (some ⟨B2, 0, none⟩)]) ∧ BW w w' ∧ LetBox w' B1 B2 := by
  have hmf : ∀ (fn : Fn) (first cap : Array Value) (w : World), (Instr.makeFunc fn first cap).run Tryd.prog w = .ok (.func fn first cap) w := fun _ _ _ _ => rfl
  have HR := Lib.hid (fun f g lf lg W => runs_any f g lf lg W)
  have hsf : ∀ (a : Addr) (fn : Fn) (x y : Array Value) (W : World), (store a (.func fn x y)).run Tryd.prog W = stored Tryd.prog W a (.func fn x y) .plain := fun a fn x y W => run_store _ _ _ _ _ rfl
  have h0 := Boxed.new w 39 (.func (.func 52) #[] #[])
  have H0 := Lib.hid h0
  have c0 := h0.cell
  have HB : Hid (BW w (w.alloc (.cells #[.func (.func 52) #[] #[]] 39))) := bw_alloc w _
  clear h0
  go_enter Tryd.func36, Tryd.ntmps36
  go_wp2_with fail
  refine (HR.out _ _ _ _ _).mono ?_
  rintro e w1 ⟨rfl, hb, h1, h2⟩
  rw [World.size_alloc] at h1 h2
  go_wp2
  go_ret
  exact ⟨_, _, rfl, HB.out.trans hb, _, boxed_on H0.out hb, h1, h2⟩
/-- a tokenizer's closure: told of a text and of where to put, it puts what the document cuts -/
def CutOk (w : World) (cf : Nat) (lbc : Array Value) (n : Nat) : Prop :=
  ∀ (w0 W : World) (tb ob : Nat) (l : List UInt8), BW w w0 → w0.heap.size ≤ ob → l.length ≤ 4096 → CutJ w0 tb ob l [] W →
    Calls Tryd.prog cf (#[textV l, .func (.func 35) #[] #[.pointer (some ⟨ob, 0, none⟩), .pointer (some ⟨tb, 0, none⟩)]] ++ lbc) W fun e W' => (∃ v, e = .returned v) ∧ CutJ w0 tb ob l ((Ana.cut n (runesOf l)).map (byPlace l)) W'
end Go.Proofs.YtljjaepadnmmeaaDoor
