/- A directory that keeps its hands off other blocks; the calls in these words; first. -/
import Derived.Test.YtjiklpoggpdngaaVfsY
namespace Go.Proofs.Ytjiklpoggpdngaa
open Go.RowKit Go.Maps Go.Sort

/-- DIRECTORY d IS IN STATE S, AND THE BLOCKS PB ARE AS THEY WERE IN wP AND NOT ITS OWN -/
structure Holds (PB : Nat → Prop) (wP w : World) (d : Nat) (S : DS) : Prop where
  ex : ∃ g, Rep w d g S ∧ ∀ b, PB b → g.role b = .no
  os : w.os = wP.os
  tape : w.tape = wP.tape
  output : w.output = wP.output
  size : wP.heap.size ≤ w.heap.size
  lt : ∀ b, PB b → b < wP.heap.size
  same : ∀ b, PB b → w.heap[b]? = wP.heap[b]?

theorem Holds.step {PB : Nat → Prop} {wP w w' : World} {d : Nat} {S S' : DS} {g : Gh} (h : Holds PB wP w d S) (hg : ∀ b, PB b → g.role b = .no) (hs : Step w w' d g S') : Holds PB wP w' d S' := by
  obtain ⟨g', h1, h2, h3⟩ := hs
  refine ⟨⟨g', h1, fun b hb => ?_⟩, h3.os.trans h.os, h3.tape.trans h.tape, h3.output.trans h.output, Nat.le_trans h.size h3.size, h.lt, fun b hb => ?_⟩
  · rw [h2 b (Nat.lt_of_lt_of_le (h.lt b hb) h.size)]; exact hg b hb
  · rw [h3.block b (Nat.lt_of_lt_of_le (h.lt b hb) h.size) (fun e => e (hg b hb))]; exact h.same b hb
theorem Holds.moved {PB : Nat → Prop} {wP w w' : World} {d : Nat} {S : DS} (h : Holds PB wP w d S) (hb : RowKit.Below w.heap.size w w') : Holds PB wP w' d S := by
  obtain ⟨g, hr, hg⟩ := h.ex
  refine ⟨⟨g, hr.frame hb.size (fun b e => hb.block b (hr.lt b e)), hg⟩, hb.os.trans h.os, hb.tape.trans h.tape, hb.output.trans h.output, Nat.le_trans h.size hb.size, h.lt, fun b e => ?_⟩
  rw [hb.block b (Nat.lt_of_lt_of_le (h.lt b e) h.size)]; exact h.same b e
theorem Holds.below {PB : Nat → Prop} {wP w : World} {d : Nat} {S : DS} (h : Holds PB wP w d S) {B : Nat} (hB : ∀ b, b < B → PB b) : RowKit.Below B wP w := ⟨h.os, h.tape, h.output, h.size, fun k hk => h.same k (hB k hk)⟩
theorem Holds.weaken {PB PB' : Nat → Prop} {wP w : World} {d : Nat} {S : DS} (h : Holds PB wP w d S) (hb : ∀ b, PB' b → PB b) : Holds PB' wP w d S := by
  obtain ⟨g, hr, hg⟩ := h.ex
  exact ⟨⟨g, hr, fun b e => hg b (hb b e)⟩, h.os, h.tape, h.output, h.size, fun b e => h.lt b (hb b e), fun b e => h.same b (hb b e)⟩

def HPost (PB : Nat → Prop) (wP : World) (d : Nat) (r : Int) (S' : DS) (e : Ending) (w' : World) : Prop := e = .returned (.int .i64 r) ∧ Holds PB wP w' d S'

theorem hpost {PB : Nat → Prop} {wP w : World} {d : Nat} {S : DS} (h : Holds PB wP w d S) {f : Nat} {args : Array Value} {R : Int × DS} (hc : ∀ g, Rep w d g S → Calls Try.prog f args w (MPost w d g R.1 R.2)) : Calls Try.prog f args w (HPost PB wP d R.1 R.2) := by
  obtain ⟨g, hr, hg⟩ := h.ex
  exact (hc g hr).mono fun e w' ⟨h1, h2⟩ => ⟨h1, h.step hg h2⟩

theorem sync_h {PB : Nat → Prop} {wP w : World} {d : Nat} {S : DS} (h : Holds PB wP w d S) (hc : Sm S) (s : ByteArray) (hs : s.size ≤ maxLen) : Calls Try.prog 36 #[ptr d, .string s] w (HPost PB wP d (opSync S s.data.toList).1 (opSync S s.data.toList).2) := hpost h fun g hr => sync_any hr hc s hs
theorem delete_h {PB : Nat → Prop} {wP w : World} {d : Nat} {S : DS} (h : Holds PB wP w d S) (hc : Sm S) (s : ByteArray) (hs : s.size ≤ maxLen) : Calls Try.prog 33 #[ptr d, .string s] w (HPost PB wP d (opDelete S s.data.toList).1 (opDelete S s.data.toList).2) := hpost h fun g hr => delete_any hr hc s hs
theorem rename_h {PB : Nat → Prop} {wP w : World} {d : Nat} {S : DS} (h : Holds PB wP w d S) (hc : Sm S) (s t : ByteArray) (hs : s.size ≤ maxLen) (ht : t.size ≤ maxLen) : Calls Try.prog 30 #[ptr d, .string s, .string t] w (HPost PB wP d (opRename S s.data.toList t.data.toList).1 (opRename S s.data.toList t.data.toList).2) := hpost h fun g hr => rename_any hr hc s t hs ht
theorem syncdir_h {PB : Nat → Prop} {wP w : World} {d : Nat} {S : DS} (h : Holds PB wP w d S) (hc : Sm S) : Calls Try.prog 29 #[ptr d] w (HPost PB wP d (opSyncDir S).1 (opSyncDir S).2) := hpost h fun g hr => syncdir_any hr hc

/-- a slice of bytes that is not the directory's -/
theorem src_bytes {w : World} {v : Value} {bs : List UInt8} (h : Src w v (bs.map bV)) : ByteSrc w v bs := by
  rcases h with ⟨ao, c, e, e2, h5, h6⟩ | ⟨b, off, c, hv, h1, h2, h3, h4⟩
  · have e3 : bs = [] := by simpa using e2
    subst e3
    cases ao with
    | none => left; rw [e, h5 rfl]; exact ⟨rfl, rfl⟩
    | some a => exact .inr ⟨a, c, e, Nat.zero_le _, by unfold maxLen; omega, fun j u hu => by simp at hu⟩
  · rw [List.length_map] at hv h1
    refine .inr ⟨_, c, hv, h1, by unfold maxLen; omega, fun j u hu => ?_⟩
    rw [show (⟨b, off, none⟩ : Addr).add j = ⟨b, off + j, none⟩ by unfold Addr.add; by_cases e : j = 0 <;> simp [e]]
    exact h4 j u hu
theorem Src.lt {w : World} {v : Value} {xs : List Value} (h : Src w v xs) (hne : xs ≠ []) : ∀ a n c, v = .slice (some a) n c → a.block < w.heap.size := by
  intro a n c e
  rcases h with ⟨_, _, _, h, _⟩ | ⟨b, off, cap, hv, h1, h2, h3, h4⟩
  · exact absurd h hne
  · rw [hv] at e; cases e; exact h3

theorem append_h {PB : Nat → Prop} {wP w : World} {d : Nat} {S : DS} (h : Holds PB wP w d S) (hc : Sm S) (s : ByteArray) (hs : s.size ≤ maxLen) {b : Value} {bs : List UInt8} (hb : Src w b (bs.map bV)) (hbs : (bs.length : Int) ≤ 140737488351232) (hne : bs ≠ [] → ∀ a n c, b = .slice (some a) n c → a.block ≠ d) :
    Calls Try.prog 32 #[ptr d, .string s, b] w (HPost PB wP d (opAppend S s.data.toList bs).1 (opAppend S s.data.toList bs).2) :=
  hpost h fun g hr => append_any hr hc s hs b bs (src_bytes hb) hbs fun h0 a n c e => ⟨hb.lt (by simpa using h0) a n c e, hne h0 a n c e⟩

/-- Create's new file has a block that was not there -/
def HCPost (PB : Nat → Prop) (wP w : World) (d : Nat) (S : DS) (n : Nm) (e : Ending) (w' : World) : Prop :=
  ∃ f, w.heap.size ≤ f ∧ e = .returned (.int .i64 (opCreate S n f).1) ∧ Holds PB wP w' d (opCreate S n f).2
theorem create_h {PB : Nat → Prop} {wP w : World} {d : Nat} {S : DS} (h : Holds PB wP w d S) (hc : Sm S) (s : ByteArray) (hs : s.size ≤ maxLen) : Calls Try.prog 28 #[ptr d, .string s] w (HCPost PB wP w d S s.data.toList) := by
  obtain ⟨g, hr, hg⟩ := h.ex
  exact (create_any hr hc s hs).mono fun e w' ⟨f, h1, h2, h3⟩ => ⟨f, h1, h2, h.step hg h3⟩

/-- a new directory -/
def HNew (w : World) (e : Ending) (w' : World) : Prop := ∃ d, e = .returned (ptr d) ∧ w.heap.size ≤ d ∧ Holds (fun b => b < w.heap.size) w w' d DS0
theorem new_h (w : World) : Calls Try.prog 9 #[] w (HNew w) := by
  refine (new_any w).mono ?_
  rintro e w' ⟨d, g, he, hr, hb, hn⟩
  refine ⟨d, he, hn d (by rw [hr.rd]; simp), ⟨g, hr, fun b hb => ?_⟩, hb.os, hb.tape, hb.output, hb.size, fun b h => h, fun b h => hb.block b h⟩
  apply Classical.byContradiction
  intro e
  have := hn b e
  omega

/-- neither halted nor asked to fail -/
def Calm (S : DS) : Prop := S.asked = false ∧ S.fl = 0
theorem begR_calm {S : DS} (h : Calm S) (good : Bool) : begR S good = (if good then 0 else 1, false) := by
  unfold begR
  rw [if_neg (by simp [h.1]), if_neg (by simp [h.2])]
  cases good <;> rfl
theorem calm_beg {S : DS} (h : Calm S) : Calm (begS S) := ⟨h.1, by simp [begS, h.2]⟩
theorem calm_not_halted {S : DS} (h : Calm S) : halted S = false := by unfold halted; rw [h.1]; rfl

/-- the chapter's first calls -/
def FirstS (sync : Bool) (S : DS) : Prop :=
  ∃ f, S.now = [([97], f)] ∧ S.fs f = ([1, 2, 3], 2) ∧ Calm S ∧ Sm S ∧ S.dur = (if sync then [([97], f)] else []) ∧ S.chg = (if sync then [] else [.put [97] f])

def FirstPost (sync : Bool) (w : World) (e : Ending) (w' : World) : Prop := ∃ d S, e = .returned (ptr d) ∧ w.heap.size ≤ d ∧ Holds (fun b => b < w.heap.size) w w' d S ∧ FirstS sync S

def st1 (f : Nat) : DS := { DS0 with now := [([97], f)], chg := [.put [97] f], calls := 1, bd := 1, fs := upd DS0.fs f ([], 0) }
theorem op1 (f : Nat) : opCreate DS0 [97] f = (0, st1 f) := by
  unfold opCreate
  rw [begR_calm ⟨rfl, rfl⟩]
  rfl
def st2 (f : Nat) : DS := { st1 f with calls := 2, bd := 2, fs := upd (st1 f).fs f ([1, 2], 0) }
theorem op2 (f : Nat) : opAppend (st1 f) [97] [1, 2] = (0, st2 f) := by
  have h := begR_calm (S := st1 f) ⟨rfl, rfl⟩ (goodNm [97])
  unfold opAppend
  rw [h]
  simp [st1, st2, opPut, begS, DS0, aget, upd_same, show goodNm [97] = true from rfl]
def st3 (f : Nat) : DS := { st2 f with calls := 3, bd := 3, fs := upd (st2 f).fs f ([1, 2], 2) }
theorem op3 (f : Nat) : opSync (st2 f) [97] = (0, st3 f) := by
  have h := begR_calm (S := st2 f) ⟨rfl, rfl⟩ (goodNm [97])
  unfold opSync
  rw [h]
  simp [st1, st2, st3, begS, DS0, aget, upd_same, show goodNm [97] = true from rfl]
def st4 (f : Nat) : DS := { st3 f with calls := 4, bd := 4, fs := upd (st3 f).fs f ([1, 2, 3], 2) }
theorem op4 (f : Nat) : opAppend (st3 f) [97] [3] = (0, st4 f) := by
  have h := begR_calm (S := st3 f) ⟨rfl, rfl⟩ (goodNm [97])
  unfold opAppend
  rw [h]
  simp [st1, st2, st3, st4, opPut, begS, DS0, aget, upd_same, show goodNm [97] = true from rfl]
theorem op5 (f : Nat) : opSyncDir (st4 f) = (0, { begS (st4 f) with dur := (st4 f).now, chg := [] }) := by
  unfold opSyncDir
  rw [begR_calm ⟨rfl, rfl⟩]
  rfl
theorem first_f (f : Nat) : FirstS false (st4 f) := ⟨f, rfl, upd_same _ _ _, ⟨rfl, rfl⟩, ⟨show (4 : Nat) < 900000 by decide, show (4 : Nat) < 900000 by decide⟩, rfl, rfl⟩
theorem first_t (f : Nat) : FirstS true { begS (st4 f) with dur := (st4 f).now, chg := [] } := ⟨f, rfl, upd_same _ _ _, ⟨rfl, rfl⟩, ⟨show (5 : Nat) < 900000 by decide, show (5 : Nat) < 900000 by decide⟩, rfl, rfl⟩

theorem src_new (w : World) (xs : Array Value) (t : TypeId) (n : Nat) (hn : xs.size = n) (hs : (n : Int) ≤ 9223372036854775807) : Src (w.alloc (.cells xs t)) (.slice (some ⟨w.heap.size, 0, none⟩) n n) xs.toList := by
  refine .inr ⟨w.heap.size, 0, n, by simp [hn], by simp [hn], hs, by simp, fun j u hu => ?_⟩
  refine cell_of (heap_new w _) ?_
  rw [Nat.zero_add, ← Array.getElem?_toList]; exact hu


theorem sm_of {S : DS} (h1 : S.calls ≤ 10) (h2 : S.bd ≤ 10) : Sm S := ⟨by omega, by omega⟩
theorem nm97 : (⟨#[97]⟩ : ByteArray).data.toList = [97] := rfl
theorem sz97 : (⟨#[97]⟩ : ByteArray).size ≤ maxLen := by unfold maxLen; decide

set_option maxHeartbeats 2000000 in
set_option maxRecDepth 100000 in
theorem first_any (sync : Bool) (w : World) : Calls Try.prog 27 #[.bool sync] w (FirstPost sync w) := by
  cases sync
  all_goals
    go_enter Try.func27, Try.ntmps27
    go_wp2_with fail
    refine (new_h _).mono ?_
    rintro e w1 ⟨d, rfl, hd, hh⟩
    have HD := Lib.hid hd; have HH := Lib.hid hh
    clear hd hh
    unfold ptr
    go_wp2_with fail
    refine (create_h HH.out (sm_of (by decide) (by decide)) ⟨#[97]⟩ sz97).mono ?_
    unfold HCPost
    simp only [nm97, op1]
    rintro e w2 ⟨f, hf, rfl, hh2⟩
    have HH2 := Lib.hid hh2
    have HDL : Hid (d < w2.heap.size) := by obtain ⟨g, hr, _⟩ := hh2.ex; exact lt_of_heap hr.dir
    clear hh2 hf
    go_wp2_with fail
    refine (append_h (bs := [1, 2]) (HH2.out.moved ((RowKit.Below.refl _ _).alloc (Nat.le_refl _) _)) (sm_of (show 1 ≤ 10 by decide) (show 1 ≤ 10 by decide)) ⟨#[97]⟩ sz97 (src_new w2 #[.int .u8 1, .int .u8 2] _ 2 rfl (by decide)) (by decide) (fun _ a n c e => by cases e; have := HDL.out; show w2.heap.size ≠ d; omega)).mono ?_
    simp only [nm97, op2]
    rintro e w3 ⟨rfl, hh3⟩
    have HH3 := Lib.hid hh3
    have HDL3 : Hid (d < w3.heap.size) := by obtain ⟨g, hr, _⟩ := hh3.ex; exact lt_of_heap hr.dir
    clear hh3
    go_wp2_with fail
    refine (sync_h HH3.out (sm_of (show 2 ≤ 10 by decide) (show 2 ≤ 10 by decide)) ⟨#[97]⟩ sz97).mono ?_
    simp only [nm97, op3]
    rintro e w4 ⟨rfl, hh4⟩
    have HH4 := Lib.hid hh4
    have HDL4 : Hid (d < w4.heap.size) := by obtain ⟨g, hr, _⟩ := hh4.ex; exact lt_of_heap hr.dir
    clear hh4
    go_wp2_with fail
    refine (append_h (bs := [3]) (HH4.out.moved ((RowKit.Below.refl _ _).alloc (Nat.le_refl _) _)) (sm_of (show 3 ≤ 10 by decide) (show 3 ≤ 10 by decide)) ⟨#[97]⟩ sz97 (src_new w4 #[.int .u8 3] _ 1 rfl (by decide)) (by decide) (fun _ a n c e => by cases e; have := HDL4.out; show w4.heap.size ≠ d; omega)).mono ?_
    simp only [nm97, op4]
    rintro e w5 ⟨rfl, hh5⟩
    have HH5 := Lib.hid hh5
    clear hh5
    go_wp2_with (go_at_call 29; refine (syncdir_h HH5.out (sm_of (show 4 ≤ 10 by decide) (show 4 ≤ 10 by decide))).mono ?_; simp only [op5]; rintro e w6 ⟨rfl, hh6⟩; have HH6 := Lib.hid hh6; clear hh6)
    go_ret
    first
      | exact ⟨d, _, rfl, HD.out, HH5.out, first_f f⟩
      | exact ⟨d, _, rfl, HD.out, HH6.out, first_t f⟩

end Go.Proofs.Ytjiklpoggpdngaa
