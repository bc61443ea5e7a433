/- Crash's choices, one by one; which changes are kept. -/
import Derived.Test.YtjiklpoggpdngaaVfsN
namespace Go.Proofs.Ytjiklpoggpdngaa
open Go.RowKit Go.Maps

def iV (c : Int) : Value := .int .i64 c

/-- a row of ints that can be read (in the world W) -/
structure IntSrc (W : World) (ao : Option Addr) (cap : Nat) (cs : List Int) : Prop where
  le : cs.length ≤ cap
  max : cap ≤ 9223372036854775807
  cells : ∀ a, ao = some a → ∀ j u, (cs.map iV)[j]? = some u → W.cell? (a.add j) = some u
  none : ao = none → cs = []
  blk : cs ≠ [] → ∀ a, ao = some a → a.block < W.heap.size
  int : ∀ c ∈ cs, -9223372036854775808 ≤ c ∧ c ≤ 9223372036854775807

/-- the choices that are left stand in block cb -/
def Chosen (W w : World) (cb : Nat) (cs : List Int) : Prop := ∃ ao cap, one w cb (.slice ao cs.length cap) 31 ∧ IntSrc W ao cap cs

theorem add_add (a : Addr) (i j : Nat) : (a.add i).add j = a.add (i + j) := by
  unfold Addr.add
  by_cases h1 : i = 0 <;> by_cases h2 : j = 0 <;> simp [h1, h2]
  omega

theorem add_block (a : Addr) (i : Nat) : (a.add i).block = a.block := by
  unfold Addr.add
  split <;> rfl

theorem IntSrc.tail {W : World} {a : Addr} {cap : Nat} {c : Int} {cs : List Int} (h : IntSrc W (some a) cap (c :: cs)) : IntSrc W (if cap = 1 then some a else some (a.add 1)) (cap - 1) cs := by
  have hle := h.le
  simp at hle
  refine ⟨by omega, by have := h.max; omega, ?_, ?_, ?_, fun x hx => h.int x (List.mem_cons_of_mem _ hx)⟩
  · intro b hb j u hu
    by_cases e : cap = 1
    · have : cs = [] := by cases cs with
        | nil => rfl
        | cons x r => simp at hle; omega
      rw [this] at hu; simp at hu
    · rw [if_neg e] at hb
      cases hb
      rw [add_add]
      exact h.cells a rfl (1 + j) u (by rw [Nat.add_comm]; exact hu)
  · intro e
    split at e <;> cases e
  · intro _ b hb
    split at hb
    · cases hb; exact h.blk (by simp) _ rfl
    · cases hb; rw [add_block]; exact h.blk (by simp) _ rfl

def NextPost (W w : World) (cb : Nat) (cs : List Int) (e : Ending) (w' : World) : Prop :=
  e = .returned (.int .i64 (cs.headD 0)) ∧ Chosen W w' cb cs.tail ∧ Moves (fun k => k = cb) w w'

set_option maxHeartbeats 1000000 in
set_option maxRecDepth 100000 in
theorem next_any {W w : World} {cb : Nat} {cs : List Int} (h : Chosen W w cb cs) (hB : Below W.heap.size W w) (hcb : W.heap.size ≤ cb) :
    Calls Try.prog 48 #[ptr cb] w (NextPost W w cb cs) := by
  obtain ⟨ao, cap, ho, hs⟩ := h
  have c0 : w.cell? ⟨cb, 0, none⟩ = some (.slice ao cs.length cap) := cell_of ho rfl
  have f0 : w.frozen? ⟨cb, 0, none⟩ = false := unfrozen_of ho
  unfold ptr
  cases cs with
  | nil =>
    have HP : Hid (NextPost W w cb [] (.returned (.int .i64 0)) w) := ⟨rfl, ⟨ao, cap, ho, hs⟩, Moves.refl _ _⟩
    clear ho hs hB hcb
    simp only [List.length_nil] at c0
    go_enter Try.func48, Try.ntmps48
    go_wp2
    go_ret
    exact HP.out
  | cons c cs =>
    cases ao with
    | none => have := hs.none rfl; cases this
    | some a =>
      have hle := hs.le
      have hmx : (cap : Int) ≤ 9223372036854775807 := by have := hs.max; omega
      have hle2 : (cs.length : Int) + 1 ≤ (cap : Int) := by have := hs.le; simp at this; omega
      simp only [List.length_cons] at hle c0
      have hblk := hs.blk (by simp) a rfl
      have ca : w.cell? a = some (.int .i64 c) := by
        have h1 := hs.cells a rfl 0 (iV c) rfl
        rw [show a.add 0 = a by simp [Addr.add]] at h1
        exact (World.cell?_of_block (w := W) (a := a) (hB.block _ hblk)).trans h1
      have hz : ((cs.length : Int) + 1 == 0) = false := by rw [beq_eq_false_iff_ne]; omega
      have HW : Hid (NextPost W w cb (c :: cs) (.returned (.int .i64 c)) (w.setCell ⟨cb, 0, none⟩ (.slice (if cap = 1 then some a else some (a.add 1)) cs.length (cap - 1)))) := by
        refine ⟨rfl, ⟨_, _, ?_, hs.tail⟩, (Moves.refl (fun k => k = cb) w).setCell (p := ⟨cb, 0, none⟩) (fun _ => rfl) _⟩
        exact heap_set ho _
      clear ho hs hB hcb
      by_cases hc1 : cap = 1
      · subst hc1
        have hcs0 : cs.length = 0 := by omega
        have hcs : cs = [] := List.length_eq_zero_iff.1 hcs0
        subst hcs
        clear hcs0
        go_enter Try.func48, Try.ntmps48
        go_wp2
        go_ret
        exact HW.out
      · rw [if_neg hc1] at HW
        go_enter Try.func48, Try.ntmps48
        go_wp2
        go_ret
        exact HW.out

end Go.Proofs.Ytjiklpoggpdngaa
