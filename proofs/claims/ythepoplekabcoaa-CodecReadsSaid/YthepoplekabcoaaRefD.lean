/- The reference's reader: Left, Err, Uint. -/
import Derived.Test.YthepoplekabcoaaRefC
import Derived.Test.YthepoplekabcoaaCodF
import Derived.StillTailTactics
import Derived.Deep.RegionWith
namespace Go.Proofs.Ythepoplekabcoaa
open Go.RowKit Go.Maps

structure Rf (w : World) (s : Nat) (v : Value) (bs : List UInt8) (p : Nat) (e : Int) : Prop where
  blk : w.heap[s]? = some (.cells #[v, .int .i64 (p : Int), .int .i64 e] 41 (0, 0))
  src : Src w v (bs.map bV)
  le : p ≤ bs.length
  len : (bs.length : Int) ≤ 140737488351232
  ne : bs ≠ [] → ∀ a n k, v = .slice (some a) n k → a.block ≠ s

theorem bw_drew1 {w w' : World} (h : BW w w') : BW w w'.drew := ⟨h.os, h.tape, h.output, h.size, h.block⟩
theorem Rf.keep {w w' : World} {s : Nat} {v : Value} {bs : List UInt8} {p : Nat} {e : Int} (h : Rf w s v bs p e) (hs : w.heap.size ≤ w'.heap.size) (h1 : w'.heap[s]? = w.heap[s]?) (h2 : bs ≠ [] → ∀ a n k, v = .slice (some a) n k → w'.heap[a.block]? = w.heap[a.block]?) : Rf w' s v bs p e :=
  ⟨h1.trans h.blk, h.src.keep hs (fun hne a n k e => h2 (by rintro rfl; exact hne rfl) a n k e), h.le, h.len, h.ne⟩
theorem Rf.below {w w' : World} {s : Nat} {v : Value} {bs : List UInt8} {p : Nat} {e : Int} (h : Rf w s v bs p e) (hb : BW w w') : Rf w' s v bs p e := by
  refine ⟨(hb.block s (lt_of_heap h.blk)).trans h.blk, h.src.below hb, h.le, h.len, h.ne⟩
/-- another place and error -/
theorem Rf.turn {w w' : World} {s : Nat} {v : Value} {bs : List UInt8} {p q : Nat} {e e' : Int} (h : Rf w s v bs p e) (hm : Moves (fun b => b = s) w w') (hb : w'.heap[s]? = some (.cells #[v, .int .i64 (q : Int), .int .i64 e'] 41 (0, 0))) (hq : q ≤ bs.length) : Rf w' s v bs q e' := by
  refine ⟨hb, h.src.keep hm.size (fun hne a n k e => ?_), hq, h.len, h.ne⟩
  have hbs : bs ≠ [] := by rintro rfl; exact hne rfl
  have hlt : a.block < w.heap.size := by
    rcases h.src with ⟨_, _, _, hx, _⟩ | ⟨b, off, cap, hv, _, _, h3, _⟩
    · exact absurd hx hne
    · rw [hv] at e; cases e; exact h3
  exact hm.block _ hlt (h.ne hbs a n k e)

theorem number_any {w : World} {v : Value} {l : List UInt8} (h : Src w v (l.map bV)) (hlen : (l.length : Int) ≤ 140737488351232) : Calls Try.prog 56 #[v] w (NumPost w l) := by
  by_cases hl : l = []
  · subst hl
    obtain ⟨ao, cap, rfl⟩ := h.len
    exact number_nil
  · rcases h with ⟨_, _, _, hx, _⟩ | ⟨b, off, cap, hv, g1, g2, g3, g4⟩
    · exact absurd (by simpa using hx) hl
    · subst hv
      have h' : Src w (.slice (some ⟨b, off, none⟩) l.length cap) (l.map bV) := .inr ⟨b, off, cap, by rw [List.length_map], g1, g2, g3, g4⟩
      rw [List.length_map]
      exact number_some h' hl hlen

set_option maxHeartbeats 1000000 in
theorem refLeft_any {w : World} {s : Nat} {v : Value} {bs : List UInt8} {p : Nat} {e : Int} (h : Rf w s v bs p e) : Calls Try.prog 23 #[.pointer (some ⟨s, 0, none⟩)] w fun en w' => en = .returned (.int .i64 ((bs.length - p : Nat) : Int)) ∧ ∃ n, w' = w.drewN n := by
  obtain ⟨ao, cap, rfl⟩ := h.src.len
  have c0 : w.cell? ⟨s, 0, none⟩ = some (.slice ao (bs.map bV).length cap) := cell_of h.blk rfl
  have c1 : w.cell? ⟨s, 1, none⟩ = some (.int .i64 (p : Int)) := cell_of h.blk rfl
  rw [List.length_map] at c0
  have hle := h.le
  have hlen := h.len
  obtain ⟨n, hn⟩ : ∃ n, bs.length = n := ⟨_, rfl⟩
  rw [hn] at c0 hle hlen ⊢
  clear h hn
  go_enter Try.func23, Try.ntmps23
  go_wp2
  go_quiet (fail)
  go_wp2
  go_ret
  exact ⟨ret_int (by omega), _, rfl⟩
set_option maxHeartbeats 1000000 in
theorem refLeft_nil {w : World} : Calls Try.prog 23 #[.pointer none] w fun en w' => en = .returned (.int .i64 0) ∧ w = w' := by
  go_enter Try.func23, Try.ntmps23
  go_wp2
  go_ret
  exact ⟨rfl, rfl⟩
set_option maxHeartbeats 1000000 in
theorem refErr_any {w : World} {s : Nat} {v : Value} {bs : List UInt8} {p : Nat} {e : Int} (h : Rf w s v bs p e) : Calls Try.prog 24 #[.pointer (some ⟨s, 0, none⟩)] w fun en w' => en = .returned (.int .i64 e) ∧ w = w' := by
  have c2 : w.cell? ⟨s, 2, none⟩ = some (.int .i64 e) := cell_of h.blk rfl
  clear h
  go_enter Try.func24, Try.ntmps24
  go_wp2
  go_ret
  exact ⟨rfl, rfl⟩
set_option maxHeartbeats 1000000 in
theorem refErr_nil {w : World} : Calls Try.prog 24 #[.pointer none] w fun en w' => en = .returned (.int .i64 20) ∧ w = w' := by
  go_enter Try.func24, Try.ntmps24
  go_wp2
  go_ret
  exact ⟨rfl, rfl⟩

def RefG (w : World) (s : Nat) (v : Value) (bs : List UInt8) (p : Nat) (z : Value) (D : Option (Value × Nat)) (e : Ending) (w' : World) : Prop :=
  ∃ x, e = .returned x ∧ Moves (fun b => b = s) w w' ∧ ((∃ k, D = some (x, k) ∧ Rf w' s v bs (p + k) 0) ∨ (D = none ∧ x = z ∧ Rf w' s v bs p 20))


theorem sub_src1 {w : World} {ao : Option Addr} {n cap p : Nat} {bs : List UInt8} (h : Src w (.slice ao n cap) (bs.map bV)) (hn : bs.length = n) (hp : p ≤ n) (hc : cap = p) : Src w (.slice ao (n - p) 0) ((bs.drop p).map bV) := by
  have hz : bs.drop p = [] ∧ n - p = 0 := by
    rcases h with ⟨ao', c', e, e2, h5, h6⟩ | ⟨b', off', c', hv, h1, h2, h3, h4⟩
    · have : bs = [] := by simpa using e2
      subst this
      simp at hn
      exact ⟨by simp, by omega⟩
    · injection hv with _ e1 e2
      rw [List.length_map] at h1
      exact ⟨List.drop_eq_nil_of_le (by omega), by omega⟩
  rw [hz.1, hz.2]
  exact .inl ⟨_, _, rfl, rfl, fun _ => rfl, by decide⟩
theorem sub_src2 {w : World} {ao : Option Addr} {n cap p : Nat} {bs : List UInt8} (h : Src w (.slice ao n cap) (bs.map bV)) (hn : bs.length = n) (hp : p ≤ n) (hc : ¬ cap = p) : Src w (.slice (Option.map (fun x => x.add p) ao) (n - p) (cap - p)) ((bs.drop p).map bV) := by
  rcases h with ⟨ao', c', e, e2, h5, h6⟩ | ⟨b', off', c', hv, h1, h2, h3, h4⟩
  · have : bs = [] := by simpa using e2
    subst this
    simp at hn
    subst hn
    obtain rfl : p = 0 := by omega
    injection e with e0 e1 e3
    subst e3
    refine .inl ⟨_, _, rfl, rfl, fun e => ?_, by simpa using h6⟩
    cases ao with
    | none => rw [h5 e0.symm]
    | some a => cases e
  · injection hv with e0 e1 e2
    subst e0
    rw [List.length_map] at h1
    refine .inr ⟨b', off' + p, cap - p, ?_, ?_, by omega, h3, fun j u hu => ?_⟩
    · rw [List.length_map, List.length_drop, hn, Option.map_some, addOff]
    · rw [List.length_map, List.length_drop]; omega
    · rw [List.map_drop, List.getElem?_drop] at hu
      rw [Nat.add_assoc]; exact h4 _ u hu


end Go.Proofs.Ythepoplekabcoaa
