/- One call of a reader and of the reference's: the same answer. Bytes, End, none. -/
import Derived.Test.YthepoplekabcoaaOneA
namespace Go.Proofs.Ythepoplekabcoaa
open Go.RowKit Go.Maps

set_option maxHeartbeats 2000000 in
theorem one_5_ok {w : World} {r c s : Nat} {v : Value} {bs : List UInt8} {p : Nat} {e : Int} (h : Pair w r c s v bs p e) (n : Int) :
    Calls Try.prog 21 #[.pointer (some ⟨r, 0, none⟩), .pointer (some ⟨s, 0, none⟩), .agg #[.int .i64 5, .int .i64 n]] w (OnePost w r c s v bs e) := by
  have HP := Lib.hid (h.below (bw_alloc w (.cells #[.int .i64 5, .int .i64 n] 46)))
  obtain ⟨e', he1, he2, hee, h20⟩ : ∃ e' : Int, (if bs.drop p = [] then e else 20) = e' ∧ (if e = 0 ∧ p < bs.length then 20 else e) = e' ∧ (e' = 0 ∨ e' = 20) ∧ (e = 20 → e' = 20) := by
    have hle := h.rf.le
    by_cases hl : bs.drop p = []
    · have : ¬ p < bs.length := by have := congrArg List.length hl; simp at this; omega
      exact ⟨e, by rw [if_pos hl], by rw [if_neg (fun h => this h.2)], h.ee, fun h => h⟩
    · have : p < bs.length := by
        rcases Nat.lt_or_ge p bs.length with h' | h'
        · exact h'
        · exact absurd (List.drop_eq_nil_of_le h') hl
      refine ⟨20, by rw [if_neg hl], ?_, .inr rfl, fun _ => rfl⟩
      rcases h.ee with h1 | h1
      · rw [if_pos ⟨h1, this⟩]
      · rw [if_neg (fun h => by rw [h1] at h; exact absurd h.1 (by decide)), h1]
  have HE1 := Lib.hid he1; have HE2 := Lib.hid he2; have HEE := Lib.hid hee; have H20 := Lib.hid h20
  clear h he1 he2 hee h20
  go_enter Try.func21, Try.ntmps21
  go_wp2_with fail
  refine (end_any HP.out.rd).mono ?_
  rintro en w1 ⟨rfl, hm, hrd⟩
  rw [HE1.out] at hrd ⊢
  have HM := Lib.hid hm; have HR := Lib.hid hrd
  have HF := Lib.hid (HP.out.rf.movedR hm HP.out.rs HP.out.vr)
  clear hm hrd
  go_wp2_with fail
  refine (refEnd_any HF.out).mono ?_
  rintro en w2 ⟨rfl, hm, hrf⟩
  rw [HE2.out] at hrf ⊢
  have HST := Lib.hid (HP.out.step HM.out HR.out hm hrf HEE.out)
  clear hm hrf
  go_wp2
  go_ret
  exact ⟨ret_bool (by simp), p, e', HST.out.1, moves_alloc_rs HST.out.2, H20.out⟩
set_option maxHeartbeats 2000000 in
theorem one_5_nil {w : World} (n : Int) :
    Calls Try.prog 21 #[.pointer none, .pointer none, .agg #[.int .i64 5, .int .i64 n]] w (TruePost w) := by
  go_enter Try.func21, Try.ntmps21
  go_wp2_with fail
  refine (end_nil _).mono ?_
  rintro e w1 ⟨rfl, rfl⟩
  go_wp2_with fail
  refine refEnd_nil.mono ?_
  rintro e w2 ⟨rfl, hb⟩
  have HB := Lib.hid hb
  clear hb
  go_wp2
  go_ret
  exact ⟨ret_bool (by simp), (bw_alloc _ _).trans HB.out⟩

set_option maxHeartbeats 2000000 in
theorem one_other {w : World} {r c s : Nat} {v : Value} {bs : List UInt8} {p : Nat} {e : Int} (h : Pair w r c s v bs p e) (k n : Int) (h0 : k ≠ 0) (h1 : k ≠ 1) (h2 : k ≠ 2) (h3 : k ≠ 3) (h4 : k ≠ 4) (h5 : k ≠ 5) :
    Calls Try.prog 21 #[.pointer (some ⟨r, 0, none⟩), .pointer (some ⟨s, 0, none⟩), .agg #[.int .i64 k, .int .i64 n]] w (OnePost w r c s v bs e) := by
  have HP := Lib.hid (h.below (bw_alloc w (.cells #[.int .i64 k, .int .i64 n] 46)))
  have g0 : (k == 0) = false := by rw [beq_eq_false_iff_ne]; exact h0
  have g1 : (k == 1) = false := by rw [beq_eq_false_iff_ne]; exact h1
  have g2 : (k == 2) = false := by rw [beq_eq_false_iff_ne]; exact h2
  have g3 : (k == 3) = false := by rw [beq_eq_false_iff_ne]; exact h3
  have g4 : (k == 4) = false := by rw [beq_eq_false_iff_ne]; exact h4
  have g5 : (k == 5) = false := by rw [beq_eq_false_iff_ne]; exact h5
  clear h h0 h1 h2 h3 h4 h5
  go_enter Try.func21, Try.ntmps21
  go_wp2
  go_ret
  exact ⟨rfl, p, e, HP.out, moves_alloc_rs (Moves.refl _ _), fun h => h⟩
set_option maxHeartbeats 2000000 in
theorem one_other_nil {w : World} (k n : Int) (h0 : k ≠ 0) (h1 : k ≠ 1) (h2 : k ≠ 2) (h3 : k ≠ 3) (h4 : k ≠ 4) (h5 : k ≠ 5) :
    Calls Try.prog 21 #[.pointer none, .pointer none, .agg #[.int .i64 k, .int .i64 n]] w (TruePost w) := by
  have g0 : (k == 0) = false := by rw [beq_eq_false_iff_ne]; exact h0
  have g1 : (k == 1) = false := by rw [beq_eq_false_iff_ne]; exact h1
  have g2 : (k == 2) = false := by rw [beq_eq_false_iff_ne]; exact h2
  have g3 : (k == 3) = false := by rw [beq_eq_false_iff_ne]; exact h3
  have g4 : (k == 4) = false := by rw [beq_eq_false_iff_ne]; exact h4
  have g5 : (k == 5) = false := by rw [beq_eq_false_iff_ne]; exact h5
  clear h0 h1 h2 h3 h4 h5
  go_enter Try.func21, Try.ntmps21
  go_wp2
  go_ret
  exact ⟨rfl, bw_alloc _ _⟩

/-! Bytes: what was answered is written over -/
theorem row_store {w : World} {base n : Nat} {v u : Value} {xs : List Value} (h : w.ownsRow base 5 1 v n xs) {a : Addr} {k c : Nat} (hv : v = .slice (some a) k c) (i : Nat) (hi : i < n) : ∃ ys, (w.setCell ⟨a.block, a.off + i, none⟩ u).ownsRow base 5 1 v n ys := by
  obtain ⟨h1, h2 | ⟨g, cap, cur, hv', hg, hh, hn', hc', hcs', htk⟩⟩ := h
  · rw [h2.1] at hv; cases hv
  · rw [hv'] at hv; cases hv
    refine ⟨(cur.setIfInBounds i u).toList.take (n * 1), ?_, .inr ⟨g, c, cur.setIfInBounds i u, hv', hg, ?_, hn', hc', by simpa using hcs', rfl⟩⟩
    · rw [List.length_take, Array.length_toList, Array.size_setIfInBounds, hcs']; omega
    · show (w.setCell ⟨g, 0 + i, none⟩ u).heap[g]? = _
      rw [Nat.zero_add]
      exact heap_set hh u

end Go.Proofs.Ythepoplekabcoaa
