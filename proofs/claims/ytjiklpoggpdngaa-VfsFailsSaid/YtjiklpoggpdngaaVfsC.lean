/- begin: counts a call, and tells what stops it. -/
import Derived.Test.YtjiklpoggpdngaaVfsR
import Derived.Test.YtjiklpoggpdngaaVfsA
namespace Go.Proofs.Ytjiklpoggpdngaa
open Go.RowKit Go.Maps

def begS (S : DS) : DS := { S with calls := S.calls + 1, bd := S.bd + 1, left := S.left - 1, fl := S.fl - 1 }
def begR (S : DS) (good : Bool) : Int × Bool :=
  if S.asked = true ∧ S.left = 0 then (14, false) else if S.fl = 1 ∧ S.fe ≠ 0 then (S.fe, true) else if good then (0, false) else (1, false)

def BegPost (w : World) (d : Nat) (g : Gh) (S : DS) (good : Bool) (e : Ending) (w' : World) : Prop :=
  e = .returned (.tuple #[.int .i64 (begR S good).1, .bool (begR S good).2]) ∧ Rep w' d g (begS S) ∧ w'.heap.size = w.heap.size ∧ (∀ b, b ≠ d → w'.heap[b]? = w.heap[b]?) ∧ Moves (Own g) w w'

/-- three stores into the directory's block -/
theorem beg_world {w : World} {d : Nat} {g : Gh} {S : DS} (h : Rep w d g S) (w' : World) (hw : w' = (((w.setCell ⟨d, 3, none⟩ (.int .i64 ((S.calls : Int) + 1))).setCell ⟨d, 5, none⟩ (.int .i64 ((S.left - 1 : Nat) : Int))).setCell ⟨d, 6, none⟩ (.int .i64 ((S.fl - 1 : Nat) : Int)))) :
    Rep w' d g (begS S) ∧ w'.heap.size = w.heap.size ∧ (∀ b, b ≠ d → w'.heap[b]? = w.heap[b]?) ∧ Moves (Own g) w w' := by
  have hd := heap_set (i := 6) (heap_set (i := 5) (heap_set (i := 3) h.dir (.int .i64 ((S.calls : Int) + 1))) (.int .i64 ((S.left - 1 : Nat) : Int))) (.int .i64 ((S.fl - 1 : Nat) : Int))
  rw [← hw] at hd
  have hsz : w'.heap.size = w.heap.size := by rw [hw]; simp [World.setCell]
  have ho : ∀ b, b ≠ d → w'.heap[b]? = w.heap[b]? := by
    intro b hb
    rw [hw, Below.heap_setCell _ _ _ _ hb, Below.heap_setCell _ _ _ _ hb, Below.heap_setCell _ _ _ _ hb]
  refine ⟨h.counts (begS S) (by omega) (fun b hb _ => ho b hb) ?_ rfl rfl rfl rfl (Nat.le_succ _) ?_ ?_ h.bfp, hsz, ho, ?_⟩
  · rw [hd]; rfl
  · have := h.bleft; simp only [begS]; omega
  · have := h.bfl; simp only [begS]; omega
  · rw [hw]
    have hF : Own g d := by unfold Own; rw [h.rd]; simp
    exact (((Moves.refl _ w).setCell (fun _ => hF) _).setCell (fun _ => hF) _).setCell (fun _ => hF) _

theorem setCell_same {w : World} {b i : Nat} {c : Array Value} {e : TypeId} {v : Value} (h : w.heap[b]? = some (.cells c e (0, 0))) (hv : c[i]? = some v) : w.setCell ⟨b, i, none⟩ v = w := by
  have hb := lt_of_heap h
  have e1 : (w.setCell ⟨b, i, none⟩ v).heap = w.heap := by
    apply Array.ext_getElem?
    intro k
    by_cases e : k = b
    · subst e
      rw [heap_set h, h]
      congr 2
      apply Array.ext_getElem?
      intro j
      by_cases e2 : i = j
      · subst e2; rw [hv]; obtain ⟨h1, _⟩ := Array.getElem?_eq_some_iff.1 hv; simp [h1]
      · simp [Array.getElem?_setIfInBounds, e2]
    · rw [Below.heap_setCell _ _ _ _ e]
  have e2 : w.setCell ⟨b, i, none⟩ v = { w with heap := (w.setCell ⟨b, i, none⟩ v).heap } := rfl
  rw [e2, e1]


theorem haltnext_any (b o : Nat) (left : Nat) (w : World) {c : Array Value} {et : TypeId} (h2 : (left : Int) ≤ 9223372036854775807) (hb : w.heap[b]? = some (.cells c et (0, 0))) (hv : c[o + 1]? = some (.int .i64 (left : Int))) :
    Calls Try.prog 85 #[.pointer (some ⟨b, o, none⟩)] w fun e w' => e = .returned (.tuple #[]) ∧ w' = w.setCell ⟨b, o + 1, none⟩ (.int .i64 ((left - 1 : Nat) : Int)) := by
  by_cases h : 0 < left
  · refine (haltnext_pos b o left w (by omega) h2 (cell_of hb hv) (unfrozen_of hb)).mono ?_
    rintro e w' ⟨he, hw⟩
    refine ⟨he, hw.trans ?_⟩
    rw [show ((left - 1 : Nat) : Int) = (left : Int) - 1 by omega]
  · have h0 : left = 0 := by omega
    subst h0
    refine (haltnext_no b o _ w (by omega) (cell_of hb hv)).mono ?_
    rintro e w' ⟨he, hw⟩
    exact ⟨he, hw.trans (setCell_same hb hv).symm⟩

theorem failnext_any (b o : Nat) (fl : Nat) (fe : Int) (w : World) {c : Array Value} {et : TypeId} (h2 : (fl : Int) ≤ 9223372036854775807) (hb : w.heap[b]? = some (.cells c et (0, 0))) (hv : c[o]? = some (.int .i64 (fl : Int))) (hv2 : c[o + 1]? = some (.int .i64 fe)) :
    Calls Try.prog 86 #[.pointer (some ⟨b, o, none⟩)] w fun e w' => e = .returned (.int .i64 (if fl = 1 then fe else 0)) ∧ w' = w.setCell ⟨b, o, none⟩ (.int .i64 ((fl - 1 : Nat) : Int)) := by
  by_cases h0 : fl = 0
  · subst h0
    refine (failnext_no b o w (cell_of hb hv)).mono ?_
    rintro e w' ⟨he, hw⟩
    exact ⟨he, hw.trans (setCell_same hb hv).symm⟩
  by_cases h1 : fl = 1
  · subst h1
    refine (failnext_one b o w fe (cell_of hb hv) (cell_of hb hv2) (unfrozen_of hb)).mono ?_
    rintro e w' ⟨he, hw⟩
    exact ⟨by rw [if_pos rfl]; exact he, hw⟩
  · refine (failnext_more b o w fl (by omega) h2 (cell_of hb hv) (unfrozen_of hb)).mono ?_
    rintro e w' ⟨he, hw⟩
    refine ⟨by rw [if_neg h1]; exact he, hw.trans ?_⟩
    rw [show ((fl - 1 : Nat) : Int) = (fl : Int) - 1 by omega]

set_option maxHeartbeats 1000000 in
theorem begin_any {w : World} {d : Nat} {g : Gh} {S : DS} (h : Rep w d g S) (hc : S.calls < 4611686018427387904) (names : Value) (good : Bool)
    (hN : ∀ W : World, (∀ b, b ≠ d → W.heap[b]? = w.heap[b]?) → Calls Try.prog 87 #[names] W fun e w' => e = .returned (.bool good) ∧ W = w') :
    Calls Try.prog 66 #[ptr d, names] w (BegPost w d g S good) := by
  have HN := Lib.hid hN
  have HD := Lib.hid h.dir
  have HW := Lib.hid (beg_world h)
  have hbl := h.bleft
  have hbf := h.bfl
  have c3 : w.cell? ⟨d, 3, none⟩ = some (.int .i64 (S.calls : Int)) := cell_of h.dir rfl
  have c4 : w.cell? ⟨d, 4, none⟩ = some (.bool S.asked) := cell_of h.dir rfl
  have c5 : w.cell? ⟨d, 5, none⟩ = some (.int .i64 (S.left : Int)) := cell_of h.dir rfl
  have f3 : w.frozen? ⟨d, 3, none⟩ = false := unfrozen_of h.dir
  clear hN h
  obtain ⟨hb, Hh⟩ : ∃ hb : Bool, Hid (((S.asked && (S.left : Int) == 0)) = hb) := ⟨_, rfl⟩
  obtain ⟨x, Hx⟩ : ∃ x : Int, Hid ((if S.fl = 1 then S.fe else 0) = x) := ⟨_, rfl⟩
  have HR : Hid (begR S good = if hb then (14, false) else if x ≠ 0 then (x, true) else if good then (0, false) else (1, false)) := by
    unfold Hid begR
    have h1 : hb = decide (S.asked = true ∧ S.left = 0) := by
      rw [← Hh.out, Bool.eq_iff_iff]; simp
    rw [h1]
    simp only [decide_eq_true_eq]
    split
    · rfl
    · rw [← Hx.out]
      by_cases e1 : S.fl = 1 <;> by_cases e2 : S.fe = 0 <;> simp [e1, e2]
  unfold ptr
  by_cases hx : x = 0
  · subst hx
    cases hb <;> cases good
    all_goals
      go_enter Try.func66, Try.ntmps66
      go_wp2_with fail
      refine (come_any d 4 S.asked S.left _ (by go_simp) (by go_simp)).mono ?_
      rw [Hh.out]
      rintro e w' ⟨rfl, rfl⟩
      go_wp2_with fail
      refine (haltnext_any d 4 S.left _ hbl (heap_set HD.out _) rfl).mono ?_
      rintro e w' ⟨rfl, rfl⟩
      go_wp2_with fail
      refine (failnext_any d 6 S.fl S.fe _ hbf (heap_set (heap_set HD.out _) _) rfl rfl).mono ?_
      rw [Hx.out]
      rintro e w' ⟨rfl, rfl⟩
      go_wp2_with (go_at_call 87; refine (HN.out _ ?_).mono ?_; (focus (intro b hb; rw [Below.heap_setCell _ _ _ _ hb, Below.heap_setCell _ _ _ _ hb, Below.heap_setCell _ _ _ _ hb])); rintro e w' ⟨rfl, rfl⟩)
      go_ret2
      exact ⟨by rw [HR.out]; rfl, HW.out _ rfl⟩
  · have hx2 : (x == 0) = false := by simp [hx]
    have hx3 : (x != 0) = true := by simp [hx]
    have Hx0 := Lib.hid hx
    clear hx
    cases hb
    all_goals
      go_enter Try.func66, Try.ntmps66
      go_wp2_with fail
      refine (come_any d 4 S.asked S.left _ (by go_simp) (by go_simp)).mono ?_
      rw [Hh.out]
      rintro e w' ⟨rfl, rfl⟩
      go_wp2_with fail
      refine (haltnext_any d 4 S.left _ hbl (heap_set HD.out _) rfl).mono ?_
      rintro e w' ⟨rfl, rfl⟩
      go_wp2_with fail
      refine (failnext_any d 6 S.fl S.fe _ hbf (heap_set (heap_set HD.out _) _) rfl rfl).mono ?_
      rw [Hx.out]
      rintro e w' ⟨rfl, rfl⟩
      go_wp2_with fail
      go_ret2
      exact ⟨by rw [HR.out]; simp [Hx0.out], HW.out _ rfl⟩

end Go.Proofs.Ytjiklpoggpdngaa
