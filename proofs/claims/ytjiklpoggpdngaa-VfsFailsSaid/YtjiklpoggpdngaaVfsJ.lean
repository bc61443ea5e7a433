/- SyncDir, List, Calls, New, Read. -/
import Derived.Test.YtjiklpoggpdngaaVfsI
namespace Go.Proofs.Ytjiklpoggpdngaa
open Go.RowKit Go.Maps Go.Sort

def opSyncDir (S : DS) : Int × DS :=
  if (begR S true).1 ≠ 0 then ((begR S true).1, begS S) else (0, { begS S with dur := S.now, chg := [] })

theorem syncdir_world {w w3 : World} {d : Nat} {g : Gh} {S : DS} (h : Rep w d g S) (hb : Below w.heap.size w w3) (hm : IsDir Try.prog w3 w.heap.size S.now) :
    Step w ((w3.setCell ⟨d, 1, none⟩ (.map (some w.heap.size))).setCell ⟨d, 2, none⟩ (.slice none 0 0)) d g { S with dur := S.now, chg := [] } := by
  have hd := h.lt d (by rw [h.rd]; simp)
  have hn0 : g.role w.heap.size = .no := h.fresh (Nat.le_refl _)
  have hd3 : w3.heap[d]? = some (.cells (dirCells g S) 75 (0, 0)) := (hb.block d hd).trans h.dir
  have hdf := heap_set (i := 2) (heap_set (i := 1) hd3 (.map (some w.heap.size))) (.slice none 0 0)
  have hsz : ((w3.setCell ⟨d, 1, none⟩ (.map (some w.heap.size))).setCell ⟨d, 2, none⟩ (.slice none 0 0)).heap.size = w3.heap.size := by simp [World.setCell]
  have hs3 := hb.size
  have hl3 := World.ownsMap.lt hm
  have keep : ∀ b, b ≠ d → b < w.heap.size → ((w3.setCell ⟨d, 1, none⟩ (.map (some w.heap.size))).setCell ⟨d, 2, none⟩ (.slice none 0 0)).heap[b]? = w.heap[b]? := by
    intro b h1 h2
    rw [Below.heap_setCell _ _ _ _ h1, Below.heap_setCell _ _ _ _ h1, hb.block b h2]
  have kp : ∀ {b : Nat} {r : Role}, g.role b = r → r ≠ .no → r ≠ .dir → ((w3.setCell ⟨d, 1, none⟩ (.map (some w.heap.size))).setCell ⟨d, 2, none⟩ (.slice none 0 0)).heap[b]? = w.heap[b]? := by
    intro b r e n1 n2
    exact keep b (by rintro rfl; rw [h.rd] at e; exact n2 e.symm) (h.lt b (by rw [e]; exact n1))
  have ro : ∀ x, g.role x ≠ .no → upd g.role w.heap.size .map x = g.role x := fun x hx => upd_other _ _ (by rintro rfl; exact hx hn0)
  have rl : ∀ {x : Nat} {q : Role}, g.role x = q → q ≠ .no → upd g.role w.heap.size .map x = q := fun {x q} e n => by rw [ro x (by rw [e]; exact n)]; exact e
  refine ⟨{ g with role := upd g.role w.heap.size .map, db := w.heap.size, cv := .slice none 0 0, cls := [] }, ?_, ?_, ?_⟩
  · refine h.turn (by omega) ro (fun b e => kp e (by simp) (by simp)) (fun f e => ⟨kp e (by simp) (by simp), fun b e => kp e (by simp) (by simp), rfl, rfl⟩) ?_ hdf (isdir_keep h.now (kp h.rn (by simp) (by simp)))
      ?_ (rl h.rn (by simp)) (upd_same _ _ _) ?_ ⟨rfl, .inl ⟨rfl, rfl⟩⟩ (fun a n c e => by cases e) ⟨rfl, fun i h1 h2 => by simp at h1⟩ (fun p hp => rl (h.fnow p hp) (by simp)) (fun p hp => rl (h.fnow p hp) (by simp)) (fun c hc => by cases hc) h.bnow h.bnow h.bleft h.bfl h.bfp
    · intro b e1 e2
      have hx : b = w.heap.size := by
        apply Classical.byContradiction
        intro e
        apply e2
        show upd g.role w.heap.size .map b = .no
        rw [upd_other _ _ e]; exact e1
      subst hx
      refine ⟨by omega, fun e => ?_⟩
      have h2 : Role.map = Role.file := (upd_same g.role w.heap.size Role.map).symm.trans e
      cases h2
    · refine isdir_keep hm ?_
      show ((w3.setCell ⟨d, 1, none⟩ (.map (some w.heap.size))).setCell ⟨d, 2, none⟩ (.slice none 0 0)).heap[w.heap.size]? = _
      rw [Below.heap_setCell _ _ _ _ (by show w.heap.size ≠ d; omega), Below.heap_setCell _ _ _ _ (by show w.heap.size ≠ d; omega)]
    · show g.nb ≠ w.heap.size
      have := h.lt g.nb (by rw [h.rn]; simp)
      omega
  · intro b hb2
    exact upd_other _ _ (by omega)
  · have hF : Own g d := by unfold Own; rw [h.rd]; simp
    exact ((Moves.of_below hb (Own g)).setCell (fun _ => hF) _).setCell (fun _ => hF) _

set_option maxHeartbeats 1000000 in
set_option maxRecDepth 100000 in
theorem syncdir_any {w : World} {d : Nat} {g : Gh} {S : DS} (h : Rep w d g S) (hc : Sm S) :
    Calls Try.prog 29 #[ptr d] w (MPost w d g (opSyncDir S).1 (opSyncDir S).2) := by
  have HB := Lib.hid (begin_any h (by have := hc.1; omega) (.slice none 0 0) true (fun W _ => areNames_nil W 0))
  obtain ⟨r, Hr⟩ : ∃ r, Hid (begR S true = r) := ⟨_, rfl⟩
  clear h hc
  unfold ptr
  by_cases h0 : r.1 = 0
  · have e0 : (r.1 != 0) = false := by simp [h0]
    have HO : Hid (opSyncDir S = (0, { begS S with dur := S.now, chg := [] })) := by unfold Hid opSyncDir; rw [Hr.out, if_neg (by simp [h0])]
    clear h0
    go_enter Try.func29, Try.ntmps29
    go_wp2_with fail
    refine HB.out.mono ?_
    unfold BegPost
    rw [Hr.out]
    rintro e w2 ⟨rfl, hr2, hsz2, ho2, hm2⟩
    have c20 : w2.cell? ⟨d, 0, none⟩ = some (.map (some g.nb)) := cell_of hr2.dir rfl
    have HR2 := Lib.hid hr2
    have HM2 := Lib.hid hm2
    clear hr2 hsz2 ho2 hm2
    go_wp2_with fail
    refine (clone_any HR2.out.now).mono ?_
    rintro e w3 ⟨rfl, hdir3, hbl3⟩
    have hd3 : w3.heap[d]? = some (.cells (dirCells g (begS S)) 75 (0, 0)) := (hbl3.block d (lt_of_heap HR2.out.dir)).trans HR2.out.dir
    have c31 : w3.cell? ⟨d, 1, none⟩ = some (.map (some g.db)) := cell_of hd3 rfl
    have f31 : w3.frozen? ⟨d, 1, none⟩ = false := unfrozen_of hd3
    have c32 : w3.cell? ⟨d, 2, none⟩ = some g.cv := cell_of hd3 rfl
    have f32 : w3.frozen? ⟨d, 2, none⟩ = false := unfrozen_of hd3
    have HST := Lib.hid (syncdir_world HR2.out hbl3 hdir3)
    clear hdir3 hbl3 hd3
    go_wp2
    go_ret
    exact ⟨by rw [HO.out]; rfl, by rw [HO.out]; exact HST.out.after HM2.out⟩
  · have e0 : (r.1 != 0) = true := by simp [h0]
    have HO : Hid (opSyncDir S = (r.1, begS S)) := by unfold Hid opSyncDir; rw [Hr.out, if_pos h0]
    clear h0
    go_enter Try.func29, Try.ntmps29
    go_wp2_with fail
    refine HB.out.mono ?_
    unfold BegPost
    rw [Hr.out]
    rintro e w2 ⟨rfl, hr2, hsz2, ho2, hm2⟩
    have HR2 := Lib.hid hr2
    have HM2 := Lib.hid hm2
    clear hr2 hsz2 ho2 hm2
    go_wp2
    go_ret
    exact ⟨by rw [HO.out]; rfl, by rw [HO.out]; exact Step.of HR2.out HM2.out⟩

def halted (S : DS) : Bool := S.asked && (S.left : Int) == 0

/-- List -/
def ListPost (w : World) (l : AM) (e : Ending) (w' : World) : Prop :=
  ∃ v : Value, e = .returned v ∧ w'.ownsRow w.heap.size 9 1 v l.length ((l.map (·.1)).map encStr) ∧ Below w.heap.size w w'

set_option maxHeartbeats 1000000 in
set_option maxRecDepth 100000 in
theorem list_any {w : World} {d : Nat} {g : Gh} {S : DS} (h : Rep w d g S) (hs : S.now.length ≤ 1000000) (hh : halted S = false) :
    Calls Try.prog 35 #[ptr d] w (ListPost w S.now) := by
  have HD := Lib.hid h.now
  have HS := Lib.hid hs
  have HX := Lib.hid hh
  have c0 : w.cell? ⟨d, 0, none⟩ = some (.map (some g.nb)) := cell_of h.dir rfl
  have c4 : w.cell? ⟨d, 4, none⟩ = some (.bool S.asked) := cell_of h.dir rfl
  have c5 : w.cell? ⟨d, 5, none⟩ = some (.int .i64 (S.left : Int)) := cell_of h.dir rfl
  clear h hs hh
  unfold ptr
  go_enter Try.func35, Try.ntmps35
  go_wp2_with fail
  refine (come_any d 4 S.asked S.left _ (by go_simp) (by go_simp)).mono ?_
  rw [show (S.asked && (S.left : Int) == 0) = false from HX.out]
  rintro e w' ⟨rfl, rfl⟩
  go_wp2_with fail
  refine (keys_any (some g.nb) _).mono ?_
  rintro e w' ⟨rfl, rfl⟩
  go_wp2_with fail
  refine (sorted_any HD.out HS.out).mono ?_
  rintro e w' ⟨v, rfl, hrow, hbl⟩
  have HR := Lib.hid hrow
  have HB := Lib.hid hbl
  clear hrow hbl
  go_wp2
  go_ret
  exact ⟨v, rfl, row_base HR.out (by simp), ((Below.refl _ w).alloc (Nat.le_refl _) _).trans (HB.out.mono (by simp))⟩

set_option maxHeartbeats 400000 in
theorem calls_any {w : World} {d : Nat} {g : Gh} {S : DS} (h : Rep w d g S) :
    Calls Try.prog 31 #[ptr d] w fun e w' => e = .returned (.int .i64 (S.calls : Int)) ∧ w = w' := by
  have c3 : w.cell? ⟨d, 3, none⟩ = some (.int .i64 (S.calls : Int)) := cell_of h.dir rfl
  clear h
  unfold ptr
  go_enter Try.func31, Try.ntmps31
  go_wp2
  go_ret
  exact ⟨rfl, rfl⟩

/-- an empty directory -/
def DS0 : DS := { now := [], dur := [], chg := [], calls := 0, bd := 0, asked := false, left := 0, fl := 0, fe := 0, fp := 0, fs := fun _ => ([], 0) }

theorem isdir_empty {w : World} {b : Nat} (h : w.heap[b]? = some (.map #[] 0)) : IsDir Try.prog w b [] :=
  ⟨#[], 0, h, ⟨by simp, MapKept.stamped_empty 0, by simp⟩, Nat.le_refl _, rfl⟩

def NewPost (w : World) (e : Ending) (w' : World) : Prop := ∃ d g, e = .returned (ptr d) ∧ Rep w' d g DS0 ∧ Below w.heap.size w w' ∧ (∀ b, g.role b ≠ .no → w.heap.size ≤ b)

set_option maxHeartbeats 400000 in
theorem new_any (w : World) : Calls Try.prog 9 #[] w (NewPost w) := by
  have hmm := @run_makeMap Try.prog
  go_enter Try.func9, Try.ntmps9
  go_wp2
  go_ret
  refine ⟨w.heap.size + 1 + 1, { role := upd (upd (upd (fun _ => .no) w.heap.size .map) (w.heap.size + 1) .map) (w.heap.size + 1 + 1) .dir, nb := w.heap.size, db := w.heap.size + 1, cv := .slice none 0 0, cls := [], fv := fun _ => .slice none 0 0 }, rfl, ?_,
    (((Below.refl _ w).alloc (Nat.le_refl _) _).alloc (by simp) _).alloc (by simp; omega) _, ?_⟩
  · have h1 := heap_new w (.map #[] 0)
    have h2 := heap_new (w.alloc (.map #[] 0)) (.map #[] 0)
    have h3 := heap_new ((w.alloc (.map #[] 0)).alloc (.map #[] 0)) (.cells (dirCells { role := fun _ => .no, nb := w.heap.size, db := w.heap.size + 1, cv := .slice none 0 0, cls := [], fv := fun _ => .slice none 0 0 } DS0) 75)
    rw [show (w.alloc (.map #[] 0)).heap.size = w.heap.size + 1 by simp] at h2
    rw [show ((w.alloc (.map #[] 0)).alloc (.map #[] 0)).heap.size = w.heap.size + 1 + 1 by simp] at h3
    refine ⟨h3, upd_same _ _ _, isdir_empty ?_, isdir_empty ?_, ?_, ?_, ?_, ⟨rfl, .inl ⟨rfl, rfl⟩⟩, (fun a n c e => by cases e), ⟨rfl, fun i h1 h2 => by simp at h1⟩, ?_, (fun p hp => by cases hp), (fun p hp => by cases hp), (fun c hc => by cases hc), ?_, Nat.le_refl _, Nat.le_refl _, by decide, by decide, by decide⟩
    · refine (Below.heap_alloc _ _ _ ?_).trans ((Below.heap_alloc _ _ _ ?_).trans h1)
      · simp; omega
      · simp
    · refine (Below.heap_alloc _ _ _ ?_).trans h2
      simp
    · show upd (upd (upd _ _ _) _ _) _ _ w.heap.size = _
      unfold upd
      simp
      omega
    · show upd (upd (upd _ _ _) _ _) _ _ (w.heap.size + 1) = _
      unfold upd
      simp
    · show w.heap.size ≠ w.heap.size + 1
      omega
    · intro f hf
      exfalso
      revert hf
      show upd (upd (upd _ _ _) _ _) _ _ _ = _ → False
      unfold upd
      split
      · intro h; cases h
      · split
        · intro h; cases h
        · split <;> (intro h; cases h)
    · intro b hb
      revert hb
      show upd (upd (upd _ _ _) _ _) _ _ _ ≠ _ → _
      unfold upd
      split
      · intro _; simp; omega
      · split
        · intro _; simp; omega
        · split
          · intro _; simp; omega
          · intro h; exact absurd rfl h
  · intro b
    show upd (upd (upd _ _ _) _ _) _ _ _ ≠ _ → _
    unfold upd
    split
    · intro _; omega
    · split
      · intro _; omega
      · split
        · intro _; omega
        · intro h; exact absurd rfl h

end Go.Proofs.Ytjiklpoggpdngaa
