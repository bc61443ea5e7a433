/- Delete, Create, Rename, SyncDir. -/
import Derived.Test.YtjiklpoggpdngaaVfsF
namespace Go.Proofs.Ytjiklpoggpdngaa
open Go.RowKit Go.Maps

theorem Rep.drewN {w : World} {d : Nat} {g : Gh} {S : DS} (h : Rep w d g S) (n : Nat) : Rep (w.drewN n) d g S := h.frame (Nat.le_refl _) (fun _ _ => rfl)
theorem Moves.drewN {F : Nat → Prop} {a w : World} (h : Moves F a w) (n : Nat) : Moves F a (w.drewN n) := ⟨h.os, h.tape, h.output, h.size, h.block⟩
theorem isdir_drewN {P : Program} {w : World} {b : Nat} {l : AM} (h : IsDir P w b l) (n : Nat) : IsDir P (w.drewN n) b l := isdir_keep h rfl

theorem Rep.ext {w : World} {d : Nat} {g : Gh} {S : DS} (h : Rep w d g S) {b : Nat} (hb : g.role b = .no) (hlt : b < w.heap.size) (r : Role) (hr : r ≠ .no) (hf : r = .file → FileRep w { g with role := upd g.role b r } S b) :
    Rep w d { g with role := upd g.role b r } S := by
  have ro : ∀ x, g.role x ≠ .no → upd g.role b r x = g.role x := fun x hx => upd_other _ _ (by rintro rfl; exact hx hb)
  have rl : ∀ {x : Nat} {q : Role}, g.role x = q → q ≠ .no → upd g.role b r x = q := fun {x q} e n => by rw [ro x (by rw [e]; exact n)]; exact e
  refine h.turn (Nat.le_refl _) ro (fun _ _ => rfl) (fun f _ => ⟨rfl, fun _ _ => rfl, rfl, rfl⟩) ?_ h.dir h.now h.dur (rl h.rn (by simp)) (rl h.rb (by simp)) h.nd h.chs (fun a n c e => rl (h.rc a n c e) (by simp))
    ⟨h.cl.1, fun i h1 h2 => (h.cl.2 i h1 h2).keep fun x e => ⟨rfl, rl e (by simp)⟩⟩ (fun p hp => rl (h.fnow p hp) (by simp)) (fun p hp => rl (h.fdur p hp) (by simp)) (fun c hc x hx => rl (h.fchg c hc x hx) (by simp)) h.bnow h.bdur h.bleft h.bfl h.bfp
  intro x e1 e2
  have hx : x = b := by
    apply Classical.byContradiction
    intro e
    apply e2
    show upd g.role b r x = .no
    rw [upd_other _ _ e]; exact e1
  subst hx
  refine ⟨hlt, fun e => hf ?_⟩
  rw [← e]; exact (upd_same _ _ _).symm

theorem Rep.fresh {w : World} {d : Nat} {g : Gh} {S : DS} (h : Rep w d g S) {b : Nat} (hb : w.heap.size ≤ b) : g.role b = .no := by
  apply Classical.byContradiction
  intro e
  have := h.lt b e
  omega

theorem Step.chain {w w1 w' : World} {d : Nat} {g g1 : Gh} {S' : DS} (h : Step w1 w' d g1 S') (hro : ∀ b, b < w.heap.size → g1.role b = g.role b) (m : Moves (Own g) w w1) : Step w w' d g S' := by
  obtain ⟨g', h1, h2, h3⟩ := h
  refine ⟨g', h1, fun b hb => (h2 b (Nat.lt_of_lt_of_le hb m.size)).trans (hro b hb), m.trans h3 (fun i hi e => ?_)⟩
  unfold Own at e ⊢
  rw [← hro i hi]; exact e

def opDelete (S : DS) (n : Nm) : Int × DS :=
  if (begR S (goodNm n)).1 ≠ 0 then ((begR S (goodNm n)).1, begS S) else
  match aget S.now n with
  | none => (10, begS S)
  | some _ => (0, { begS S with now := apCh (.del n) S.now, chg := S.chg ++ [.del n] })

theorem drewN_zero (w : World) : w.drewN 0 = w := rfl

/-- begin behind a box for the name and a row of it -/
theorem beg_box {w : World} {d : Nat} {g : Gh} {S : DS} (h : Rep w d g S) (hc : Sm S) (s : ByteArray) (hs : s.size ≤ maxLen) :
    Calls Try.prog 66 #[ptr d, .slice (some ⟨w.heap.size + 1, 0, none⟩) 1 1] ((w.alloc (.cells #[.string s] 9)).alloc (.cells #[.string s] 9))
      (BegPost ((w.alloc (.cells #[.string s] 9)).alloc (.cells #[.string s] 9)) d g S (goodNm s.data.toList)) := by
  have hd := lt_of_heap h.dir
  refine begin_any ((h.alloc _).alloc _) (by have := hc.1; omega) _ _ (fun W hW => names_one ?_ hs)
  rw [hW _ (by omega)]
  have := heap_new (w.alloc (.cells #[.string s] 9)) (.cells #[.string s] 9)
  simpa using this

theorem del_world {w w2 : World} {d : Nat} {g : Gh} {S : DS} (h : Rep w2 d g S) (s : ByteArray) (hs : s.size ≤ maxLen) (hbox : one w2 w.heap.size (.string s) 9) (hno : g.role w.heap.size = .no)
    (h1 : S.now.length + 1 ≤ S.bd) (h2 : S.dur.length + S.chg.length + 1 ≤ S.bd) (h3 : S.bd < 1000000) :
    Calls Try.prog 67 #[ptr d, .func (.func 72) #[] #[ptr w.heap.size]] w2
      (ChangePost w2 d { g with role := upd g.role w.heap.size .box } { S with now := apCh (.del s.data.toList) S.now, chg := S.chg ++ [.del s.data.toList] }) := by
  have hr := h.ext hno (lt_of_heap hbox) .box (by simp) (fun e => by cases e)
  exact change_any hr _ (.del s.data.toList) ⟨w.heap.size, s, rfl, upd_same _ _ _, hbox, rfl, hs⟩ (fun f hf => by cases hf) h1 h2 h3 72 #[ptr w.heap.size] rfl (.inr (.inr ⟨rfl, _, rfl⟩)) (ch_del hr.now hbox hs)

set_option maxHeartbeats 1000000 in
set_option maxRecDepth 100000 in
theorem delete_any {w : World} {d : Nat} {g : Gh} {S : DS} (h : Rep w d g S) (hc : Sm S) (s : ByteArray) (hs : s.size ≤ maxLen) :
    Calls Try.prog 33 #[ptr d, .string s] w (MPost w d g (opDelete S s.data.toList).1 (opDelete S s.data.toList).2) := by
  have HH := Lib.hid h
  have HS := Lib.hid hs
  have hdl := lt_of_heap h.dir
  have HDL := Lib.hid hdl
  have HC := Lib.hid hc
  have HB := Lib.hid (beg_box h hc s hs)
  have HM : Hid (Moves (Own g) w ((w.alloc (.cells #[.string s] 9)).alloc (.cells #[.string s] 9))) := ((Moves.refl _ w).alloc _).alloc _
  obtain ⟨r, Hr⟩ : ∃ r, Hid (begR S (goodNm s.data.toList) = r) := ⟨_, rfl⟩
  clear h hs hdl hc
  unfold ptr
  by_cases h0 : r.1 = 0
  · have e0 : (r.1 != 0) = false := by simp [h0]
    have H0 := Lib.hid h0
    clear h0
    cases hg : aget S.now s.data.toList with
    | none =>
      have HO : Hid (opDelete S s.data.toList = (10, begS S)) := by unfold Hid opDelete; rw [Hr.out, if_neg (by simp [H0.out]), hg]
      have HG := Lib.hid hg
      clear hg
      go_enter Try.func33, Try.ntmps33
      go_wp2_with fail
      refine HB.out.mono ?_
      unfold BegPost
      rw [Hr.out]
      rintro e w2 ⟨rfl, hr2, hsz2, ho2, hm2⟩
      have c20 : w2.cell? ⟨d, 0, none⟩ = some (.map (some g.nb)) := cell_of hr2.dir rfl
      have cb : w2.cell? ⟨w.heap.size, 0, none⟩ = some (.string s) := by
        have := heap_new w (.cells #[.string s] 9)
        rw [← Below.heap_alloc (w.alloc (.cells #[.string s] 9)) (.cells #[.string s] 9) _ (by simp), ← ho2 _ (by have := HDL.out; omega)] at this
        exact cell_of this rfl
      have hl2 := fun n => look_run (isdir_drewN hr2.now n) HS.out
      have hg' : aget (begS S).now s.data.toList = none := HG.out
      simp only [hg', fileV] at hl2
      have hl20 := hl2 0
      rw [drewN_zero] at hl20
      have HR2 := Lib.hid hr2
      have HM2 := Lib.hid hm2
      clear hr2 hsz2 ho2 hm2 hg'
      go_wp2
      go_quiet (fail)
      go_wp2
      go_ret
      exact ⟨by rw [HO.out]; rfl, by rw [HO.out]; exact Step.of (HR2.out.drewN _) ((HM.out.trans HM2.out (fun _ _ e => e)).drewN _)⟩
    | some f =>
      have HO : Hid (opDelete S s.data.toList = (0, { begS S with now := apCh (.del s.data.toList) S.now, chg := S.chg ++ [.del s.data.toList] })) := by unfold Hid opDelete; rw [Hr.out, if_neg (by simp [H0.out]), hg]
      have HG := Lib.hid hg
      clear hg
      go_enter Try.func33, Try.ntmps33
      go_wp2_with fail
      refine HB.out.mono ?_
      unfold BegPost
      rw [Hr.out]
      rintro e w2 ⟨rfl, hr2, hsz2, ho2, hm2⟩
      have c20 : w2.cell? ⟨d, 0, none⟩ = some (.map (some g.nb)) := cell_of hr2.dir rfl
      have cb : w2.cell? ⟨w.heap.size, 0, none⟩ = some (.string s) := by
        have := heap_new w (.cells #[.string s] 9)
        rw [← Below.heap_alloc (w.alloc (.cells #[.string s] 9)) (.cells #[.string s] 9) _ (by simp), ← ho2 _ (by have := HDL.out; omega)] at this
        exact cell_of this rfl
      have hl2 := fun n => look_run (isdir_drewN hr2.now n) HS.out
      have hg' : aget (begS S).now s.data.toList = some f := HG.out
      simp only [hg', fileV, ptr] at hl2
      have hl20 := hl2 0
      rw [drewN_zero] at hl20
      have HBX : Hid (one w2 w.heap.size (.string s) 9) := by
        have := heap_new w (.cells #[.string s] 9)
        rw [← Below.heap_alloc (w.alloc (.cells #[.string s] 9)) (.cells #[.string s] 9) _ (by simp), ← ho2 _ (by have := HDL.out; omega)] at this
        exact this
      have HR2 := Lib.hid hr2
      have HM2 := Lib.hid hm2
      clear hr2 hsz2 ho2 hm2 hg'
      go_wp2
      go_quiet (fail)
      go_wp2_with fail
      refine (del_world (w := w) (HR2.out.drewN _) s HS.out HBX.out (HH.out.fresh (Nat.le_refl _)) (Nat.succ_le_succ HH.out.bnow) (Nat.succ_le_succ HH.out.bdur) (by have := HC.out.2; show S.bd + 1 < 1000000; omega)).mono ?_
      rintro e w3 ⟨rfl, hst⟩
      have HST := Lib.hid hst
      clear hst
      go_wp2
      go_ret
      exact ⟨by rw [HO.out]; rfl, by rw [HO.out]; exact HST.out.chain (fun b hb => upd_other _ _ (by omega)) ((HM.out.trans HM2.out (fun _ _ e => e)).drewN _)⟩
  · have e0 : (r.1 != 0) = true := by simp [h0]
    have HO : Hid (opDelete S s.data.toList = (r.1, begS S)) := by unfold Hid opDelete; rw [Hr.out, if_pos h0]
    clear h0
    go_enter Try.func33, Try.ntmps33
    go_wp2_with fail
    refine HB.out.mono ?_
    unfold BegPost
    rw [Hr.out]
    rintro e w2 ⟨rfl, hr2, hsz2, ho2, hm2⟩
    have HR2 := Lib.hid hr2
    have HM2 := Lib.hid hm2
    clear hr2 hsz2 ho2 hm2
    go_wp2
    go_ret
    exact ⟨by rw [HO.out]; rfl, by rw [HO.out]; exact Step.of HR2.out (HM.out.trans HM2.out (fun _ _ e => e))⟩


/-- a new file, empty -/
theorem Rep.newfile {w : World} {d : Nat} {g : Gh} {S : DS} (h : Rep w d g S) {b : Nat} (hb : g.role b = .no) (hblk : w.heap[b]? = some (.cells #[.slice none 0 0, .int .i64 0] 85 (0, 0))) :
    Rep w d { g with role := upd g.role b .file, fv := upd g.fv b (.slice none 0 0) } { S with fs := upd S.fs b ([], 0) } := by
  have ro : ∀ x, g.role x ≠ .no → upd g.role b .file x = g.role x := fun x hx => upd_other _ _ (by rintro rfl; exact hx hb)
  have rl : ∀ {x : Nat} {q : Role}, g.role x = q → q ≠ .no → upd g.role b .file x = q := fun {x q} e n => by rw [ro x (by rw [e]; exact n)]; exact e
  refine h.turn (Nat.le_refl _) ro (fun _ _ => rfl) (fun f hf => ⟨rfl, fun _ _ => rfl, upd_other _ _ (by rintro rfl; rw [hb] at hf; cases hf), upd_other _ _ (by rintro rfl; rw [hb] at hf; cases hf)⟩) ?_ h.dir h.now h.dur (rl h.rn (by simp)) (rl h.rb (by simp)) h.nd h.chs (fun a n c e => rl (h.rc a n c e) (by simp))
    ⟨h.cl.1, fun i h1 h2 => (h.cl.2 i h1 h2).keep fun x e => ⟨rfl, rl e (by simp)⟩⟩ (fun p hp => rl (h.fnow p hp) (by simp)) (fun p hp => rl (h.fdur p hp) (by simp)) (fun c hc x hx => rl (h.fchg c hc x hx) (by simp)) h.bnow h.bdur h.bleft h.bfl h.bfp
  intro x e1 e2
  have hx : x = b := by
    apply Classical.byContradiction
    intro e
    apply e2
    show upd g.role b .file x = .no
    rw [upd_other _ _ e]; exact e1
  subst hx
  refine ⟨lt_of_heap hblk, fun _ => ⟨?_, ?_, ?_, ?_, ?_⟩⟩
  · simp only [upd_same]; exact hblk
  · simp only [upd_same]; exact ⟨rfl, .inl ⟨rfl, rfl⟩⟩
  · intro a n c e; simp only [upd_same] at e; cases e
  · simp only [upd_same]; exact Nat.le_refl _
  · simp only [upd_same]; simp

def opCreate (S : DS) (n : Nm) (f : Nat) : Int × DS :=
  if (begR S (goodNm n)).1 ≠ 0 then ((begR S (goodNm n)).1, begS S) else
  if aget S.now n ≠ none then (11, begS S) else
  if 4096 ≤ S.now.length then (3, begS S) else
  (0, { begS S with now := apCh (.put n f) S.now, chg := S.chg ++ [.put n f], fs := upd S.fs f ([], 0) })

/-- Create's new file has a block of its own: one that was not there -/
def CPost (w : World) (d : Nat) (g : Gh) (S : DS) (n : Nm) (e : Ending) (w' : World) : Prop :=
  ∃ f, w.heap.size ≤ f ∧ e = .returned (.int .i64 (opCreate S n f).1) ∧ Step w w' d g (opCreate S n f).2

theorem create_world {w : World} {d : Nat} {g : Gh} {S : DS} (h : Rep w d g S) {nb : Nat} (s : ByteArray) (hs : s.size ≤ maxLen) (hbox : one w nb (.string s) 9) (hrb : g.role nb = .box)
    (h1 : S.now.length + 1 ≤ S.bd) (h2 : S.dur.length + S.chg.length + 1 ≤ S.bd) (h3 : S.bd < 1000000) :
    Calls Try.prog 67 #[ptr d, .func (.func 68) #[] #[ptr (w.heap.size + 1), ptr nb]]
      ((w.alloc (.cells #[.slice none 0 0, .int .i64 0] 85)).alloc (.cells #[ptr w.heap.size] 82)) (ChangePost w d g { S with now := apCh (.put s.data.toList w.heap.size) S.now, chg := S.chg ++ [.put s.data.toList w.heap.size], fs := upd S.fs w.heap.size ([], 0) }) := by
  have hlt := lt_of_heap hbox
  have b1 : ((w.alloc (.cells #[.slice none 0 0, .int .i64 0] 85)).alloc (.cells #[ptr w.heap.size] 82)).heap[w.heap.size]? = some (.cells #[.slice none 0 0, .int .i64 0] 85 (0, 0)) := by
    rw [Below.heap_alloc _ _ _ (by simp)]; exact heap_new _ _
  have b2 : one ((w.alloc (.cells #[.slice none 0 0, .int .i64 0] 85)).alloc (.cells #[ptr w.heap.size] 82)) (w.heap.size + 1) (ptr w.heap.size) 82 := by
    have := heap_new (w.alloc (.cells #[.slice none 0 0, .int .i64 0] 85)) (.cells #[ptr w.heap.size] 82)
    simpa [one] using this
  have b3 : one ((w.alloc (.cells #[.slice none 0 0, .int .i64 0] 85)).alloc (.cells #[ptr w.heap.size] 82)) nb (.string s) 9 := by
    refine one_keep hbox ?_
    rw [Below.heap_alloc _ _ _ (by simp; omega), Below.heap_alloc _ _ _ hlt]
  have hn1 : g.role w.heap.size = .no := h.fresh (Nat.le_refl _)
  have hn2 : g.role (w.heap.size + 1) = .no := h.fresh (Nat.le_succ _)
  have r1 := ((h.alloc (.cells #[.slice none 0 0, .int .i64 0] 85)).alloc (.cells #[ptr w.heap.size] 82)).newfile hn1 b1
  have r2 := r1.ext (b := w.heap.size + 1) (by show upd g.role _ _ _ = _; rw [upd_other _ _ (by omega)]; exact hn2) (by simp) .box (by simp) (fun e => by cases e)
  have hfile : upd (upd g.role w.heap.size .file) (w.heap.size + 1) .box w.heap.size = .file := by
    rw [upd_other _ _ (by omega), upd_same]
  refine (change_any r2 _ (.put s.data.toList w.heap.size) ⟨w.heap.size + 1, nb, s, rfl, upd_same _ _ _, ?_, b2, b3, rfl, hs⟩ ?_ h1 h2 h3 68 #[ptr (w.heap.size + 1), ptr nb] rfl (.inl ⟨rfl, _, _, rfl⟩) (ch_put r2.now (by have h4 : S.now.length + 1 ≤ S.bd := h1; show S.now.length < _; omega) b2 b3 hs)).mono ?_
  · show upd (upd g.role w.heap.size .file) (w.heap.size + 1) .box nb = .box
    rw [upd_other _ _ (by omega), upd_other _ _ (by omega)]; exact hrb
  · intro f hf
    simp [filesOf] at hf
    subst hf
    exact hfile
  · rintro e w' ⟨he, hst⟩
    refine ⟨he, hst.chain ?_ (((Moves.refl _ w).alloc _).alloc _)⟩
    intro b hb
    show upd (upd g.role w.heap.size .file) (w.heap.size + 1) .box b = g.role b
    rw [upd_other _ _ (by omega), upd_other _ _ (by omega)]

theorem CPost.of {w : World} {d : Nat} {g : Gh} {S : DS} {n : Nm} (f : Nat) {r : Int} {w' : World} {S' : DS} (hf : w.heap.size ≤ f) (ho : opCreate S n f = (r, S')) (hs : Step w w' d g S') : CPost w d g S n (.returned (.int .i64 r)) w' :=
  ⟨f, hf, by rw [ho], by rw [ho]; exact hs⟩

set_option maxHeartbeats 1000000 in
set_option maxRecDepth 100000 in
theorem create_any {w : World} {d : Nat} {g : Gh} {S : DS} (h : Rep w d g S) (hc : Sm S) (s : ByteArray) (hs : s.size ≤ maxLen) :
    Calls Try.prog 28 #[ptr d, .string s] w (CPost w d g S s.data.toList) := by
  have HH := Lib.hid h
  have HS := Lib.hid hs
  have hdl := lt_of_heap h.dir
  have HDL := Lib.hid hdl
  have HC := Lib.hid hc
  have HB := Lib.hid (beg_box h hc s hs)
  have HM : Hid (Moves (Own g) w ((w.alloc (.cells #[.string s] 9)).alloc (.cells #[.string s] 9))) := ((Moves.refl _ w).alloc _).alloc _
  obtain ⟨r, Hr⟩ : ∃ r, Hid (begR S (goodNm s.data.toList) = r) := ⟨_, rfl⟩
  clear h hs hdl hc
  unfold ptr
  by_cases h0 : r.1 = 0
  · have e0 : (r.1 != 0) = false := by simp [h0]
    have H0 := Lib.hid h0
    clear h0
    cases hg : aget S.now s.data.toList with
    | some f =>
      have HO : Hid (∀ f, opCreate S s.data.toList f = (11, begS S)) := by intro f; unfold opCreate; rw [Hr.out, if_neg (by simp [H0.out]), hg, if_pos (by simp)]
      have HG := Lib.hid hg
      clear hg
      go_enter Try.func28, Try.ntmps28
      go_wp2_with fail
      refine HB.out.mono ?_
      unfold BegPost
      rw [Hr.out]
      rintro e w2 ⟨rfl, hr2, hsz2, ho2, hm2⟩
      have c20 : w2.cell? ⟨d, 0, none⟩ = some (.map (some g.nb)) := cell_of hr2.dir rfl
      have cb : w2.cell? ⟨w.heap.size, 0, none⟩ = some (.string s) := by
        have := heap_new w (.cells #[.string s] 9)
        rw [← Below.heap_alloc (w.alloc (.cells #[.string s] 9)) (.cells #[.string s] 9) _ (by simp), ← ho2 _ (by have := HDL.out; omega)] at this
        exact cell_of this rfl
      have hl2 := fun n => look_run (isdir_drewN hr2.now n) HS.out
      have hg' : aget (begS S).now s.data.toList = some f := HG.out
      simp only [hg', fileV, ptr] at hl2
      have hl20 := hl2 0
      rw [drewN_zero] at hl20
      have HR2 := Lib.hid hr2
      have HM2 := Lib.hid hm2
      clear hr2 hsz2 ho2 hm2 hg'
      go_wp2
      go_quiet (fail)
      go_wp2
      go_ret
      exact CPost.of _ (Nat.le_refl _) (HO.out _) (Step.of (HR2.out.drewN _) ((HM.out.trans HM2.out (fun _ _ e => e)).drewN _))
    | none =>
      by_cases hfull : 4096 ≤ S.now.length
      all_goals
        have HF := Lib.hid hfull
        have HG := Lib.hid hg
        clear hg
        go_enter Try.func28, Try.ntmps28
        go_wp2_with fail
        refine HB.out.mono ?_
        unfold BegPost
        rw [Hr.out]
        rintro e w2 ⟨rfl, hr2, hsz2, ho2, hm2⟩
        have c20 : w2.cell? ⟨d, 0, none⟩ = some (.map (some g.nb)) := cell_of hr2.dir rfl
        have cb : w2.cell? ⟨w.heap.size, 0, none⟩ = some (.string s) := by
          have := heap_new w (.cells #[.string s] 9)
          rw [← Below.heap_alloc (w.alloc (.cells #[.string s] 9)) (.cells #[.string s] 9) _ (by simp), ← ho2 _ (by have := HDL.out; omega)] at this
          exact cell_of this rfl
        have hl2 := fun n => look_run (isdir_drewN hr2.now n) HS.out
        have hlen := fun ty n => World.ownsMap.len (isdir_drewN hr2.now n) Try.underlying68 ty
        rw [size_toD] at hlen
        have hg' : aget (begS S).now s.data.toList = none := HG.out
        simp only [hg', fileV] at hl2
        have hl20 := hl2 0
        rw [drewN_zero] at hl20
        have HBX : Hid (one w2 w.heap.size (.string s) 9) := by
          have := heap_new w (.cells #[.string s] 9)
          rw [← Below.heap_alloc (w.alloc (.cells #[.string s] 9)) (.cells #[.string s] 9) _ (by simp), ← ho2 _ (by have := HDL.out; omega)] at this
          exact this
        have HSZ := Lib.hid hsz2
        have HR2 := Lib.hid hr2
        have HM2 := Lib.hid hm2
        have hfl : S.now.length = (begS S).now.length := rfl
        rw [hfl] at hfull
        clear hr2 hsz2 ho2 hm2 hg' hfl
        go_wp2
        go_quiet (fail)
        go_wp2_with fail
      · have HO : Hid (∀ f, opCreate S s.data.toList f = (3, begS S)) := by intro f; unfold opCreate; rw [Hr.out, if_neg (by simp [H0.out]), HG.out, if_neg (by simp), if_pos HF.out]
        go_ret
        exact CPost.of _ (Nat.le_refl _) (HO.out _) (Step.of (HR2.out.drewN _) ((HM.out.trans HM2.out (fun _ _ e => e)).drewN _))
      · have HO : Hid (∀ f, opCreate S s.data.toList f = (0, { begS S with now := apCh (.put s.data.toList f) S.now, chg := S.chg ++ [.put s.data.toList f], fs := upd S.fs f ([], 0) })) := by intro f; unfold opCreate; rw [Hr.out, if_neg (by simp [H0.out]), HG.out, if_neg (by simp), if_neg HF.out]
        refine (create_world (g := { g with role := upd g.role w.heap.size .box }) ((HR2.out.drewN _).ext (HH.out.fresh (Nat.le_refl _)) (lt_of_heap HBX.out) .box (by simp) (fun e => by cases e)) s HS.out HBX.out (upd_same _ _ _) (Nat.succ_le_succ HH.out.bnow) (Nat.succ_le_succ HH.out.bdur) (by have := HC.out.2; show S.bd + 1 < 1000000; omega)).mono ?_
        rintro e w3 ⟨rfl, hst⟩
        have HST := Lib.hid hst
        clear hst
        go_wp2
        go_ret
        exact CPost.of _ (by have := HSZ.out; simp at this; show w.heap.size ≤ w2.heap.size; omega) (HO.out _) (HST.out.chain (fun b hb => upd_other _ _ (by omega)) ((HM.out.trans HM2.out (fun _ _ e => e)).drewN _))
  · have e0 : (r.1 != 0) = true := by simp [h0]
    have HO : Hid (∀ f, opCreate S s.data.toList f = (r.1, begS S)) := by intro f; unfold opCreate; rw [Hr.out, if_pos h0]
    clear h0
    go_enter Try.func28, Try.ntmps28
    go_wp2_with fail
    refine HB.out.mono ?_
    unfold BegPost
    rw [Hr.out]
    rintro e w2 ⟨rfl, hr2, hsz2, ho2, hm2⟩
    have HR2 := Lib.hid hr2
    have HM2 := Lib.hid hm2
    clear hr2 hsz2 ho2 hm2
    go_wp2
    go_ret
    exact CPost.of _ (Nat.le_refl _) (HO.out _) (Step.of HR2.out (HM.out.trans HM2.out (fun _ _ e => e)))


end Go.Proofs.Ytjiklpoggpdngaa
