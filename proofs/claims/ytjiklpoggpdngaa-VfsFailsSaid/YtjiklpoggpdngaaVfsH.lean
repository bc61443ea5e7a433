/- Rename. -/
import Derived.Test.YtjiklpoggpdngaaVfsG
namespace Go.Proofs.Ytjiklpoggpdngaa
open Go.RowKit Go.Maps

def opRename (S : DS) (a b : Nm) : Int × DS :=
  if (begR S (goodNm a && goodNm b)).1 ≠ 0 then ((begR S (goodNm a && goodNm b)).1, begS S) else
  match aget S.now a with
  | none => (10, begS S)
  | some f => if a = b then (0, begS S) else (0, { begS S with now := apCh (.ren a b f) S.now, chg := S.chg ++ [.ren a b f] })

def ren0 (w : World) (s t : ByteArray) : World := (((w.alloc (.cells #[.string s] 9)).alloc (.cells #[.string t] 9)).alloc (.cells #[.string s, .string t] 9))

theorem beg_box2 {w : World} {d : Nat} {g : Gh} {S : DS} (h : Rep w d g S) (hc : Sm S) (s t : ByteArray) (hs : s.size ≤ maxLen) (ht : t.size ≤ maxLen) :
    Calls Try.prog 66 #[ptr d, .slice (some ⟨w.heap.size + 1 + 1, 0, none⟩) 2 2] (((w.alloc (.cells #[.string s] 9)).alloc (.cells #[.string t] 9)).alloc (.cells #[.string s, .string t] 9))
      (BegPost (ren0 w s t) d g S (goodNm s.data.toList && goodNm t.data.toList)) := by
  have hd := lt_of_heap h.dir
  refine begin_any (((h.alloc _).alloc _).alloc _) (by have := hc.1; omega) _ _ (fun W hW => names_two ?_ hs ht)
  rw [hW _ (by omega)]
  have := heap_new ((w.alloc (.cells #[.string s] 9)).alloc (.cells #[.string t] 9)) (.cells #[.string s, .string t] 9)
  simpa using this

theorem ren_boxes {w w2 : World} {d : Nat} {s t : ByteArray} (hd : d < w.heap.size) (ho : ∀ b, b ≠ d → w2.heap[b]? = (ren0 w s t).heap[b]?) : one w2 w.heap.size (.string s) 9 ∧ one w2 (w.heap.size + 1) (.string t) 9 := by
  have h1 := heap_new w (.cells #[.string s] 9)
  have h2 := heap_new (w.alloc (.cells #[.string s] 9)) (.cells #[.string t] 9)
  rw [show (w.alloc (.cells #[.string s] 9)).heap.size = w.heap.size + 1 by simp] at h2
  constructor
  · unfold one
    rw [ho _ (by omega)]; unfold ren0
    rw [Below.heap_alloc _ _ _ (by simp; omega), Below.heap_alloc _ _ _ (by simp)]; exact h1
  · unfold one
    rw [ho _ (by omega)]; unfold ren0
    rw [Below.heap_alloc _ _ _ (by simp)]; exact h2

theorem ba_ext {s t : ByteArray} (h : s.data.toList = t.data.toList) : s = t := by
  cases s; cases t
  simp at h
  rw [h]

theorem ba_toList {s t : ByteArray} (h : s.toList = t.toList) : s.data.toList = t.data.toList := by
  rw [ByteArray.toList_eq, ByteArray.toList_eq] at h
  exact h

theorem known_plain {w : World} {g : Gh} {S : DS} {f : Nat} (h : Known w g S f) : Plain w f := ⟨_, _, h.rep.blk⟩
theorem plain_alloc {w : World} {b : Nat} (h : Plain w b) (o : Obj) : Plain (w.alloc o) b := by
  obtain ⟨c, t, h⟩ := h
  exact ⟨c, t, (Below.heap_alloc _ _ _ (lt_of_heap h)).trans h⟩

theorem ren_world {w w2 : World} {d : Nat} {g : Gh} {S : DS} (h : Rep w2 d g S) (s t : ByteArray) (hs : s.size ≤ maxLen) (ht : t.size ≤ maxLen) {f : Nat} (hb1 : one w2 w.heap.size (.string s) 9) (hb2 : one w2 (w.heap.size + 1) (.string t) 9)
    (hn1 : g.role w.heap.size = .no) (hn2 : g.role (w.heap.size + 1) = .no) (hf : Known w2 g S f) (h1 : S.now.length + 1 ≤ S.bd) (h2 : S.dur.length + S.chg.length + 1 ≤ S.bd) (h3 : S.bd < 1000000) :
    Calls Try.prog 67 #[ptr d, .func (.func 69) #[] #[ptr w.heap.size, ptr w2.heap.size, ptr (w.heap.size + 1)]] (w2.alloc (.cells #[ptr f] 82)).drew fun e w' => e = .returned (.tuple #[]) ∧
      Step w2 w' d { g with role := upd (upd g.role w.heap.size .box) (w.heap.size + 1) .box } { S with now := apCh (.ren s.data.toList t.data.toList f) S.now, chg := S.chg ++ [.ren s.data.toList t.data.toList f] } := by
  have l1 := lt_of_heap hb1
  have l2 := lt_of_heap hb2
  have r1 := h.ext hn1 l1 .box (by simp) (fun e => by cases e)
  have r2 := r1.ext (b := w.heap.size + 1) (by show upd g.role _ _ _ = _; rw [upd_other _ _ (by omega)]; exact hn2) l2 .box (by simp) (fun e => by cases e)
  have r3 := (r2.alloc (.cells #[ptr f] 82)).drewN 1
  have hn3 : g.role w2.heap.size = .no := h.fresh (Nat.le_refl _)
  have r4 := r3.ext (b := w2.heap.size) (by show upd (upd g.role _ _) _ _ _ = _; rw [upd_other _ _ (by omega), upd_other _ _ (by omega)]; exact hn3) (by show _ < (w2.alloc _).heap.size; simp) .box (by simp) (fun e => by cases e)
  have hfl : f < w2.heap.size := lt_of_heap hf.rep.blk
  have ne1 : f ≠ w.heap.size := by rintro rfl; have := hf.role; rw [hn1] at this; cases this
  have ne2 : f ≠ w.heap.size + 1 := by intro e; have := hf.role; rw [e, hn2] at this; cases this
  have k1 : one (w2.alloc (.cells #[ptr f] 82)).drew w.heap.size (.string s) 9 := one_keep hb1 (Below.heap_alloc _ _ _ l1)
  have k2 : one (w2.alloc (.cells #[ptr f] 82)).drew (w.heap.size + 1) (.string t) 9 := one_keep hb2 (Below.heap_alloc _ _ _ l2)
  have k3 : one (w2.alloc (.cells #[ptr f] 82)).drew w2.heap.size (ptr f) 82 := heap_new w2 _
  have ro : ∀ b, b ≠ w2.heap.size → b ≠ w.heap.size → b ≠ w.heap.size + 1 → upd (upd (upd g.role w.heap.size .box) (w.heap.size + 1) .box) w2.heap.size .box b = g.role b := by
    intro b a1 a2 a3
    rw [upd_other _ _ a1, upd_other _ _ a3, upd_other _ _ a2]
  have nmap : ∀ b, upd (upd (upd g.role w.heap.size .box) (w.heap.size + 1) .box) w2.heap.size .box b = .box → b ≠ g.nb := by
    intro b hb e
    have := r4.rn
    rw [← show b = _ from e] at this
    rw [show upd (upd (upd g.role w.heap.size .box) (w.heap.size + 1) .box) w2.heap.size .box b = .map from this] at hb
    cases hb
  have hb1' : upd (upd (upd g.role w.heap.size .box) (w.heap.size + 1) .box) w2.heap.size .box w.heap.size = .box := by rw [upd_other _ _ (by omega), upd_other _ _ (by omega), upd_same]
  have hb2' : upd (upd (upd g.role w.heap.size .box) (w.heap.size + 1) .box) w2.heap.size .box (w.heap.size + 1) = .box := by rw [upd_other _ _ (by omega), upd_same]
  have hb3' : upd (upd (upd g.role w.heap.size .box) (w.heap.size + 1) .box) w2.heap.size .box w2.heap.size = .box := upd_same _ _ _
  refine (change_any r4 _ (.ren s.data.toList t.data.toList f) ⟨w.heap.size, w2.heap.size, w.heap.size + 1, s, t, rfl, hb1', hb3', hb2', k1, k3, k2, rfl, rfl, hs, ht⟩ ?_ h1 h2 h3 69 #[ptr w.heap.size, ptr w2.heap.size, ptr (w.heap.size + 1)] rfl (.inr (.inl ⟨rfl, _, _, _, rfl⟩))
    (ch_ren r4.now (by have h4 : S.now.length + 1 ≤ S.bd := h1; show S.now.length < _; omega) k1 k3 k2 (nmap _ hb1') (nmap _ hb3') (nmap _ hb2') hs ht (plain_alloc (known_plain hf) _) (fun p hp => ?_))).mono ?_
  · intro x hx
    simp [filesOf] at hx
    subst hx
    exact (ro x (by omega) ne1 ne2).trans hf.role
  · have hp2 := h.fnow p hp
    obtain ⟨c, t, hb⟩ : Plain w2 p.2 := ⟨_, _, (h.fl _ hp2).blk⟩
    exact ⟨c, t, (Below.heap_alloc _ _ _ (lt_of_heap hb)).trans hb⟩
  · rintro e w' ⟨he, hst⟩
    refine ⟨he, hst.chain (fun b hb => ?_) (((Moves.refl _ w2).alloc _).drewN 1)⟩
    show upd (upd (upd g.role w.heap.size .box) (w.heap.size + 1) .box) w2.heap.size .box b = upd (upd g.role w.heap.size .box) (w.heap.size + 1) .box b
    rw [upd_other _ _ (by omega)]

set_option maxHeartbeats 1000000 in
set_option maxRecDepth 100000 in
theorem rename_any {w : World} {d : Nat} {g : Gh} {S : DS} (h : Rep w d g S) (hc : Sm S) (s t : ByteArray) (hs : s.size ≤ maxLen) (ht : t.size ≤ maxLen) :
    Calls Try.prog 30 #[ptr d, .string s, .string t] w (MPost w d g (opRename S s.data.toList t.data.toList).1 (opRename S s.data.toList t.data.toList).2) := by
  have HH := Lib.hid h
  have HS := Lib.hid hs
  have HT := Lib.hid ht
  have hdl := lt_of_heap h.dir
  have HDL := Lib.hid hdl
  have HC := Lib.hid hc
  have HB := Lib.hid (beg_box2 h hc s t hs ht)
  have HM : Hid (Moves (Own g) w (ren0 w s t)) := (((Moves.refl _ w).alloc _).alloc _).alloc _
  obtain ⟨r, Hr⟩ : ∃ r, Hid (begR S (goodNm s.data.toList && goodNm t.data.toList) = r) := ⟨_, rfl⟩
  clear h hs ht hdl hc
  unfold ptr
  by_cases h0 : r.1 = 0
  · have e0 : (r.1 != 0) = false := by simp [h0]
    have H0 := Lib.hid h0
    clear h0
    cases hg : aget S.now s.data.toList with
    | none =>
      have HO : Hid (opRename S s.data.toList t.data.toList = (10, begS S)) := by unfold Hid opRename; rw [Hr.out, if_neg (by simp [H0.out]), hg]
      have HG := Lib.hid hg
      clear hg
      go_enter Try.func30, Try.ntmps30
      go_wp2_with fail
      refine HB.out.mono ?_
      unfold BegPost
      rw [Hr.out]
      rintro e w2 ⟨rfl, hr2, hsz2, ho2, hm2⟩
      have c20 : w2.cell? ⟨d, 0, none⟩ = some (.map (some g.nb)) := cell_of hr2.dir rfl
      obtain ⟨hb1, hb2⟩ := ren_boxes HDL.out ho2
      have cb : w2.cell? ⟨w.heap.size, 0, none⟩ = some (.string s) := cell_of hb1 rfl
      have cb2 : w2.cell? ⟨w.heap.size + 1, 0, none⟩ = some (.string t) := cell_of hb2 rfl
      have hl1 := fun o => look_run (w := (w2.alloc o).drew) (isdir_keep hr2.now (Below.heap_alloc _ _ _ (hr2.lt g.nb (by rw [hr2.rn]; simp)))) HS.out
      have hl2 := look_run (w := w2.drew) (isdir_keep hr2.now rfl) HS.out
      have hg' : aget (begS S).now s.data.toList = none := HG.out
      simp only [hg', fileV] at hl2 hl1
      have HR2 := Lib.hid hr2
      have HM2 := Lib.hid hm2
      have HB1 := Lib.hid hb1
      have HB2 := Lib.hid hb2
      have hlt := lt_of_heap hr2.dir
      have hlt2 := lt_of_heap hb1
      have hlt3 := lt_of_heap hb2
      clear hr2 hsz2 ho2 hm2 hg' hb1 hb2
      go_wp2
      go_region
      go_wp2
      go_ret
      exact ⟨by rw [HO.out]; rfl, by rw [HO.out]; exact Step.of ((HR2.out.alloc _).drewN 1) (((HM.out.trans HM2.out (fun _ _ e => e)).alloc _).drewN 1)⟩
    | some f =>
      by_cases hst : s.data.toList = t.data.toList
      · have HO : Hid (opRename S s.data.toList t.data.toList = (0, begS S)) := by unfold Hid opRename; rw [Hr.out, if_neg (by simp [H0.out]), hg, ← hst]; simp
        have e1 : (s.toList == t.toList) = true := by
          rw [ba_ext hst]; exact beq_self_eq_true _
        clear hst
        have HG := Lib.hid hg
        clear hg
        go_enter Try.func30, Try.ntmps30
        go_wp2_with fail
        refine HB.out.mono ?_
        unfold BegPost
        rw [Hr.out]
        rintro e w2 ⟨rfl, hr2, hsz2, ho2, hm2⟩
        have c20 : w2.cell? ⟨d, 0, none⟩ = some (.map (some g.nb)) := cell_of hr2.dir rfl
        obtain ⟨hb1, hb2⟩ := ren_boxes HDL.out ho2
        have cb : w2.cell? ⟨w.heap.size, 0, none⟩ = some (.string s) := cell_of hb1 rfl
        have cb2 : w2.cell? ⟨w.heap.size + 1, 0, none⟩ = some (.string t) := cell_of hb2 rfl
        have hl1 := fun o => look_run (w := (w2.alloc o).drew) (isdir_keep hr2.now (Below.heap_alloc _ _ _ (hr2.lt g.nb (by rw [hr2.rn]; simp)))) HS.out
        have hl2 := look_run (w := w2.drew) (isdir_keep hr2.now rfl) HS.out
        have hg' : aget (begS S).now s.data.toList = some f := HG.out
        simp only [hg', fileV, ptr] at hl2 hl1
        have HR2 := Lib.hid hr2
        have HM2 := Lib.hid hm2
        have HB1 := Lib.hid hb1
        have HB2 := Lib.hid hb2
        have hlt := lt_of_heap hr2.dir
        have hlt2 := lt_of_heap hb1
        have hlt3 := lt_of_heap hb2
        clear hr2 hsz2 ho2 hm2 hg' hb1 hb2
        go_wp2
        go_region
        go_wp2
        go_ret
        exact ⟨by rw [HO.out]; rfl, by rw [HO.out]; exact Step.of ((HR2.out.alloc _).drewN 1) (((HM.out.trans HM2.out (fun _ _ e => e)).alloc _).drewN 1)⟩
      · have HO : Hid (opRename S s.data.toList t.data.toList = (0, { begS S with now := apCh (.ren s.data.toList t.data.toList f) S.now, chg := S.chg ++ [.ren s.data.toList t.data.toList f] })) := by unfold Hid opRename; rw [Hr.out, if_neg (by simp [H0.out]), hg]; simp only; rw [if_neg hst]
        have e1 : (s.toList == t.toList) = false := by
          rw [beq_eq_false_iff_ne]; intro e; exact hst (ba_toList e)
        clear hst
        have HG := Lib.hid hg
        clear hg
        go_enter Try.func30, Try.ntmps30
        go_wp2_with fail
        refine HB.out.mono ?_
        unfold BegPost
        rw [Hr.out]
        rintro e w2 ⟨rfl, hr2, hsz2, ho2, hm2⟩
        have c20 : w2.cell? ⟨d, 0, none⟩ = some (.map (some g.nb)) := cell_of hr2.dir rfl
        obtain ⟨hb1, hb2⟩ := ren_boxes HDL.out ho2
        have cb : w2.cell? ⟨w.heap.size, 0, none⟩ = some (.string s) := cell_of hb1 rfl
        have cb2 : w2.cell? ⟨w.heap.size + 1, 0, none⟩ = some (.string t) := cell_of hb2 rfl
        have hl1 := fun o => look_run (w := (w2.alloc o).drew) (isdir_keep hr2.now (Below.heap_alloc _ _ _ (hr2.lt g.nb (by rw [hr2.rn]; simp)))) HS.out
        have hl2 := look_run (w := w2.drew) (isdir_keep hr2.now rfl) HS.out
        have hg' : aget (begS S).now s.data.toList = some f := HG.out
        simp only [hg', fileV, ptr] at hl2 hl1
        have HR2 := Lib.hid hr2
        have HM2 := Lib.hid hm2
        have HB1 := Lib.hid hb1
        have HB2 := Lib.hid hb2
        have hlt := lt_of_heap hr2.dir
        have hlt2 := lt_of_heap hb1
        have hlt3 := lt_of_heap hb2
        have HSZ := Lib.hid hsz2
        have HF := Lib.hid (hr2.known hg')
        clear hr2 hsz2 ho2 hm2 hg' hb1 hb2
        go_wp2
        go_region
        go_wp2_with fail
        refine (ren_world (w := w) HR2.out s t HS.out HT.out HB1.out HB2.out (HH.out.fresh (Nat.le_refl _)) (HH.out.fresh (Nat.le_succ _)) HF.out (Nat.succ_le_succ HH.out.bnow) (Nat.succ_le_succ HH.out.bdur) (by have := HC.out.2; show S.bd + 1 < 1000000; omega)).mono ?_
        rintro e w3 ⟨rfl, hst⟩
        have HST := Lib.hid hst
        clear hst
        go_wp2
        go_ret
        rw [HO.out]
        refine ⟨rfl, HST.out.chain (fun b hb => ?_) (HM.out.trans HM2.out (fun _ _ e => e))⟩
        show upd (upd g.role w.heap.size .box) (w.heap.size + 1) .box b = g.role b
        rw [upd_other _ _ (by omega), upd_other _ _ (by omega)]
  · have e0 : (r.1 != 0) = true := by simp [h0]
    have HO : Hid (opRename S s.data.toList t.data.toList = (r.1, begS S)) := by unfold Hid opRename; rw [Hr.out, if_pos h0]
    clear h0
    go_enter Try.func30, Try.ntmps30
    go_wp2_with fail
    refine HB.out.mono ?_
    unfold BegPost
    rw [Hr.out]
    rintro e w2 ⟨rfl, hr2, hsz2, ho2, hm2⟩
    have HR2 := Lib.hid hr2
    have HM2 := Lib.hid hm2
    clear hr2 hsz2 ho2 hm2
    go_wp2
    go_ret
    exact ⟨by rw [HO.out]; rfl, by rw [HO.out]; exact Step.of HR2.out (HM.out.trans HM2.out (fun _ _ e => e))⟩

end Go.Proofs.Ytjiklpoggpdngaa
