/- change: a change is made to the directory and kept. -/
import Derived.Test.YtjiklpoggpdngaaVfsL
namespace Go.Proofs.Ytjiklpoggpdngaa
open Go.RowKit Go.Maps

/-- WHAT A CALL LEAVES OF A DIRECTORY -/
def Step (w w' : World) (d : Nat) (g : Gh) (S' : DS) : Prop :=
  ∃ g', Rep w' d g' S' ∧ (∀ b, b < w.heap.size → g'.role b = g.role b) ∧ Moves (Own g) w w'

def ChangePost (w : World) (d : Nat) (g : Gh) (S' : DS) (e : Ending) (w' : World) : Prop := e = .returned (.tuple #[]) ∧ Step w w' d g S'

theorem row_alloc {w : World} {base : Nat} {e : TypeId} {s n : Nat} {v : Value} {xs : List Value} (h : w.ownsRow base e s v n xs) (o : Obj) : (w.alloc o).ownsRow base e s v n xs :=
  row_keep h fun a n c e => Below.heap_alloc _ _ _ (row_lt h e)

theorem cell_new (w : World) (v : Value) (t : TypeId) : (w.alloc (.cells #[v] t)).cell? ⟨w.heap.size, 0, none⟩ = some v := by
  have h : (w.alloc (.cells #[v] t)).heap[w.heap.size]? = some (.cells #[v] t) := (MapKept.heap_alloc w _).1
  exact cell_of h rfl
theorem news_one (w : World) (v : Value) (t : TypeId) : ∀ j u, [v][j]? = some u → (w.alloc (.cells #[v] t)).cell? ((⟨w.heap.size, 0, none⟩ : Addr).add j) = some u := by
  intro j u hu
  cases j with
  | zero => simp at hu; subst hu; exact cell_new w v t
  | succ j => simp at hu

theorem func_one (f : Fn) (a b : Array Value) : ∀ u ∈ [Value.func f a b], u.oneCell' = true := by intro u hu; simp at hu; subst hu; rfl
theorem bd1 {n : Nat} (h : n + 1 < 1000001) : n + 1 ≤ maxLen := by unfold maxLen; omega
theorem bd2 {n : Nat} (h : n + 1 < 1000001) : (n + 1) * 8 ≤ 140737488355328 := by omega
theorem dir_after {w1 w2 : World} {o : Obj} {row : Option Nat} {d : Nat} {x : Obj} (hg : (w1.alloc o).grownBy w2 row) (hlt : d < w1.heap.size) (hn : row ≠ some d) (h : w1.heap[d]? = some x) : w2.heap[d]? = some x := by
  rw [hg.block d (by simp; omega) (fun e => hn e.symm), Below.heap_alloc _ _ _ hlt]; exact h

theorem SameOrNew.mono {v v' : Value} {s s' : Nat} (h : SameOrNew v v' s) (hs : s' ≤ s) : SameOrNew v v' s' := fun a n c e => (h a n c e).imp id (Nat.le_trans hs)

theorem row_form {w : World} {base : Nat} {e : TypeId} {s n : Nat} {v : Value} {xs : List Value} (h : w.ownsRow base e s v n xs) : ∃ ao n' c, v = .slice ao n' c := by
  obtain ⟨_, h2 | ⟨g, cap, cur, hv', _⟩⟩ := h
  · exact ⟨_, _, _, h2.1⟩
  · exact ⟨_, _, _, hv'⟩

theorem own_some {v : Value} {b : Nat} (h : v.ownBlock = some b) : ∃ a n c, v = .slice (some a) n c ∧ a.block = b := by
  unfold Value.ownBlock at h
  split at h
  · rename_i a n c
    cases h
    exact ⟨a, n, c, rfl, rfl⟩
  · cases h

open Classical in
noncomputable def roleChs (role : Nat → Role) (v : Value) (b : Nat) : Role := if v.ownBlock = some b then .chs else role b

theorem change_rest {w : World} {d : Nat} {g : Gh} {S : DS} (h : Rep w d g S) (v : Value) (c : Ch) (hc : ChRep w g.role v c) (hf : ∀ f ∈ filesOf c, g.role f = .file) (h1 : S.now.length + 1 ≤ S.bd) (h2 : S.dur.length + S.chg.length + 1 ≤ S.bd)
    (w1 w2 : World) (v' : Value) (m1 : Moves (fun k => k = g.nb) w w1) (hd1 : IsDir Try.prog w1 g.nb (apCh c S.now)) (hgr : (w1.alloc (.cells #[v] 112)).grownBy w2 g.cv.ownBlock)
    (hrow : w2.ownsRow 0 112 1 v' (S.chg.length + 1) (g.cls ++ [v])) (hsn : SameOrNew g.cv v' w1.heap.size) :
    Step w (w2.setCell ⟨d, 2, none⟩ v') d g { S with now := apCh c S.now, chg := S.chg ++ [c] } := by
  have hs1 : (w1.alloc (.cells #[v] 112)).heap.size = w1.heap.size + 1 := by simp
  have hw1 := m1.size
  have hw2 := hgr.size
  have hs3 : (w2.setCell ⟨d, 2, none⟩ v').heap.size = w2.heap.size := by simp [World.setCell]
  have hcv : ∀ b, g.cv.ownBlock = some b → g.role b = .chs := by
    intro b hb
    obtain ⟨a, n, c, e1, e2⟩ := own_some hb
    rw [← e2]; exact h.rc a n c e1
  have hv' : ∀ b, v'.ownBlock = some b → g.role b = .chs ∨ w.heap.size ≤ b := by
    intro b hb
    obtain ⟨a, n, c, e1, e2⟩ := own_some hb
    rcases hsn a n c e1 with ⟨a', n', c', e3, e4⟩ | e3
    · left; rw [← e2, ← e4]; exact h.rc _ _ _ e3
    · right; omega
  have hro : ∀ b, g.role b ≠ .no → roleChs g.role v' b = g.role b := by
    intro b hb
    unfold roleChs
    split
    · rename_i e
      rcases hv' b e with e2 | e2
      · exact e2.symm
      · have := h.lt b hb; omega
    · rfl
  have keep : ∀ b, g.role b ≠ .no → b ≠ d → b ≠ g.nb → g.role b ≠ .chs → (w2.setCell ⟨d, 2, none⟩ v').heap[b]? = w.heap[b]? := by
    intro b h0 h1 h2 h3
    have hlt := h.lt b h0
    rw [Below.heap_setCell _ _ _ _ h1, hgr.block b (by omega) (fun e => h3 (hcv b e.symm)), Below.heap_alloc _ _ _ (by omega), m1.block b hlt h2]
  have rne : ∀ {b : Nat} {r : Role}, g.role b = r → r ≠ .no → r ≠ .dir → r ≠ .map → r ≠ .chs → (w2.setCell ⟨d, 2, none⟩ v').heap[b]? = w.heap[b]? := by
    intro b r e n1 n2 n3 n4
    refine keep b (by rw [e]; exact n1) ?_ ?_ (by rw [e]; exact n4)
    · rintro rfl; rw [h.rd] at e; exact n2 e.symm
    · rintro rfl; rw [h.rn] at e; exact n3 e.symm
  have nbd : g.nb ≠ d := by intro e; have := h.rn; rw [e, h.rd] at this; cases this
  have dcs : g.cv.ownBlock ≠ some d := by intro e; have := hcv d e; rw [h.rd] at this; cases this
  have ncs : g.cv.ownBlock ≠ some g.nb := by intro e; have := hcv _ e; rw [h.rn] at this; cases this
  have hdlt := h.lt d (by rw [h.rd]; simp)
  have hnlt := h.lt g.nb (by rw [h.rn]; simp)
  have hd2 : w2.heap[d]? = some (.cells (dirCells g S) 75 (0, 0)) := by
    rw [hgr.block d (by omega) (fun e => dcs e.symm), Below.heap_alloc _ _ _ (by omega), m1.block d hdlt (fun e => nbd e.symm)]
    exact h.dir
  refine ⟨{ g with role := roleChs g.role v', cv := v', cls := g.cls ++ [v] }, ?_, ?_, ?_⟩
  · refine h.turn (by omega) hro (fun b e => rne e (by simp) (by simp) (by simp) (by simp)) (fun f e => ⟨rne e (by simp) (by simp) (by simp) (by simp), fun b e => rne e (by simp) (by simp) (by simp) (by simp), rfl, rfl⟩)
      ?_ ?_ ?_ ?_ ?_ ?_ h.nd ?_ ?_ ?_ ?_ ?_ ?_ ?_ ?_ h.bleft h.bfl h.bfp
    · intro b e1 e2
      have e3 : v'.ownBlock = some b := by
        apply Classical.byContradiction
        intro e
        apply e2
        show roleChs g.role v' b = .no
        unfold roleChs
        rw [if_neg e]; exact e1
      obtain ⟨a, n, c, e4, e5⟩ := own_some e3
      refine ⟨?_, ?_⟩
      · rw [hs3, ← e5]; exact row_lt hrow e4
      · intro e; exfalso
        have : roleChs g.role v' b = .chs := by unfold roleChs; rw [if_pos e3]
        rw [show roleChs g.role v' b = .file from e] at this
        cases this
    · exact heap_set hd2 v'
    · refine isdir_keep hd1 ?_
      show (w2.setCell ⟨d, 2, none⟩ v').heap[g.nb]? = _
      rw [Below.heap_setCell _ _ _ _ nbd, hgr.block g.nb (by omega) (fun e => ncs e.symm), Below.heap_alloc _ _ _ (by omega)]
    · refine isdir_keep h.dur ?_
      exact keep g.db (by rw [h.rb]; simp) (by intro e; have := h.rb; rw [e, h.rd] at this; cases this) (fun e => h.nd e.symm) (by rw [h.rb]; simp)
    · show roleChs g.role v' g.nb = .map
      rw [hro _ (by rw [h.rn]; simp)]; exact h.rn
    · show roleChs g.role v' g.db = .map
      rw [hro _ (by rw [h.rb]; simp)]; exact h.rb
    · show (w2.setCell ⟨d, 2, none⟩ v').ownsRow 0 _ 1 v' (S.chg ++ [c]).length (g.cls ++ [v])
      rw [List.length_append]
      refine row_keep hrow fun a n c' e => Below.heap_setCell _ _ _ _ ?_
      intro e2
      have e3 : v'.ownBlock = some d := by rw [e]; simp [Value.ownBlock, e2]
      rcases hv' d e3 with e4 | e4
      · rw [h.rd] at e4; cases e4
      · omega
    · intro a n c' e
      show roleChs g.role v' a.block = .chs
      unfold roleChs
      rw [if_pos (by rw [show v' = _ from e]; rfl)]
    · refine ⟨by simp [h.cl.1], ?_⟩
      intro i h1 h2
      have kp : ∀ b, g.role b = .box → (w2.setCell ⟨d, 2, none⟩ v').heap[b]? = w.heap[b]? ∧ roleChs g.role v' b = .box := fun b e => ⟨rne e (by simp) (by simp) (by simp) (by simp), by rw [hro b (by rw [e]; simp)]; exact e⟩
      by_cases hi : i < S.chg.length
      · have hi' : i < g.cls.length := by rw [h.cl.1]; exact hi
        show ChRep _ _ (g.cls ++ [v])[i] (S.chg ++ [c])[i]
        rw [List.getElem_append_left hi', List.getElem_append_left hi]
        exact (h.cl.2 i hi' hi).keep kp
      · have hl : i = S.chg.length := by
          have h2' : i < (S.chg ++ [c]).length := h2
          rw [List.length_append, List.length_singleton] at h2'; omega
        subst hl
        show ChRep _ _ (g.cls ++ [v])[S.chg.length] (S.chg ++ [c])[S.chg.length]
        rw [List.getElem_append_right (by rw [h.cl.1]; exact Nat.le_refl _), List.getElem_append_right (Nat.le_refl _)]
        simp only [h.cl.1, Nat.sub_self, List.getElem_cons_zero]
        exact hc.keep kp
    · intro p hp
      show roleChs g.role v' p.2 = .file
      have hp2 : g.role p.2 = .file := by
        rcases mem_apCh hp with e | e
        · exact hf _ e
        · exact h.fnow p e
      rw [hro _ (by rw [hp2]; simp)]; exact hp2
    · intro p hp
      show roleChs g.role v' p.2 = .file
      rw [hro _ (by rw [h.fdur p hp]; simp)]; exact h.fdur p hp
    · intro x hx f hfx
      show roleChs g.role v' f = .file
      have hp2 : g.role f = .file := by
        rcases List.mem_append.1 hx with e | e
        · exact h.fchg x e f hfx
        · rw [List.mem_singleton.1 e] at hfx; exact hf f hfx
      rw [hro _ (by rw [hp2]; simp)]; exact hp2
    · exact Nat.le_trans (len_apCh c S.now) h1
    · show S.dur.length + (S.chg ++ [c]).length ≤ S.bd
      rw [List.length_append]; exact h2
  · intro b hb
    show roleChs g.role v' b = g.role b
    unfold roleChs
    split
    · rename_i e
      rcases hv' b e with e2 | e2
      · exact e2.symm
      · omega
    · rfl
  · have m2 : Moves (Own g) w w1 := m1.mono fun k _ e => by rw [e]; unfold Own; rw [h.rn]; simp
    refine ((m2.alloc _).grown hgr ?_).setCell ?_ _
    · intro k e _; unfold Own; rw [hcv k e]; simp
    · intro _; unfold Own; show g.role d ≠ _; rw [h.rd]; simp

set_option maxRecDepth 100000 in
set_option maxHeartbeats 1000000 in
theorem change_any {w : World} {d : Nat} {g : Gh} {S : DS} (h : Rep w d g S) (v : Value) (c : Ch) (hc : ChRep w g.role v c) (hf : ∀ f ∈ filesOf c, g.role f = .file) (h1 : S.now.length + 1 ≤ S.bd) (h2 : S.dur.length + S.chg.length + 1 ≤ S.bd) (h3 : S.bd < 1000000)
    (k : Nat) (caps : Array Value) (hv : v = .func (.func k) #[] caps) (hk : (k = 68 ∧ ∃ a b, caps = #[a, b]) ∨ (k = 69 ∧ ∃ a b c, caps = #[a, b, c]) ∨ (k = 72 ∧ ∃ a, caps = #[a]))
    (hcall : Calls Try.prog k (#[.map (some g.nb)] ++ caps) w (ChPost w g.nb (apCh c S.now))) :
    Calls Try.prog 67 #[ptr d, v] w (ChangePost w d g { S with now := apCh c S.now, chg := S.chg ++ [c] }) := by
  have c0 : w.cell? ⟨d, 0, none⟩ = some (.map (some g.nb)) := cell_of h.dir rfl
  have hq := fun w => run_eql_map_nil (P := Try.prog) w 68 _ _ (some g.nb) Try.underlying68
  have hnd : d ≠ g.nb := by
    intro e
    have h1 := h.rd
    rw [e, h.rn] at h1
    cases h1
  have hres := change_rest h v c hc hf h1 h2
  have hD := Lib.hid h.dir
  have HV : Hid (v.oneCell' = true) := by rw [hv]; rfl
  have HND := Lib.hid hnd
  have HDO : Hid (g.cv.ownBlock ≠ some d) := by
    intro e
    obtain ⟨a, n, c, e1, e2⟩ := own_some e
    have h1 := h.rc a n c e1
    rw [e2, h.rd] at h1
    cases h1
  have HC := Lib.hid hcall
  have HR := Lib.hid hres
  have HL := Lib.hid h.chs
  have HRC := Lib.hid h.rc
  have HRN := Lib.hid h.rn
  have HB : Hid (S.chg.length + 1 < 1000001) := by unfold Hid; omega
  obtain ⟨i0, hi, hz0, hz1, hz2⟩ := infoOf info_func
  have HI := Lib.hid hi; have HZ0 := Lib.hid hz0; have HZ1 := Lib.hid hz1; have HZ2 := Lib.hid hz2
  clear h hcall hc hf h1 h2 h3 hnd hi hz0 hz1 hz2 hres
  unfold ptr
  rcases hk with ⟨rfl, a, b, rfl⟩ | ⟨rfl, a, b, c', rfl⟩ | ⟨rfl, a, rfl⟩
  · subst hv
    go_enter Try.func67, Try.ntmps67
    go_wp2_with fail
    refine HC.out.mono ?_
    rintro e w1 ⟨rfl, hdir1, hmv1⟩
    have hD1 : w1.heap[d]? = some (.cells (dirCells g S) 75 (0, 0)) := (hmv1.block d (lt_of_heap hD.out) HND.out).trans hD.out
    have hrow1 : w1.ownsRow 0 112 1 g.cv S.chg.length g.cls := row_keep HL.out fun a n c e => hmv1.block _ (row_lt HL.out e) (fun e2 => by have := HRC.out a n c e; rw [e2, HRN.out] at this; cases this)
    have c01 : w1.cell? ⟨d, 0, none⟩ = some (.map (some g.nb)) := cell_of hD1 rfl
    have c21 : w1.cell? ⟨d, 2, none⟩ = some g.cv := cell_of hD1 rfl
    have HDIR := Lib.hid hdir1; have HMV := Lib.hid hmv1; have HD1 := Lib.hid hD1; have HROW := Lib.hid hrow1
    have hltd := lt_of_heap hD1
    clear hdir1 hmv1 hD1 hrow1
    go_wp2_with (at_builtin; refine wpList_append_role _ rfl _ _ 69 rfl 112 i0 .nilFunc 1 8 Try.underlying69 HI.out HZ0.out HZ1.out HZ2.out rfl (by decide) g.cv S.chg.length g.cls rfl (row_alloc HROW.out _) ⟨w1.heap.size, 0, none⟩ 1 1 [.func (.func 68) #[] #[a, b]] rfl rfl (news_one w1 _ _) (func_one _ _ _) (bd1 HB.out) (bd2 HB.out) ?_; intro v' w2 hown2 hgrow2 hsn2; obtain ⟨ao, nn, cc, rfl⟩ := row_form hown2; have hd2 := dir_after hgrow2 hltd HDO.out HD1.out; have c22 : w2.cell? ⟨d, 2, none⟩ = some g.cv := cell_of hd2 rfl; have f22 : w2.frozen? ⟨d, 2, none⟩ = false := unfrozen_of hd2; have HZ := Lib.hid (HR.out w1 w2 _ HMV.out HDIR.out hgrow2 hown2 (hsn2.mono (by simp))); clear hown2 hgrow2 hsn2 hd2)
    go_end0
    exact ⟨rfl, HZ.out⟩

  · subst hv
    go_enter Try.func67, Try.ntmps67
    go_wp2_with fail
    refine HC.out.mono ?_
    rintro e w1 ⟨rfl, hdir1, hmv1⟩
    have hD1 : w1.heap[d]? = some (.cells (dirCells g S) 75 (0, 0)) := (hmv1.block d (lt_of_heap hD.out) HND.out).trans hD.out
    have hrow1 : w1.ownsRow 0 112 1 g.cv S.chg.length g.cls := row_keep HL.out fun a n c e => hmv1.block _ (row_lt HL.out e) (fun e2 => by have := HRC.out a n c e; rw [e2, HRN.out] at this; cases this)
    have c01 : w1.cell? ⟨d, 0, none⟩ = some (.map (some g.nb)) := cell_of hD1 rfl
    have c21 : w1.cell? ⟨d, 2, none⟩ = some g.cv := cell_of hD1 rfl
    have HDIR := Lib.hid hdir1; have HMV := Lib.hid hmv1; have HD1 := Lib.hid hD1; have HROW := Lib.hid hrow1
    have hltd := lt_of_heap hD1
    clear hdir1 hmv1 hD1 hrow1
    go_wp2_with (at_builtin; refine wpList_append_role _ rfl _ _ 69 rfl 112 i0 .nilFunc 1 8 Try.underlying69 HI.out HZ0.out HZ1.out HZ2.out rfl (by decide) g.cv S.chg.length g.cls rfl (row_alloc HROW.out _) ⟨w1.heap.size, 0, none⟩ 1 1 [.func (.func 69) #[] #[a, b, c']] rfl rfl (news_one w1 _ _) (func_one _ _ _) (bd1 HB.out) (bd2 HB.out) ?_; intro v' w2 hown2 hgrow2 hsn2; obtain ⟨ao, nn, cc, rfl⟩ := row_form hown2; have hd2 := dir_after hgrow2 hltd HDO.out HD1.out; have c22 : w2.cell? ⟨d, 2, none⟩ = some g.cv := cell_of hd2 rfl; have f22 : w2.frozen? ⟨d, 2, none⟩ = false := unfrozen_of hd2; have HZ := Lib.hid (HR.out w1 w2 _ HMV.out HDIR.out hgrow2 hown2 (hsn2.mono (by simp))); clear hown2 hgrow2 hsn2 hd2)
    go_end0
    exact ⟨rfl, HZ.out⟩

  · subst hv
    go_enter Try.func67, Try.ntmps67
    go_wp2_with fail
    refine HC.out.mono ?_
    rintro e w1 ⟨rfl, hdir1, hmv1⟩
    have hD1 : w1.heap[d]? = some (.cells (dirCells g S) 75 (0, 0)) := (hmv1.block d (lt_of_heap hD.out) HND.out).trans hD.out
    have hrow1 : w1.ownsRow 0 112 1 g.cv S.chg.length g.cls := row_keep HL.out fun a n c e => hmv1.block _ (row_lt HL.out e) (fun e2 => by have := HRC.out a n c e; rw [e2, HRN.out] at this; cases this)
    have c01 : w1.cell? ⟨d, 0, none⟩ = some (.map (some g.nb)) := cell_of hD1 rfl
    have c21 : w1.cell? ⟨d, 2, none⟩ = some g.cv := cell_of hD1 rfl
    have HDIR := Lib.hid hdir1; have HMV := Lib.hid hmv1; have HD1 := Lib.hid hD1; have HROW := Lib.hid hrow1
    have hltd := lt_of_heap hD1
    clear hdir1 hmv1 hD1 hrow1
    go_wp2_with (at_builtin; refine wpList_append_role _ rfl _ _ 69 rfl 112 i0 .nilFunc 1 8 Try.underlying69 HI.out HZ0.out HZ1.out HZ2.out rfl (by decide) g.cv S.chg.length g.cls rfl (row_alloc HROW.out _) ⟨w1.heap.size, 0, none⟩ 1 1 [.func (.func 72) #[] #[a]] rfl rfl (news_one w1 _ _) (func_one _ _ _) (bd1 HB.out) (bd2 HB.out) ?_; intro v' w2 hown2 hgrow2 hsn2; obtain ⟨ao, nn, cc, rfl⟩ := row_form hown2; have hd2 := dir_after hgrow2 hltd HDO.out HD1.out; have c22 : w2.cell? ⟨d, 2, none⟩ = some g.cv := cell_of hd2 rfl; have f22 : w2.frozen? ⟨d, 2, none⟩ = false := unfrozen_of hd2; have HZ := Lib.hid (HR.out w1 w2 _ HMV.out HDIR.out hgrow2 hown2 (hsn2.mono (by simp))); clear hown2 hgrow2 hsn2 hd2)
    go_end0
    exact ⟨rfl, HZ.out⟩

end Go.Proofs.Ytjiklpoggpdngaa
