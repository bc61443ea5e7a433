/- Read, Halt, Flip where there is no place. -/
import Derived.Test.YtjiklpoggpdngaaVfsV
namespace Go.Proofs.Ytjiklpoggpdngaa
open Go.RowKit Go.Maps

def readR (S : DS) (n : Nm) : List UInt8 × Int :=
  if halted S then ([], 14) else if !goodNm n then ([], 1) else match aget S.now n with | none => ([], 10) | some f => ((S.fs f).1, 0)

def ReadPost (w : World) (S : DS) (n : Nm) (e : Ending) (w' : World) : Prop :=
  ∃ v, e = .returned (.tuple #[v, .int .i64 (readR S n).2]) ∧ w'.ownsRow w.heap.size 5 1 v (readR S n).1.length ((readR S n).1.map bV) ∧ RowKit.Below w.heap.size w w'

theorem readPost_nil {w : World} {S : DS} {n : Nm} {r : Int} (h : readR S n = ([], r)) : ReadPost w S n (.returned (.tuple #[.slice none 0 0, .int .i64 r])) w := by
  unfold ReadPost
  rw [h]
  exact ⟨_, rfl, ⟨rfl, .inl ⟨rfl, rfl⟩⟩, RowKit.Below.refl _ _⟩

set_option maxHeartbeats 1000000 in
set_option maxRecDepth 100000 in
theorem read_any {w : World} {d : Nat} {g : Gh} {S : DS} (h : Rep w d g S) (s : ByteArray) (hs : s.size ≤ maxLen) :
    Calls Try.prog 11 #[ptr d, .string s] w (ReadPost w S s.data.toList) := by
  have c0 : w.cell? ⟨d, 0, none⟩ = some (.map (some g.nb)) := cell_of h.dir rfl
  have c4 : w.cell? ⟨d, 4, none⟩ = some (.bool S.asked) := cell_of h.dir rfl
  have c5 : w.cell? ⟨d, 5, none⟩ = some (.int .i64 (S.left : Int)) := cell_of h.dir rfl
  have hl := look_run h.now hs
  have HS := Lib.hid hs
  have HN := Lib.hid (isName_any s w hs)
  obtain ⟨hb, Hh⟩ : ∃ hb : Bool, Hid ((S.asked && (S.left : Int) == 0) = hb) := ⟨_, rfl⟩
  have HQ : Hid (halted S = hb) := Hh.out
  obtain ⟨gb, Hg⟩ : ∃ gb : Bool, Hid (goodNm s.data.toList = gb) := ⟨_, rfl⟩
  cases hg : aget S.now s.data.toList with
  | none =>
    have HG := Lib.hid hg
    rw [hg] at hl
    unfold fileV at hl
    clear h hs hg
    unfold ptr
    cases hb <;> cases gb
    all_goals
      go_enter Try.func11, Try.ntmps11
      go_wp2_with (first
        | (go_at_call 39; refine (come_any d 4 S.asked S.left _ (by go_simp) (by go_simp)).mono ?_; rw [Hh.out]; rintro e w' ⟨rfl, rfl⟩)
        | (go_at_call 40; refine HN.out.mono ?_; rw [Hg.out]; rintro e w' ⟨rfl, rfl⟩))
      go_ret2
      exact readPost_nil (by unfold readR; rw [HQ.out]; simp [Hg.out, HG.out])
  | some f =>
    have hk := h.known hg
    obtain ⟨ao, nn, cc, hfv⟩ := row_form hk.rep.row
    have hlen : nn = (S.fs f).1.length := row_len hk.rep.row hfv
    subst hlen
    have cf0 : w.cell? ⟨f, 0, none⟩ = some (.slice ao (S.fs f).1.length cc) := (cell_of hk.rep.blk rfl).trans (congrArg some hfv)
    have hsrc : ByteSrc w (.slice ao (S.fs f).1.length cc) (S.fs f).1 := by
      have hr := hk.rep.row
      rw [hfv] at hr
      obtain ⟨h1, h2 | ⟨g', cap', cur', hv', _, hh, hn', hc', hcs', htk⟩⟩ := id hr
      · exact .inl ⟨h2.1, List.length_eq_zero_iff.1 h2.2⟩
      · injection hv' with e1 e2 e3
        subst e1; subst e3
        refine .inr ⟨⟨g', 0, none⟩, cc, rfl, hn', hc', fun j u hu => ?_⟩
        have hj : j < ((S.fs f).1.map bV).length := by
          obtain ⟨hj, _⟩ := List.getElem?_eq_some_iff.1 hu; exact hj
        have h9 := (row_cell hr rfl hj).1
        rw [List.getElem?_eq_getElem hj] at hu
        injection hu with hu
        rw [← hu]
        simp only [Nat.zero_add] at h9
        rw [show (⟨g', 0, none⟩ : Addr).add j = ⟨g', j, none⟩ by unfold Addr.add; by_cases e : j = 0 <;> simp [e]]
        exact h9
    have HSRC := Lib.hid hsrc
    have HMX : Hid (((S.fs f).1.length : Int) ≤ 140737488351232) := by have := hk.rep.len; unfold Hid; omega
    have HG := Lib.hid hg
    rw [hg] at hl
    unfold fileV ptr at hl
    clear h hs hg hk hfv hsrc
    unfold ptr
    cases hb <;> cases gb
    case false.true =>
      have HR : Hid (readR S s.data.toList = ((S.fs f).1, 0)) := by unfold Hid readR; rw [HQ.out]; simp [Hg.out, HG.out]
      go_enter Try.func11, Try.ntmps11
      go_wp2_with (first
        | (go_at_call 39; refine (come_any d 4 S.asked S.left _ (by go_simp) (by go_simp)).mono ?_; rw [Hh.out]; rintro e w' ⟨rfl, rfl⟩)
        | (go_at_call 40; refine HN.out.mono ?_; rw [Hg.out]; rintro e w' ⟨rfl, rfl⟩)
        | (go_at_call 41; refine (cloneb_any HSRC.out HMX.out).mono ?_; rintro e w' ⟨v, rfl, hrow, hbl⟩; have HRW := Lib.hid hrow; have HBL := Lib.hid hbl; clear hrow hbl))
      go_ret2
      unfold ReadPost
      rw [HR.out]
      exact ⟨v, rfl, HRW.out, HBL.out⟩
    all_goals
      go_enter Try.func11, Try.ntmps11
      go_wp2_with (first
        | (go_at_call 39; refine (come_any d 4 S.asked S.left _ (by go_simp) (by go_simp)).mono ?_; rw [Hh.out]; rintro e w' ⟨rfl, rfl⟩)
        | (go_at_call 40; refine HN.out.mono ?_; rw [Hg.out]; rintro e w' ⟨rfl, rfl⟩))
      go_ret2
      exact readPost_nil (by unfold readR; rw [HQ.out]; simp [Hg.out, HG.out])

/-- Halt -/
def opHalt (S : DS) (n : Int) : DS := if halted S then S else { S with asked := true, left := n.toNat }

set_option maxHeartbeats 1000000 in
set_option maxRecDepth 100000 in
theorem halt_any {w : World} {d : Nat} {g : Gh} {S : DS} (h : Rep w d g S) (n : Int) (hn : n ≤ 9223372036854775807) :
    Calls Try.prog 17 #[ptr d, .int .i64 n] w fun en w' => en = .returned (.tuple #[]) ∧ Rep w' d g (opHalt S n) ∧ Moves (Own g) w w' := by
  have c4 : w.cell? ⟨d, 4, none⟩ = some (.bool S.asked) := cell_of h.dir rfl
  have c5 : w.cell? ⟨d, 5, none⟩ = some (.int .i64 (S.left : Int)) := cell_of h.dir rfl
  have f4 : w.frozen? ⟨d, 4, none⟩ = false := unfrozen_of h.dir
  have f5 : w.frozen? ⟨d, 5, none⟩ = false := unfrozen_of h.dir
  obtain ⟨hb, Hh⟩ : ∃ hb : Bool, Hid ((S.asked && (S.left : Int) == 0) = hb) := ⟨_, rfl⟩
  have HQ : Hid (halted S = hb) := Hh.out
  have HH := Lib.hid h
  have HF : Hid (∀ W : World, W = (w.setCell ⟨d, 4, none⟩ (.bool true)).setCell ⟨d, 5, none⟩ (.int .i64 (n.toNat : Int)) → Rep W d g { S with asked := true, left := n.toNat } ∧ Moves (Own g) w W) := by
    rintro W rfl
    have hd := heap_set (i := 5) (heap_set (i := 4) h.dir (.bool true)) (.int .i64 (n.toNat : Int))
    refine ⟨h.counts { S with asked := true, left := n.toNat } (by simp [World.setCell]) (fun b hb _ => by rw [Below.heap_setCell _ _ _ _ hb, Below.heap_setCell _ _ _ _ hb]) hd rfl rfl rfl rfl (Nat.le_refl _) (by show ((n.toNat : Nat) : Int) ≤ _; omega) h.bfl h.bfp, ?_⟩
    have hF : Own g d := by unfold Own; rw [h.rd]; simp
    exact ((Moves.refl _ w).setCell (fun _ => hF) _).setCell (fun _ => hF) _
  have e1 : (n.toNat : Int) = max n 0 := by omega
  rw [e1] at HF
  clear h e1
  unfold ptr
  cases hb
  · have HO : Hid (opHalt S n = { S with asked := true, left := n.toNat }) := by unfold Hid opHalt; rw [HQ.out]; rfl
    go_enter Try.func17, Try.ntmps17
    go_wp2_with (go_at_call 39; refine (come_any d 4 S.asked S.left _ (by go_simp) (by go_simp)).mono ?_; rw [Hh.out]; rintro e w' ⟨rfl, rfl⟩)
    go_end0
    rw [HO.out]
    exact ⟨rfl, HF.out _ rfl⟩
  · have HO : Hid (opHalt S n = S) := by unfold Hid opHalt; rw [HQ.out]; rfl
    go_enter Try.func17, Try.ntmps17
    go_wp2_with (go_at_call 39; refine (come_any d 4 S.asked S.left _ (by go_simp) (by go_simp)).mono ?_; rw [Hh.out]; rintro e w' ⟨rfl, rfl⟩)
    refine bodyPost_ret (results_none rfl _ _ _) rfl ?_
    rw [HO.out]
    exact ⟨rfl, HH.out, Moves.refl _ _⟩

end Go.Proofs.Ytjiklpoggpdngaa
