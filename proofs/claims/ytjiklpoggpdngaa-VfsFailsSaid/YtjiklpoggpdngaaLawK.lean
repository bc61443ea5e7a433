/- The states of the chapter's examples. -/
import Derived.Test.YtjiklpoggpdngaaLawB
namespace Go.Proofs.Ytjiklpoggpdngaa
open Go.RowKit Go.Maps Go.Sort

set_option maxHeartbeats 1000000 in
set_option maxRecDepth 100000 in
theorem flip_no {w : World} {d : Nat} {g : Gh} {S : DS} (h : Rep w d g S) (s : ByteArray) (hs : s.size ≤ maxLen) (hgn : goodNm s.data.toList = true) {f : Nat} (hg : aget S.now s.data.toList = some f) (hf : (S.fs f).1 = []) (m : Int) :
    Calls Try.prog 19 #[ptr d, .string s, .int .i64 0, .int .u8 m] w fun e w' => e = .returned (.int .i64 1) ∧ w = w' := by
  have c0 : w.cell? ⟨d, 0, none⟩ = some (.map (some g.nb)) := cell_of h.dir rfl
  have hl := look_run h.now hs
  have HN := Lib.hid (isName_any s w hs)
  have Hg := Lib.hid hgn
  have hk := h.known hg
  obtain ⟨ao, nn, cc, hfv⟩ := row_form hk.rep.row
  have hlen : nn = (S.fs f).1.length := row_len hk.rep.row hfv
  rw [hf] at hlen
  subst hlen
  have cf0 : w.cell? ⟨f, 0, none⟩ = some (.slice ao 0 cc) := (cell_of hk.rep.blk rfl).trans (congrArg some hfv)
  rw [hg] at hl
  unfold fileV ptr at hl
  clear h hs hg hk hfv hgn hf
  unfold ptr
  go_enter Try.func19, Try.ntmps19
  go_wp2_with (go_at_call 40; refine HN.out.mono ?_; rw [Hg.out]; rintro e w' ⟨rfl, rfl⟩)
  go_ret
  exact ⟨rfl, rfl⟩

/-! states: three calls on one file -/
def c2 (f : Nat) : DS := { begS (st1 f) with dur := (st1 f).now, chg := [] }
theorem opc2 (f : Nat) : opSyncDir (st1 f) = (0, c2 f) := by
  unfold opSyncDir
  rw [begR_calm ⟨rfl, rfl⟩]
  rfl
def c3 (f : Nat) : DS := { begS (c2 f) with now := [([98], f)], chg := [.ren [97] [98] f] }
theorem opc3 (f : Nat) : opRename (c2 f) [97] [98] = (0, c3 f) := by
  have h := begR_calm (S := c2 f) ⟨rfl, rfl⟩ (goodNm [97] && goodNm [98])
  unfold opRename
  rw [h]
  have e : aget (c2 f).now [97] = some f := rfl
  rw [e]
  simp [show goodNm [97] = true from rfl, show goodNm [98] = true from rfl]
  simp [c2, c3, st1, begS, DS0, apCh, aget, adel, aput, ains]

theorem crash_one {S S' : DS} {cs : List Int} {n : Nm} {f : Nat} (hc : Crashed S cs S') (hl : crashLeft S cs = [(n, f)]) : ∃ f', S'.now = [(n, f')] ∧ S'.fs f' = cutOf S cs 0 (n, f) := by
  obtain ⟨hcu, _⟩ := hc
  have hlen := hcu.len (Nat.le_refl _)
  rw [hl] at hlen
  have hn := hcu.names
  rw [hl] at hn
  match hS : S'.now, hlen, hn with
  | [(m, f')], _, hn =>
    simp at hn
    subst hn
    refine ⟨f', rfl, ?_⟩
    have hf := hcu.files 0 (by rw [hS]; exact Nat.zero_lt_one) (by rw [hl]; exact Nat.zero_lt_one)
    simp only [hS, List.getElem_cons_zero, hl] at hf
    exact hf
theorem crash_none {S S' : DS} {cs : List Int} (hc : Crashed S cs S') (hl : crashLeft S cs = []) : S'.now = [] := by
  obtain ⟨hcu, _⟩ := hc
  have hn := hcu.names
  rw [hl] at hn
  simpa using hn

theorem c3_crash0 {f : Nat} {S' : DS} (hc : Crashed (c3 f) [0] S') : ∃ f', S'.now = [([97], f')] ∧ S'.fs f' = ([], 0) := by
  obtain ⟨f', h1, h2⟩ := crash_one (n := [97]) (f := f) hc rfl
  refine ⟨f', h1, h2.trans ?_⟩
  unfold cutOf
  have e : (c3 f).fs f = ([], 0) := upd_same _ _ _
  simp only [e]
  rfl
theorem c3_crash1 {f : Nat} {S' : DS} (hc : Crashed (c3 f) [1] S') : ∃ f', S'.now = [([98], f')] ∧ S'.fs f' = ([], 0) := by
  obtain ⟨f', h1, h2⟩ := crash_one (n := [98]) (f := f) hc (by simp [crashLeft, c3, c2, st1, begS, DS0, keptF, odd, apCh, aget, adel, aput, ains])
  refine ⟨f', h1, h2.trans ?_⟩
  unfold cutOf
  have e : (c3 f).fs f = ([], 0) := upd_same _ _ _
  simp only [e]
  rfl

theorem first_crash_f0 {S S' : DS} (h : FirstS false S) (hc : Crashed S [0] S') : S'.now = [] := by
  obtain ⟨f, h1, h2, h3, h4, h5, h6⟩ := h
  simp at h5 h6
  exact crash_none hc (by unfold crashLeft; rw [h6, h5]; rfl)
theorem first_crash_tn {S S' : DS} (h : FirstS true S) (hc : Crashed S [] S') : ∃ f', S'.now = [([97], f')] ∧ S'.fs f' = ([1, 2], 2) := by
  obtain ⟨f, h1, h2, h3, h4, h5, h6⟩ := h
  simp at h5 h6
  obtain ⟨f', g1, g2⟩ := crash_one (n := [97]) (f := f) hc (by unfold crashLeft; rw [h6, h5]; rfl)
  refine ⟨f', g1, g2.trans ?_⟩
  unfold cutOf
  simp only [h2, h6]
  rfl

/-! a directory that fails once -/
def x0 : DS := opFail DS0 2 12 4
def x1 (f : Nat) : DS := { begS x0 with now := [([97], f)], chg := [.put [97] f], fs := upd x0.fs f ([], 0) }
theorem opx1 (f : Nat) : opCreate x0 [97] f = (0, x1 f) := rfl
def x2 (f : Nat) : DS := { begS (x1 f) with fs := upd (x1 f).fs f ([], 0) }
theorem opx2 (f : Nat) : opAppend (x1 f) [97] [1, 2, 3] = (12, x2 f) := by
  have e : begR (x1 f) (goodNm [97]) = (12, true) := rfl
  unfold opAppend
  rw [e]
  have e2 : aget (begS (x1 f)).now [97] = some f := rfl
  have e3 : (begS (x1 f)).fs f = ([], 0) := upd_same _ _ _
  have e4 : (x1 f).fs f = ([], 0) := upd_same _ _ _
  have e5 : shareN (x1 f).fp 3 = 0 := rfl
  simp [opPut, e2, e3, e5, x2]
  simp [begS]
def x3 (f : Nat) : DS := { begS (x2 f) with fs := upd (x2 f).fs f ([9], 0) }
theorem opx3 (f : Nat) : opAppend (x2 f) [97] [9] = (0, x3 f) := by
  have e : begR (x2 f) (goodNm [97]) = (0, false) := rfl
  unfold opAppend
  rw [e]
  have e2 : aget (begS (x2 f)).now [97] = some f := rfl
  have e3 : (begS (x2 f)).fs f = ([], 0) := upd_same _ _ _
  simp [opPut, e2, e3, x3]
  simp [begS]

/-! a directory that halts -/
def y0 : DS := opHalt DS0 1
def y1 (f : Nat) : DS := { begS y0 with now := [([97], f)], chg := [.put [97] f], fs := upd y0.fs f ([], 0) }
theorem opy1 (f : Nat) : opCreate y0 [97] f = (0, y1 f) := rfl
theorem opy2 (f f' : Nat) : opCreate (y1 f) [98] f' = (14, begS (y1 f)) := rfl
theorem ready (f : Nat) : readR (begS (y1 f)) [97] = ([], 14) := rfl

/-! wrong names and files that are not there -/
theorem opz1 (f : Nat) : opCreate DS0 [65] f = (1, begS DS0) := rfl
theorem opz2 (f : Nat) : opCreate (begS DS0) [] f = (1, begS (begS DS0)) := rfl
def z3 (f : Nat) : DS := { begS (begS (begS DS0)) with now := [([97], f)], chg := [.put [97] f], fs := upd DS0.fs f ([], 0) }
theorem opz3 (f : Nat) : opCreate (begS (begS DS0)) [97] f = (0, z3 f) := rfl
theorem opz4 (f f' : Nat) : opCreate (z3 f) [97] f' = (11, begS (z3 f)) := rfl
theorem opz5 (f : Nat) : opAppend (begS (z3 f)) [98] [] = (10, begS (begS (z3 f))) := rfl
theorem opz6 (f : Nat) : opRename (begS (begS (z3 f))) [98] [99] = (10, begS (begS (begS (z3 f)))) := rfl
theorem opz7 (f : Nat) : opRename (begS (begS (begS (z3 f)))) [97] [97] = (0, begS (begS (begS (begS (z3 f))))) := rfl
theorem opz8 (f : Nat) : opDelete (begS (begS (begS (begS (z3 f))))) [98] = (10, begS (begS (begS (begS (begS (z3 f)))))) := rfl
theorem fz (f : Nat) : ((begS (begS (begS (begS (begS (z3 f)))))).fs f).1 = [] := by
  have : (begS (begS (begS (begS (begS (z3 f)))))).fs f = ([], 0) := upd_same _ _ _
  rw [this]

end Go.Proofs.Ytjiklpoggpdngaa
