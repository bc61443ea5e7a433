/- The program's reading of sections. -/
import Derived.Test.YtaaeaaahllicbaaFrPE
import Derived.Test.YtaaeaaahllicbaaFrmZ
import Derived.Test.YtaaeaaahllicbaaFrPD
import Derived.Laws.MakeOwn
namespace Go.Proofs.Ytaaeaaahllicbaa
open Go.RowKit Go.Maps Crc

namespace PrgR
theorem own_set {w : World} {base n : Nat} {e : TypeId} {xo : Option Addr} {xc : Nat} {zs : List Value} (h : w.ownsRow base e 1 (.slice xo n xc) n zs) {i : Nat} (hi : i < n) {y : Value} (hy : y.oneCell' = true) :
    ∃ g, xo = some ⟨g, 0, none⟩ ∧ base ≤ g ∧ g < w.heap.size ∧ (∃ x, zs[i]? = some x ∧ w.cell? ⟨g, i, none⟩ = some x) ∧ w.frozen? ⟨g, i, none⟩ = false ∧ (w.setCell ⟨g, i, none⟩ y).ownsRow base e 1 (.slice xo n xc) n (zs.set i y) := by
  have hl : zs.length = n := by have := h.1; simpa using this
  have hcell := fun a (e : Value.slice xo n xc = .slice (some a) n xc) => row_cell h e (i := i) (by rw [hl]; exact hi)
  obtain ⟨h1, h2 | ⟨g, cap, cur, hv', hg, hh, hn', hc', hcs', htk⟩⟩ := h
  · exact absurd h2.2 (by omega)
  · injection hv' with e1 _ e3
    subst e1
    obtain ⟨hc1, _, _⟩ := hcell ⟨g, 0, none⟩ rfl
    refine ⟨g, rfl, hg, lt_of_heap hh, ⟨zs[i]'(by omega), List.getElem?_eq_getElem (by omega), ?_⟩, unfrozen_of hh, ?_⟩
    · simpa using hc1
    · refine ⟨by simp [hl], .inr ⟨g, cap, cur.setIfInBounds i y, by rw [e3], hg, heap_set hh _, hn', hc', by simpa using hcs', ?_⟩⟩
      rw [Array.toList_setIfInBounds, List.take_set, htk]
theorem made_zero (z : Value) (h : z.cells = #[z]) (n : Nat) : (madeCells z.cells (n * 1)).toList = List.replicate n z := by
  rw [h]
  apply List.ext_getElem
  · simp [size_madeCells]
  · intro i h1 h2
    simp only [List.getElem_replicate, Array.getElem_toList]
    unfold madeCells
    simp [Nat.mod_one]
theorem make_zero {t e : TypeId} {z : Value} {bytes : Nat} (ht : Try.prog.underlying t = some (.slice e)) (hinfo : (Try.prog.info? e).map (fun i => (i.zero, i.size, i.bytes)) = some (some z, 1, bytes)) (hz : z.cells = #[z]) (n : Nat) (hb : bytes * n ≤ 281474976710656) (hn : (n : Int) ≤ 9223372036854775807) (w : World) :
    ∃ w1, (Instr.makeSlice t (.int .i64 (n : Int)) (.int .i64 (n : Int))).run Try.prog w = .ok (.slice (some ⟨w.heap.size, 0, none⟩) n n) w1 ∧ w1.ownsRow w.heap.size e 1 (.slice (some ⟨w.heap.size, 0, none⟩) n n) n (List.replicate n z) ∧ BW w w1 := by
  obtain ⟨i0, hi, hz0, hz1, hz2⟩ := infoOf hinfo
  obtain ⟨w1, hr, ho, hg⟩ := run_make_full (P := Try.prog) (w := w) w.heap.size t e i0 z 1 ht hi hz0 hz1 .i64 .i64 n (by rw [hz2]; exact hb) (by unfold maxLen; omega) (Nat.le_refl _)
  rw [made_zero z hz] at ho
  exact ⟨w1, hr, ho, bw_grown (BW.refl w) hg (fun k e => by cases e)⟩
end PrgR

theorem Bag.set {w0 w : World} {B g n c j : Nat} {x : Value} {vs : List Value} {ss : List (List UInt8)} {s : List UInt8} (h : Bag w0 B (.slice (some ⟨g, 0, none⟩) n c) vs ss) (hn : n = vs.length) (hj : j < vs.length) (hs0 : w0.heap.size ≤ w.heap.size) (hB : B ≤ w0.heap.size)
    (hk : ∀ b, B ≤ b → b < w0.heap.size → w.heap[b]? = w0.heap[b]?) (hx : w.ownsRow w0.heap.size 5 1 x s.length (s.map bV)) : Bag (w.setCell ⟨g, j, none⟩ x) B (.slice (some ⟨g, 0, none⟩) n c) (vs.set j x) (ss.set j s) := by
  have hg : B ≤ g ∧ g < w0.heap.size := row_block h.out (b := g) rfl
  have hkw : ∀ b, b ≠ g → (w.setCell ⟨g, j, none⟩ x).heap[b]? = w.heap[b]? := fun b hb => Below.heap_setCell _ _ _ _ hb
  have hxb : ∀ b, x.ownBlock = some b → w0.heap.size ≤ b ∧ b < w.heap.size := fun b e => row_block hx e
  have hold : ∀ (i : Nat) (y : Value) (b : Nat), vs[i]? = some y → y.ownBlock = some b → (B ≤ b ∧ b < w0.heap.size) ∧ b ≠ g := fun i y b hy e => by
    obtain ⟨s', hs', hr⟩ := h.elem hy
    refine ⟨row_block hr e, fun e2 => h.off i y b hy e ?_⟩
    rw [e2]; rfl
  have hx1 : x.oneCell' = true := by obtain ⟨a, n', c', rfl⟩ := row_form hx; rfl
  have hmem : ∀ (i : Nat) (y : Value), (vs.set j x)[i]? = some y → (i ≠ j ∧ vs[i]? = some y) ∨ (i = j ∧ y = x) := fun i y hy => by
    rw [List.getElem?_set] at hy
    by_cases e : j = i
    · rw [if_pos e, if_pos (by omega)] at hy; injection hy with hy; exact .inr ⟨e.symm, hy.symm⟩
    · rw [if_neg e] at hy; exact .inl ⟨fun e2 => e e2.symm, hy⟩
  refine ⟨by simp [h.len], ?_, fun i y s' hy hs' => ?_, fun i k y z b hy hz ey ez => ?_, fun i y b hy e => ?_⟩
  · have ho := (h.keep hk).out
    subst hn
    obtain ⟨g', e1, _, _, _, _, ho2⟩ := PrgR.own_set ho hj hx1
    cases e1
    rw [List.length_set]; exact ho2
  · rcases hmem i y hy with ⟨hne, hy⟩ | ⟨rfl, rfl⟩
    · rw [List.getElem?_set, if_neg (fun e => hne e.symm)] at hs'
      refine row_keepB (h.row i y s' hy hs') fun b e => ?_
      have h1 := hold i y b hy e
      exact (hkw b h1.2).trans (hk b h1.1.1 h1.1.2)
    · rw [List.getElem?_set, if_pos rfl, if_pos (by have := h.len; omega)] at hs'
      injection hs' with hs'
      subst hs'
      refine row_base (row_keepB hx fun b e => hkw b ?_) hB
      have := hxb b e; omega
  · rcases hmem i y hy with ⟨_, hy1⟩ | ⟨rfl, rfl⟩ <;> rcases hmem k z hz with ⟨_, hz1⟩ | ⟨rfl, rfl⟩
    · exact h.apart i k y z b hy1 hz1 ey ez
    · have := hold i y b hy1 ey; have := hxb b ez; omega
    · have := hold k z b hz1 ez; have := hxb b ey; omega
    · rfl
  · intro e2
    injection e2 with e2
    subst e2
    rcases hmem i y hy with ⟨_, hy1⟩ | ⟨rfl, rfl⟩
    · exact (hold i y g hy1 e).2 rfl
    · have := hxb g e; omega
theorem Bag.nils {w : World} {B g n : Nat} (h : w.ownsRow B 23 1 (.slice (some ⟨g, 0, none⟩) n n) n (List.replicate n (.slice none 0 0))) : Bag w B (.slice (some ⟨g, 0, none⟩) n n) (List.replicate n (.slice none 0 0)) (List.replicate n []) := by
  have hm : ∀ (i : Nat) (y : Value), (List.replicate n (Value.slice none 0 0))[i]? = some y → y = .slice none 0 0 := fun i y hy => List.eq_of_mem_replicate (List.mem_of_getElem? hy)
  refine ⟨by simp, by simpa using h, fun i y s hy hs => ?_, fun i k y z b hy hz ey ez => ?_, fun i y b hy e => ?_⟩
  · rw [hm i y hy, List.eq_of_mem_replicate (List.mem_of_getElem? hs)]
    exact World.ownsRow_nil _ _ _ _
  · rw [hm i y hy] at ey; cases ey
  · rw [hm i y hy] at e; cases e
theorem set_at {α : Type} (xs : List α) (y z : α) (g j : Nat) (h : xs.length = j) : (xs ++ List.replicate (g + 1) y).set j z = (xs ++ [z]) ++ List.replicate g y := by
  subst h
  rw [List.replicate_succ, List.set_append_right _ _ (Nat.le_refl _), Nat.sub_self, List.set_cons_zero, List.append_assoc]; rfl

def SecPost (w : World) (l : List UInt8) (e : Ending) (w' : World) : Prop := ∃ (v : Value) (b : Bool), e = .returned (.tuple #[v, .bool b]) ∧ BW w w' ∧ ((b = true ∧ ∃ ss vs, restP l = some ss ∧ Bag w' w.heap.size v vs ss) ∨ (b = false ∧ restP l = none))
set_option maxHeartbeats 8000000 in
set_option maxRecDepth 100000 in
theorem readSections_any {w : World} {v : Value} {l : List UInt8} (h : Src w v (l.map bV)) (hb : (l.length : Int) ≤ 140737488351232) : Calls Try.prog 32 #[v] w (SecPost w l) := by
  obtain ⟨ao, cap, rfl⟩ := h.len
  rw [List.length_map] at h ⊢
  have HNEW := Lib.hid (new_any h hb)
  generalize l.length = ln at *
  clear h hb
  go_enter Try.func32, Try.ntmps32
  go_wp2_with fail
  refine HNEW.out.mono ?_
  rintro e w0 ⟨r, c, rfl, hr, hc, hrd, hbw⟩
  unfold ptr
  have HR := Lib.hid hr
  have HB0 := Lib.hid hbw
  have HRD := Lib.hid hrd
  have HR0 := Lib.hid hrd.ltr
  have HC0 := Lib.hid hrd.lt
  clear hr hc hrd hbw HNEW
  go_wp2_with fail
  refine (PrgR.count_any HRD.out).mono ?_
  rintro e w1 ⟨k, hk, rfl, hm1, hst⟩
  have HBW1 : Hid (BW w w1) := bw_moves HB0.out hm1 HR.out
  have HR1 : Hid (r < w1.heap.size) := Nat.lt_of_lt_of_le HR0.out hm1.size
  have HC1 : Hid (c < w1.heap.size) := Nat.lt_of_lt_of_le HC0.out hm1.size
  have HST := Lib.hid hst
  have hki : (k : Int) ≤ 1024 := by omega
  obtain ⟨w2, hrun, hown, hbw2⟩ := PrgR.make_zero (t := 63) (z := .int .i64 0) (bytes := 8) Try.underlying63 info_int rfl k (by omega) (by omega) w1
  have HOWN := Lib.hid hown
  have HM2 : Hid (Moves (fun b => b = r) w1 w2) := Moves.of_below hbw2 _
  have HST2 : Hid (PrgR.StS w2 r c l k []) := HST.out.keep (B := w1.heap.size) HR1.out HC1.out hbw2.size fun b hb => hbw2.block b hb
  clear hm1 hst hown hbw2 hk
  go_wp2
  clear hrun
  go_loopg [17] k (fun g s17 wx => ∃ (i : Nat) (zs : List Nat), i + g = k ∧ s17 = .int .i64 i ∧ zs.length = i ∧ (∀ z ∈ zs, z ≤ 16777216) ∧ wx.ownsRow w1.heap.size 3 1 (.slice (some ⟨w1.heap.size, 0, none⟩) k k) k (zs.map nV ++ List.replicate g (nV 0)) ∧ Moves (fun b => b = r) w1 wx ∧ PrgR.StS wx r c l g zs)
  case atStart => exact ⟨0, [], by omega, rfl, rfl, (fun z h => by cases h), HOWN.out, HM2.out, HST2.out⟩
  case round =>
    obtain ⟨i, zs, hig, rfl, hzl, hzs, hrow, hmv, hst⟩ := hrel
    have HIG := Lib.hid hig
    have HZL := Lib.hid hzl
    have HZS := Lib.hid hzs
    have HROW := Lib.hid hrow
    have HMV := Lib.hid hmv
    have HSTX := Lib.hid hst
    clear hzl hzs hrow hmv hst
    cases gk with
    | zero =>
      have hge : (k : Int) ≤ (i : Int) := by omega
      have hdz : decide (i < k) = false := decide_eq_false (by omega)
      have HZK : Hid (zs.length = k) := by have := HZL.out; unfold Hid; omega
      have HROWK : Hid (wr.ownsRow w1.heap.size 3 1 (.slice (some ⟨w1.heap.size, 0, none⟩) k k) k (zs.map nV)) := by have h1 := HROW.out; rw [List.replicate_zero, List.append_nil] at h1; exact h1
      have HSTC := Lib.hid (PrgR.StS.done HSTX.out)
      obtain ⟨wo, rfl⟩ : ∃ wo : World, wo = wr := ⟨_, rfl⟩
      have HBWO : Hid (BW w wo) := bw_moves HBW1.out HMV.out HR.out
      have HRO : Hid (r < wo.heap.size) := Nat.lt_of_lt_of_le HR1.out HMV.out.size
      have HCO : Hid (c < wo.heap.size) := Nat.lt_of_lt_of_le HC1.out HMV.out.size
      obtain ⟨w3, hrun, hown3, hbw3⟩ := PrgR.make_zero (t := 22) (z := .slice none 0 0) (bytes := 24) Try.underlying22 info_rows rfl k (by omega) (by omega) wo
      have HBAG0 := Lib.hid (Bag.nils hown3)
      have HM3 : Hid (Moves (fun b => b = r) wo w3) := Moves.of_below hbw3 _
      have HST3 : Hid (PrgR.StC w3 r c l zs []) := HSTC.out.keep (B := wo.heap.size) HRO.out HCO.out hbw3.size fun b hb => hbw3.block b hb
      have HBLK : Hid (wo.heap.size < w3.heap.size) := (row_block hown3 (b := wo.heap.size) rfl).2
      clear hig HIG HROW hown3 hbw3
      go_wp2
      clear hrun
      go_loopg [31] k (fun g s31 wx => ∃ (j : Nat) (vs : List Value) (ss : List (List UInt8)), j + g = k ∧ s31 = .int .i64 j ∧ vs.length = j ∧ ss.length = j ∧ Bag wx wo.heap.size (.slice (some ⟨wo.heap.size, 0, none⟩) k k) (vs ++ List.replicate g (.slice none 0 0)) (ss ++ List.replicate g []) ∧ Moves (fun b => b = r) wo wx ∧ wo.heap.size < wx.heap.size ∧ PrgR.StC wx r c l (zs.drop j) ss)
      case atStart => exact ⟨0, [], [], by omega, rfl, rfl, rfl, HBAG0.out, HM3.out, HBLK.out, HST3.out⟩
      case round =>
        obtain ⟨j, vs, ss, hjg, rfl, hvl, hsl, hbag, hmv, hblk, hst⟩ := hrel
        have HJG := Lib.hid hjg
        have HVL := Lib.hid hvl
        have HSL := Lib.hid hsl
        have HBAG := Lib.hid hbag
        have HMV2 := Lib.hid hmv
        have HST2 := Lib.hid hst
        have HBLK2 := Lib.hid hblk
        clear hvl hsl hbag hmv hst hblk
        cases gk with
        | zero =>
          have hge2 : (k : Int) ≤ (j : Int) := by omega
          have hdz2 : decide (j < k) = false := decide_eq_false (by omega)
          have HSTE : Hid (PrgR.StC wr r c l [] ss) := by
            have h1 := HST2.out
            rw [List.drop_eq_nil_of_le (by have := HZK.out; omega)] at h1
            exact h1
          clear hjg HJG
          go_wp2_with fail
          refine (PrgR.end_rest HSTE.out).mono ?_
          rintro e w5 ⟨er, rfl, hm5, hcase⟩
          have HBW5 : Hid (BW w w5) := bw_moves (bw_moves HBWO.out HMV2.out HR.out) hm5 HR.out
          have HBAG5 : Hid (Bag w5 w.heap.size (.slice (some ⟨wo.heap.size, 0, none⟩) k k) vs ss) := by
            have h1 := HBAG.out
            rw [List.replicate_zero, List.append_nil, List.replicate_zero, List.append_nil] at h1
            exact (h1.keep fun b h1 h2 => hm5.block b h2 (by have := HRO.out; omega)).base HBWO.out.size
          clear hm5
          rcases hcase with ⟨rfl, hr⟩ | ⟨rfl, hr⟩
          · have HR := Lib.hid hr
            clear hr
            go_wp2
            go_ret2
            exact ⟨_, _, rfl, HBW5.out, .inl ⟨rfl, ss, vs, HR.out, HBAG5.out⟩⟩
          · have HR := Lib.hid hr
            clear hr
            go_wp2
            go_ret2
            exact ⟨_, _, rfl, HBW5.out, .inr ⟨rfl, HR.out⟩⟩
        | succ g =>
          have hi : (j : Int) < (k : Int) := by omega
          have hi0 : (0 : Int) ≤ (j : Int) := by omega
          have hjl : j < zs.length := by have := HZK.out; omega
          obtain ⟨z, hz⟩ : ∃ z, z = zs[j] := ⟨_, rfl⟩
          have hzb : z ≤ 16777216 := by rw [hz]; exact HZS.out _ (List.getElem_mem _)
          have HDROP : Hid (zs.drop j = z :: zs.drop (j + 1)) := by unfold Hid; rw [hz]; exact List.drop_eq_getElem_cons hjl
          have HROWX : Hid (wr.ownsRow w1.heap.size 3 1 (.slice (some ⟨w1.heap.size, 0, none⟩) k k) k (zs.map nV)) := row_keepB HROWK.out fun b e => HMV2.out.block b (row_block HROWK.out e).2 (by have := (row_block HROWK.out e).1; have := HR1.out; omega)
          obtain ⟨zb, zo, ez, hcz⟩ := (Src.of_row HROWX.out).get (i := j) (u := nV z) (by rw [List.getElem?_map, List.getElem?_eq_getElem hjl, ← hz]; rfl)
          cases ez
          rw [Nat.zero_add] at hcz
          unfold nV at hcz
          have HCUT : Hid (PrgR.StC wr r c l (z :: zs.drop (j + 1)) ss) := by have h1 := HST2.out; rw [HDROP.out] at h1; exact h1
          have HCALL := Lib.hid (PrgR.cut_any HCUT.out hzb)
          clear hjl hz hjg
          go_wp2_with fail
          refine HCALL.out.mono ?_
          rintro e w4 ⟨x, t, rfl, hm4, hx4, hst4⟩
          have HBK : Hid (∀ b, wo.heap.size ≤ b → b < wr.heap.size → w4.heap[b]? = wr.heap[b]?) := fun b h1 h2 => hm4.block b h2 (by have := HRO.out; omega)
          have HLEN : Hid (k = (vs ++ List.replicate (g + 1) (Value.slice none 0 0)).length) := by
            have := HVL.out; have := HJG.out; unfold Hid; rw [List.length_append, List.length_replicate]; omega
          have HBAG4 := Lib.hid (Bag.set (j := j) HBAG.out HLEN.out (by rw [List.length_append, List.length_replicate]; have := HVL.out; omega) hm4.size (Nat.le_of_lt HBLK2.out) HBK.out hx4)
          have hset1 := set_at vs (Value.slice none 0 0) x g j HVL.out
          have hset2 := set_at ss ([] : List UInt8) t g j HSL.out
          rw [hset1, hset2] at HBAG4
          clear hset1 hset2
          have hfr : w4.frozen? ⟨wo.heap.size, j, none⟩ = false ∧ ∃ y, w4.cell? ⟨wo.heap.size, j, none⟩ = some y := by
            have h1 := (HBAG.out.keep HBK.out).out
            rw [← HLEN.out] at h1
            obtain ⟨g', e1, _, _, ⟨y, _, hy⟩, hf, _⟩ := PrgR.own_set (y := .slice none 0 0) h1 (i := j) (by have := HJG.out; omega) rfl
            cases e1
            exact ⟨hf, y, hy⟩
          obtain ⟨hf4, y4, hy4⟩ := hfr
          have HMV4 : Hid (Moves (fun b => b = r) wo (w4.setCell ⟨wo.heap.size, j, none⟩ x)) := (HMV2.out.trans hm4 (fun _ _ h => h)).setCell (fun h => absurd h (Nat.lt_irrefl _)) _
          have HST4 : Hid (PrgR.StC (w4.setCell ⟨wo.heap.size, j, none⟩ x) r c l (zs.drop (j + 1)) (ss ++ [t])) := by
            refine hst4.keep (B := wo.heap.size) HRO.out HCO.out (by simp [World.setCell]) fun b hb => ?_
            exact Below.heap_setCell _ _ _ _ (by show b ≠ wo.heap.size; omega)
          have HBLK4 : Hid (wo.heap.size < (w4.setCell ⟨wo.heap.size, j, none⟩ x).heap.size) := by
            have h1 : (w4.setCell ⟨wo.heap.size, j, none⟩ x).heap.size = w4.heap.size := by simp [World.setCell]
            have h2 := hm4.size; have h3 := HBLK2.out
            unfold Hid; omega
          obtain ⟨xo, xn, xc, rfl⟩ := row_form hx4
          clear hm4 hx4 hst4 HBK HLEN HCALL
          go_wp2
          go_roundg g
          case measure => omega
          case rel => exact ⟨j + 1, _, _, by have := HJG.out; omega, by first | rfl | simp, by rw [List.length_append, HVL.out]; rfl, by rw [List.length_append, HSL.out]; rfl, HBAG4.out, HMV4.out, HBLK4.out, HST4.out⟩
    | succ g =>
      have hi : (i : Int) < (k : Int) := by omega
      have hi0 : (0 : Int) ≤ (i : Int) := by omega
      have HCALL := Lib.hid (PrgR.size_any HSTX.out)
      clear hig
      go_wp2_with fail
      refine HCALL.out.mono ?_
      rintro e w3 ⟨z, hz, rfl, hm3, hst3⟩
      have HR3 : Hid (w3.ownsRow w1.heap.size 3 1 (.slice (some ⟨w1.heap.size, 0, none⟩) k k) k (zs.map nV ++ List.replicate (g + 1) (nV 0))) := row_keepB HROW.out fun b e => hm3.block b (row_block HROW.out e).2 (by have := (row_block HROW.out e).1; have := HR1.out; omega)
      obtain ⟨g', e1, hg1, hg2, ⟨y, _, hy⟩, hf, hset⟩ := PrgR.own_set (y := .int .i64 (z : Int)) HR3.out (i := i) (by have := HIG.out; omega) rfl
      cases e1
      have HSET : Hid ((w3.setCell ⟨w1.heap.size, i, none⟩ (.int .i64 (z : Int))).ownsRow w1.heap.size 3 1 (.slice (some ⟨w1.heap.size, 0, none⟩) k k) k ((zs ++ [z]).map nV ++ List.replicate g (nV 0))) := by
        have h1 := set_at (zs.map nV) (nV 0) (nV z) g i (by rw [List.length_map]; exact HZL.out)
        unfold Hid
        rw [List.map_append, List.map_cons, List.map_nil, ← h1]; exact hset
      have HM3 : Hid (Moves (fun b => b = r) w1 (w3.setCell ⟨w1.heap.size, i, none⟩ (.int .i64 (z : Int)))) := (HMV.out.trans hm3 (fun _ _ h => h)).setCell (fun h => absurd h (Nat.lt_irrefl _)) _
      have HST4 : Hid (PrgR.StS (w3.setCell ⟨w1.heap.size, i, none⟩ (.int .i64 (z : Int))) r c l g (zs ++ [z])) := by
        refine hst3.keep (B := w1.heap.size) HR1.out HC1.out (by simp [World.setCell]) fun b hb => ?_
        exact Below.heap_setCell _ _ _ _ (by show b ≠ w1.heap.size; omega)
      have HZS2 : Hid (∀ y ∈ zs ++ [z], y ≤ 16777216) := fun y hy => by
        rcases List.mem_append.1 hy with h | h
        · exact HZS.out y h
        · rw [List.mem_singleton.1 h]; exact hz
      clear hm3 hst3 hz hset hg1 hg2 HCALL
      go_wp2
      go_roundg g
      case measure => omega
      case rel => exact ⟨i + 1, zs ++ [z], by have := HIG.out; omega, by first | rfl | simp, by rw [List.length_append, HZL.out]; rfl, HZS2.out, HSET.out, HM3.out, HST4.out⟩
end Go.Proofs.Ytaaeaaahllicbaa
