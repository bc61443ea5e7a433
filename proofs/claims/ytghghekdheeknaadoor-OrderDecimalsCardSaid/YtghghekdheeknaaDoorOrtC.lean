/- Stage 7: the document's Decimal, in memory, walked (made by wip/mkOrtC.py). -/
import Derived.Test.YtghghekdheeknaaDoorOrtB
namespace Go.Proofs.YtghghekdheeknaaDoor
open Go.RowKit Go.Maps Odr Go.Shelf
attribute [local go_sem] Oper.semAt_some

theorem row8_alloc {w : World} {B n : Nat} {v : Value} {xs : List Value} (h : w.ownsRow B 5 1 v n xs) (o : Obj) : (w.alloc o).ownsRow B 5 1 v n xs :=
  row_keep h fun a k c e => Below.heap_alloc _ _ _ (row_lt h e)
theorem row8_type {w : World} {B n : Nat} {v : Value} {xs : List Value} (h : w.ownsRow B 5 1 v n xs) {g : Nat} (hg : v.ownBlock = some g) : B ≤ g ∧ True := by
  obtain ⟨a, k, c, rfl, rfl⟩ := own_some hg
  exact ⟨new_of_row h rfl, trivial⟩
theorem row8_some {w : World} {B n sl sp : Nat} {ao : Option Addr} {xs : List Value} (h : w.ownsRow B 5 1 (.slice ao sl sp) n xs) (hn : 0 < n) : ∃ gb go : Nat, ao = some ⟨gb, go, none⟩ := by
  obtain ⟨_, ⟨e, h0⟩ | ⟨g, cap, cur, e, _⟩⟩ := h
  · omega
  · injection e with e1 e2 e3; exact ⟨g, 0, e1⟩
theorem row8_cell {w : World} {B n sl sp gb go : Nat} {Y : List UInt8} (h : w.ownsRow B 5 1 (.slice (some ⟨gb, go, none⟩) sl sp) n (Y.map bV)) {i : Nat} (hi : i < Y.length) : w.cell? ⟨gb, go + i, none⟩ = some (.int .u8 (Y[i].toNat : Int)) := by
  have := (row_cell h rfl (i := i) (by simpa using hi)).1
  rw [List.getElem_map] at this; exact this
theorem num_read (b : Bool) (Y : List UInt8) : numP b Y = match readB 0 Y with | none => none | some u => if b = true then some (-(u : Int)) else if u = 9223372036854775808 then none else some (u : Int) := by
  rw [readB_eq Y 0 (Nat.zero_le _), Nat.zero_mul, Nat.zero_add]
  unfold numP
  by_cases h : 9223372036854775808 < vals Y
  · rw [if_pos h, if_pos h]
  · rw [if_neg h, if_neg h]
set_option maxRecDepth 100000 in
set_option maxHeartbeats 4000000 in
theorem refDec_minus (s : List UInt8) (sc : Nat) (hsc : sc ≤ 9) (hl : (s.length : Int) ≤ 140737488355000) (hb : (s.head? == some 45) = true) (w : World) : Calls Tryd.prog 10 #[textV s, .int .i64 (sc : Int)] w (DecPost w (decPR (decP true (s.drop 1) sc))) := by
  obtain ⟨r, hr⟩ : ∃ r, r = s.drop 1 := ⟨_, rfl⟩
  obtain ⟨W, hW⟩ : ∃ W, W = r.takeWhile isDig := ⟨_, rfl⟩
  obtain ⟨R2, hR2⟩ : ∃ R2, R2 = r.dropWhile isDig := ⟨_, rfl⟩
  obtain ⟨q, hq⟩ : ∃ q, q = decP true r sc := ⟨_, rfl⟩
  rw [← hr, ← hq]
  have hrr : r = W ++ R2 := by rw [hW, hR2]; exact tw_pre isDig r
  have HWD : Hid (∀ c ∈ W, isDig c = true) := fun c hc => by
    rw [hW] at hc
    have := List.all_takeWhile (p := isDig) (l := r)
    rw [List.all_eq_true] at this
    exact this c hc
  have HR2 : Hid (R2 = [] ∨ ∃ c t, R2 = c :: t ∧ isDig c = false) := by unfold Hid; rw [hR2]; exact drop_head
  obtain ⟨ts, hts⟩ : ∃ t, t = ByteArray.mk s.toArray := ⟨_, rfl⟩
  have vt : textV s = .string ts := by rw [hts]; rfl
  have hst : ts.size = s.length := by rw [hts]; exact text_size s
  have hsi : (ts.size : Int) ≤ 140737488355000 := by omega
  have hne : 1 ≤ s.length := by cases s with
    | nil => simp at hb
    | cons c t => simp
  have hlr : s.length = 1 + r.length := by rw [hr, List.length_drop]; omega
  have HWL : Hid (1 + W.length + R2.length = ts.size ∧ (ts.size : Int) ≤ 140737488355000) := by
    unfold Hid; rw [hst, hlr, hrr, List.length_append]; exact ⟨by omega, by rw [← hst] at hl; rw [hst] at hl; rw [hlr, hrr, List.length_append] at hl; omega⟩
  have HAT : Hid (∀ k (hk : k < W.length) j, j = 1 + k → ∀ hj : j < ts.size, ((ts[j]'hj).toNat : Int) = (W[k].toNat : Int)) := fun k hk j hjk hj => by
    subst hts
    have h1 : (ByteArray.mk s.toArray)[j]'hj = s[j]'(by rw [← hst]; exact hj) := rfl
    have h2 : s[j]'(by rw [← hst]; exact hj) = W[k] := by
      have h3 : r[k]? = some W[k] := by rw [hrr, List.getElem?_append_left hk, List.getElem?_eq_getElem hk]
      rw [hr, List.getElem?_drop, ← hjk, List.getElem?_eq_getElem (by rw [← hst]; exact hj)] at h3
      exact Option.some.inj h3
    rw [h1, h2]
  have HAT2 : Hid (∀ k (hk : k < R2.length) j, j = 1 + W.length + k → ∀ hj : j < ts.size, ((ts[j]'hj).toNat : Int) = (R2[k].toNat : Int)) := fun k hk j hjk hj => by
    subst hts
    have h1 : (ByteArray.mk s.toArray)[j]'hj = s[j]'(by rw [← hst]; exact hj) := rfl
    have h2 : s[j]'(by rw [← hst]; exact hj) = R2[k] := by
      have h3 : r[W.length + k]? = some R2[k] := by rw [hrr, List.getElem?_append_right (by omega), Nat.add_sub_cancel_left, List.getElem?_eq_getElem hk]
      rw [hr, List.getElem?_drop, show 1 + (W.length + k) = j by omega, List.getElem?_eq_getElem (by rw [← hst]; exact hj)] at h3
      exact Option.some.inj h3
    rw [h1, h2]
  have HQ := Lib.hid hq
  have HW0 := Lib.hid hW
  have HR20 := Lib.hid hR2
  have HHD : Hid (∃ h : 0 < ts.size, ((ts[0]'h).toNat : Int) = 45) := by
    unfold Hid
    cases s with
    | nil => simp at hb
    | cons c t =>
      have hc : c = 45 := by simpa using hb
      subst hc
      subst hts
      exact ⟨by rw [hst]; simp, rfl⟩
  have hs0 : 0 ≤ (sc : Int) := by omega
  have hs9 : (sc : Int) ≤ 9 := by omega
  have ds1 : decide ((sc : Int) < 0) = false := decide_eq_false (by omega)
  have ds2 : decide (9 < (sc : Int)) = false := decide_eq_false (by omega)
  have ds3 : decide ((sc : Int) ≤ 9) = true := decide_eq_true (by omega)
  rw [vt]
  clear hr hW hR2 hq hrr hts vt hst hne hlr hb hl hsc
  obtain ⟨hp0, hx0⟩ := HHD.out
  have hpi : (0 : Int) < (ts.size : Int) := by omega
  clear HHD
  go_enter Tryd.func10, Tryd.ntmps10
  go_wp2
  go_loopw [6, 8] (fun s6 s8 wx => ∃ (k : Nat) (v : Value), k ≤ W.length ∧ s6 = .int .i64 ((1 + k : Nat) : Int) ∧ s8 = v ∧ wx.ownsRow w.heap.size 5 1 v k ((W.take k).map bV) ∧ BW w wx) (fun s6 _ _ => 1 + W.length - (intOf s6).toNat)
  case atStart => exact ⟨0, _, Nat.zero_le _, rfl, rfl, World.ownsRow_nil _ _ _ _, BW.refl _⟩
  case round =>
    obtain ⟨k, v, hk, rfl, rfl, hv, hbw⟩ := hrel
    obtain ⟨ao, sl, sp, rfl⟩ := row_form hv
    have HV := Lib.hid hv
    have HBW := Lib.hid hbw
    clear hv hbw
    obtain ⟨j, hj⟩ : ∃ j, j = 1 + k := ⟨_, rfl⟩
    rw [← hj]
    have HJ := Lib.hid hj
    have hj0 : 0 ≤ (j : Int) := by omega
    have hjs : j ≤ ts.size := by have := HWL.out; omega
    have hjsi : (j : Int) ≤ (ts.size : Int) := by omega
    by_cases hlt : k < W.length
    · have hjl : j < ts.size := by have := HWL.out; omega
      have hjli : (j : Int) < (ts.size : Int) := by omega
      obtain ⟨c, hc⟩ : ∃ c, c = W[k] := ⟨_, rfl⟩
      have hxi : ((ts[j]'hjl).toNat : Int) = (c.toNat : Int) := by rw [hc]; exact HAT.out k hlt j hj hjl
      have hcd : isDig c = true := by rw [hc]; exact HWD.out _ (List.getElem_mem _)
      have HDG : Hid (∀ V, Calls Tryd.prog 36 #[.int .u8 (c.toNat : Int)] V fun e w' => e = .returned (.bool true) ∧ V = w') := fun V => by rw [← hcd]; exact refDigit_any c V
      have HNX : Hid (W.take (k + 1) = W.take k ++ [c]) := by unfold Hid; rw [List.take_add_one, List.getElem?_eq_getElem hlt, Option.toList_some, hc]
      have HLT := Lib.hid hlt
      have HROOM : Hid (k + 1 ≤ 140737488355328) := by unfold Hid; have := HWL.out; omega
      have HSZ : Hid (w.heap.size ≤ (wr.alloc (.cells #[.int .u8 (c.toNat : Int)] 5)).heap.size) := by unfold Hid; have := HBW.out.size; simp; omega
      have HV3 : Hid ((wr.alloc (.cells #[.int .u8 (c.toNat : Int)] 5)).ownsRow w.heap.size 5 1 (.slice ao sl sp) k ((W.take k).map bV)) := row8_alloc HV.out _
      have HCE : Hid ((wr.alloc (.cells #[.int .u8 (c.toNat : Int)] 5)).cell? ⟨wr.heap.size, 0, none⟩ = some (bV c)) := cell_of (heap_new wr _) rfl
      clear hlt hk hc hcd hj
      go_wp2_with (first | (go_at_call 36; refine (HDG.out _).mono ?_; rintro e w9 ⟨rfl, rfl⟩) | (at_builtin; refine append_byte1 (c := c) (l0 := W.take k) rfl _ _ rfl rfl HV3.out HSZ.out rfl HCE.out HROOM.out ?_; intro v5 W5 ho5 hg5; have HO5 := Lib.hid ho5; have HG5 := Lib.hid hg5; clear ho5 hg5))
      go_roundw
      case rel => exact ⟨k + 1, _, HLT.out, by rw [HJ.out]; first | rfl | go_num | (congr 1; omega), rfl, by rw [HNX.out]; exact HO5.out, RowKit.Below.grown (HBW.out.alloc _) HG5.out (HBW.out.alloc _).size (fun r e => (row8_type HV3.out e).1)⟩
      case measure => simp [intOf]; have := HLT.out; have := HJ.out; omega
    · obtain rfl : k = W.length := by omega
      have hvw : Hid (wr.ownsRow w.heap.size 5 1 (.slice ao sl sp) W.length (W.map bV)) := by
        have := HV.out
        rwa [List.take_length] at this
      have hsl : sl = W.length := row_len HV.out rfl
      clear HV hlt hk hj
      have HSLW := Lib.hid hsl
      obtain rfl : sl = W.length := hsl
      rcases HR2.out with hr2 | ⟨c, t, hr2, hcd⟩
      · have hje : j = ts.size := by have h1 := HWL.out; have h2 := HJ.out; rw [hr2] at h1; simp at h1; omega
        have hjei : (ts.size : Int) ≤ (j : Int) := by omega
        have HR2E := Lib.hid hr2
        have HJE := Lib.hid hje
        clear hr2 hje
        by_cases w0 : W.length = 0
        · have hqn : q = none := by rw [HQ.out]; exact decP_bad (by rw [← HW0.out, List.eq_nil_of_length_eq_zero w0]; rfl)
          have heq : ((j : Int) == (1 : Int)) = true := by have := HJ.out; simp; omega
          subst hqn
          clear w0
          go_wp2
          go_ret2
          exact ⟨rfl, HBW.out⟩
        go_upto_region 12 with (fail)
        go_cut [68] from 48 to 68 (fun c wx => c = .bool (badW W) ∧ wx = wr)
        case first =>
          · have heq : ((j : Int) == (1 : Int)) = false := by have := HJ.out; simp; omega
            by_cases w19 : 19 < W.length
            · have hbad : badW W = true := by unfold badW; rw [decide_eq_true w19]; simp
              have h19 : (19 : Int) < ((j : Int) - 1) := by have := HJ.out; omega
              clear w0 w19
              go_wp2
              go_meet
              exact ⟨by first | (rw [hbad]; done) | (rw [hbad]; simp; omega), rfl⟩
            · have h19 : ((j : Int) - 1) ≤ (19 : Int) := by have := HJ.out; omega
              have hfs : 1 < ts.size := by have := HWL.out; omega
              have hfsi : (1 : Int) < (ts.size : Int) := by omega
              obtain ⟨x, hx⟩ : ∃ x, x = W[0]'(by omega) := ⟨_, rfl⟩
              have hxf : ((ts[1]'hfs).toNat : Int) = (x.toNat : Int) := by rw [hx]; exact HAT.out 0 (by omega) 1 rfl hfs
              have hhd : W.head? = some x := by rw [hx, List.head?_eq_getElem?, List.getElem?_eq_getElem]
              have wne : ¬ W = [] := fun e => w0 (by rw [e]; rfl)
              by_cases x48 : x.toNat = 48
              · have hx8 : x = 48 := UInt8.toNat_inj.1 x48
                have hxe : ((ts[1]'hfs).toNat : Int) = 48 := by rw [hxf, x48]; rfl
                by_cases w1 : 1 < W.length
                · have hbad : badW W = true := by unfold badW; rw [decide_eq_true (show W.head? = some 48 by rw [hhd, hx8]), decide_eq_true w1]; simp
                  have h1 : (1 : Int) < ((j : Int) - 1) := by have := HJ.out; omega
                  clear w0 w19 hx x48 hx8 w1 hhd hxf wne
                  go_wp2
                  go_meet
                  exact ⟨by first | (rw [hbad]; done) | (rw [hbad]; simp; omega), rfl⟩
                · have hbad : badW W = false := by unfold badW; rw [decide_eq_false wne, decide_eq_false w19, decide_eq_false w1]; simp
                  have h1 : ((j : Int) - 1) ≤ (1 : Int) := by have := HJ.out; omega
                  clear w0 w19 hx x48 hx8 w1 hhd hxf wne
                  go_wp2
                  go_meet
                  exact ⟨by first | (rw [hbad]; done) | (rw [hbad]; simp; omega), rfl⟩
              · have hbad : badW W = false := by
                  unfold badW; rw [decide_eq_false wne, decide_eq_false w19, decide_eq_false (show ¬ W.head? = some 48 from fun e => x48 (by rw [hhd] at e; rw [Option.some.inj e]; rfl))]; simp
                have hxe : ((x.toNat : Int) == 48) = false := by simp; omega
                clear w0 w19 hx x48 hhd wne
                go_wp2
                go_meet
                exact ⟨by first | (rw [hbad]; done) | (rw [hbad]; simp; omega), rfl⟩
        obtain ⟨rfl, rfl⟩ := hcut
        cases hb : badW W
        case true =>
          have hqn : q = none := by rw [HQ.out]; exact decP_bad (by rw [← HW0.out]; exact hb)
          subst hqn
          clear hb
          go_wp2
          go_ret2
          exact ⟨rfl, HBW.out⟩
        case false =>
          have HRES : Hid (q = numP true (W ++ List.replicate (sc - 0) 48)) := by
            unfold Hid; rw [HQ.out, Nat.sub_zero, decP_whole (by rw [← HW0.out]; exact hb) (by rw [← HR20.out]; exact HR2E.out), ← HW0.out]
          have HP0 : Hid (0 ≤ sc) := Nat.zero_le _
          have HXL : Hid (W.length ≤ 140737488355000) := by unfold Hid; have := HWL.out; omega
          have HXD : Hid (∀ c ∈ W, isDig c = true) := HWD
          obtain ⟨X, hX⟩ : ∃ X, X = W := ⟨_, rfl⟩
          have HV : Hid (_ : Prop) := hvw
          rw [← hX] at HRES HXL HXD HV
          rw [show W.length = X.length by rw [hX]]
          have HCTX := Lib.hid hX
          clear hb hX hvw HQ HW0 HR20 HR2E HWD HWL HAT HAT2 HSLW HJE
          go_wp2
          go_loopw [8, 10] (fun s8 s10 wx => ∃ (m : Nat) (v : Value), 0 + m ≤ sc ∧ s10 = .int .i64 ((0 + m : Nat) : Int) ∧ s8 = v ∧ wx.ownsRow w.heap.size 5 1 v (X.length + m) ((X ++ List.replicate m 48).map bV) ∧ BW w wx) (fun _ s10 _ => sc - (intOf s10).toNat)
          case atStart => exact ⟨0, _, HP0.out, rfl, rfl, by rw [List.replicate_zero, List.append_nil]; exact HV.out, HBW.out⟩
          case round =>
            obtain ⟨m, v, hm, rfl, rfl, hv, hbw⟩ := hrel
            obtain ⟨ao, sl, sp, rfl⟩ := row_form hv
            have HV2 := Lib.hid hv
            have HBW2 := Lib.hid hbw
            have hsl : sl = X.length + m := row_len hv rfl
            have HSL := Lib.hid hsl
            clear hv hbw hsl HV HBW
            obtain ⟨pm, hpm⟩ : ∃ pm, pm = 0 + m := ⟨_, rfl⟩
            rw [← hpm] at hm ⊢
            have HPM := Lib.hid hpm
            have hpm0 : 0 ≤ (pm : Int) := by omega
            clear hpm
            by_cases hlt : pm < sc
            · have hli : (pm : Int) < (sc : Int) := by omega
              have hps : (pm : Int) ≤ 9 := by omega
              have HLT := Lib.hid hlt
              have HROOM : Hid (X.length + m + 1 ≤ 140737488355328) := by unfold Hid; have := HXL.out; have := HPM.out; omega
              have HSZ : Hid (w.heap.size ≤ (wr.alloc (.cells #[.int .u8 48] 5)).heap.size) := by unfold Hid; have := HBW2.out.size; simp; omega
              have HV3 : Hid ((wr.alloc (.cells #[.int .u8 48] 5)).ownsRow w.heap.size 5 1 (.slice ao sl sp) (X.length + m) ((X ++ List.replicate m 48).map bV)) := row8_alloc HV2.out _
              clear hlt hm
              go_wp2_with (at_builtin; refine append_byte1 (c := 48) rfl _ _ rfl rfl HV3.out HSZ.out rfl (cell_of (heap_new wr _) rfl) HROOM.out ?_; intro v5 W5 ho5 hg5; have HO5 := Lib.hid ho5; have HG5 := Lib.hid hg5; clear ho5 hg5)
              go_roundw
              case rel => exact ⟨m + 1, _, by have := HLT.out; have := HPM.out; omega, by rw [HPM.out]; first | rfl | go_num | (congr 1; omega), rfl, by have := HO5.out; rw [List.append_assoc, ← List.replicate_succ'] at this; exact this, RowKit.Below.grown (HBW2.out.alloc _) HG5.out (HBW2.out.alloc _).size (fun r e => (row8_type HV3.out e).1)⟩
              case measure => simp [intOf]; have := HLT.out; omega
            · have hli : (sc : Int) ≤ (pm : Int) := by omega
              have hms : m = sc - 0 := by have := HPM.out; omega
              have hm9 : m ≤ 9 := by omega
              obtain ⟨Y, hY⟩ : ∃ Y, Y = X ++ List.replicate m 48 := ⟨_, rfl⟩
              obtain ⟨ny, hny⟩ : ∃ ny, ny = X.length + m := ⟨_, rfl⟩
              have hyl : Y.length = ny := by rw [hY, List.length_append, List.length_replicate, hny]
              have HYL := Lib.hid hyl
              have HVY : Hid (wr.ownsRow w.heap.size 5 1 (.slice ao sl sp) ny (Y.map bV)) := by unfold Hid; rw [hny, hY]; exact HV2.out
              have HYD : Hid (∀ c ∈ Y, isDig c = true) := fun c hc => by
                rw [hY, List.mem_append] at hc
                rcases hc with hc | hc
                · exact HXD.out c hc
                · rw [List.eq_of_mem_replicate hc]; rfl
              have HRY : Hid (q = numP true Y) := by unfold Hid; rw [hY, hms]; exact HRES.out
              have hsly : sl = ny := by rw [hny]; exact HSL.out
              subst hsly
              have hnyi : (sl : Int) ≤ 140737488355328 := by have := HXL.out; omega
              clear hlt hm hY hny hyl HV2 HRES HXD hms hm9
              have dpm : decide (pm < sc) = false := decide_eq_false (by omega)
              go_wp2
              go_loopw [11, 12] (fun s11 s12 wx => ∃ (i a : Nat), wx = wr ∧ i ≤ sl ∧ s12 = .int .i64 (i : Int) ∧ s11 = .int .i64 (-(a : Int)) ∧ a ≤ 9223372036854775808 ∧ readB 0 Y = readB a (Y.drop i)) (fun _ s12 _ => sl - (intOf s12).toNat)
              case atStart => exact ⟨0, 0, rfl, Nat.zero_le _, rfl, rfl, Nat.zero_le _, rfl⟩
              case round =>
                obtain ⟨i, a, rfl, hi, rfl, rfl, ha, hrd⟩ := hrel
                have hi0 : 0 ≤ (i : Int) := by omega
                have HRD := Lib.hid hrd
                have HA := Lib.hid ha
                have HNUM : Hid (numP true Y = match readB 0 Y with | none => none | some u => if true = true then some (-(u : Int)) else if u = 9223372036854775808 then none else some (u : Int)) := num_read _ Y
                clear hrd
                by_cases hlt : i < sl
                · have hli2 : (i : Int) < (sl : Int) := by omega
                  have hiy : i < Y.length := by rw [HYL.out]; exact hlt
                  obtain ⟨c, hc⟩ : ∃ c, c = Y[i] := ⟨_, rfl⟩
                  obtain ⟨gb, go, rfl⟩ : ∃ gb go : Nat, ao = some ⟨gb, go, none⟩ := row8_some HVY.out (by omega)
                  have hcell : wr.cell? ⟨gb, go + i, none⟩ = some (.int .u8 (c.toNat : Int)) := by
                    rw [hc]; exact row8_cell HVY.out hiy
                  have hcd := isDig_iff.1 (HYD.out c (by rw [hc]; exact List.getElem_mem _))
                  obtain ⟨d, hd⟩ : ∃ d, d = dval c := ⟨_, rfl⟩
                  have hcv : (c.toNat : Int) = 48 + (d : Int) := by rw [hd]; unfold dval; omega
                  rw [hcv] at hcell
                  have hd9 : (d : Int) ≤ 9 := by rw [hd]; unfold dval; omega
                  have hd0 : 0 ≤ (d : Int) := by omega
                  have hsb : IntKind.u8.wrap (48 + (d : Int) - 48) = (d : Int) := by rw [IntKind.wrap_u8]; omega
                  have hsb2 : 48 + (d : Int) - 48 = (d : Int) := by omega
                  have HST : Hid (readB 0 Y = if 9223372036854775808 < 10 * a + d then none else readB (10 * a + d) (Y.drop (i + 1))) := by
                    unfold Hid; rw [HRD.out, List.drop_eq_getElem_cons hiy, readB, ← hc, hd]
                  have HLT := Lib.hid hlt
                  have hai : (a : Int) ≤ 9223372036854775808 := by omega
                  have hgi := guard_iff (a := a) (d := d) (by omega)
                  clear hlt hi hiy hc hcd hd hcv ha
                  by_cases hg : 9223372036854775808 < 10 * a + d
                  · have hq : q = none := by rw [HRY.out, HNUM.out, HST.out, if_pos hg]
                    have hgd : decide (-(a : Int) < Int.tdiv (-9223372036854775808 + (d : Int)) 10) = true := decide_eq_true (hgi.2 hg)
                    subst hq
                    have hgp := hgi.2 hg
                    clear hgi hg
                    go_wp2
                    go_ret2
                    exact ⟨rfl, HBW2.out⟩
                  · have hgd : decide (-(a : Int) < Int.tdiv (-9223372036854775808 + (d : Int)) 10) = false := decide_eq_false (fun h => hg (hgi.1 h))
                    have hgn : ¬ (-(a : Int) < Int.tdiv (-9223372036854775808 + (d : Int)) 10) := fun h => hg (hgi.1 h)
                    have HST2 : Hid (readB 0 Y = readB (10 * a + d) (Y.drop (i + 1))) := by unfold Hid; rw [HST.out, if_neg hg]
                    have hb1 : -9223372036854775808 ≤ 10 * -(a : Int) := by omega
                    have hb2 : -9223372036854775808 ≤ 10 * -(a : Int) - (d : Int) := by omega
                    have HA2 : Hid (10 * a + d ≤ 9223372036854775808) := by unfold Hid; omega
                    have HEQ : Hid (10 * -(a : Int) - (d : Int) = -((10 * a + d : Nat) : Int)) := by unfold Hid; omega
                    clear hgi hg
                    go_wp2
                    go_roundw
                    case rel => exact ⟨i + 1, 10 * a + d, by first | rfl | trivial, HLT.out, by first | rfl | go_num, by first | (rw [← HEQ.out]; done) | (rw [← HEQ.out]; rfl) | (congr 1; have := HEQ.out; omega), HA2.out, HST2.out⟩
                    case measure => simp [intOf]; have := HLT.out; omega
                · have hli2 : (sl : Int) ≤ (i : Int) := by omega
                  have hrd0 : readB 0 Y = some a := by rw [HRD.out, List.drop_eq_nil_of_le (by have := HYL.out; omega), readB]
                  have hai : (a : Int) ≤ 9223372036854775808 := by omega
                  have hqq : q = if true = true then some (-(a : Int)) else if a = 9223372036854775808 then none else some (a : Int) := by rw [HRY.out, HNUM.out, hrd0]
                  clear hlt hi hrd0 ha
                  have hq : q = some (-(a : Int)) := by rw [hqq]; exact if_pos rfl
                  subst hq
                  clear hqq
                  go_wp2
                  go_ret2
                  exact ⟨rfl, HBW2.out⟩
      · have hjl : j < ts.size := by have h1 := HWL.out; have h2 := HJ.out; rw [hr2] at h1; simp at h1; omega
        have hjli : (j : Int) < (ts.size : Int) := by omega
        have hxi : ((ts[j]'hjl).toNat : Int) = (c.toNat : Int) := by
          have := HAT2.out 0 (by rw [hr2]; simp) j (by have := HJ.out; omega) hjl
          rw [this]; congr 1; simp [hr2]
        have HDG : Hid (∀ V, Calls Tryd.prog 36 #[.int .u8 (c.toNat : Int)] V fun e w' => e = .returned (.bool false) ∧ V = w') := fun V => by rw [← hcd]; exact refDigit_any c V
        have HR2E := Lib.hid hr2
        clear hr2 hcd
        by_cases w0 : W.length = 0
        · have hqn : q = none := by rw [HQ.out]; exact decP_bad (by rw [← HW0.out, List.eq_nil_of_length_eq_zero w0]; rfl)
          have heq : ((j : Int) == (1 : Int)) = true := by have := HJ.out; simp; omega
          subst hqn
          clear w0
          go_wp2_with (go_at_call 36; refine (HDG.out _).mono ?_; rintro e w9 ⟨rfl, rfl⟩)
          go_ret2
          exact ⟨rfl, HBW.out⟩
        go_upto_region 12 with ((go_at_call 36; refine (HDG.out _).mono ?_; rintro e w9 ⟨rfl, rfl⟩))
        go_cut [68] from 48 to 68 (fun c wx => c = .bool (badW W) ∧ wx = wr)
        case first =>
          · have heq : ((j : Int) == (1 : Int)) = false := by have := HJ.out; simp; omega
            by_cases w19 : 19 < W.length
            · have hbad : badW W = true := by unfold badW; rw [decide_eq_true w19]; simp
              have h19 : (19 : Int) < ((j : Int) - 1) := by have := HJ.out; omega
              clear w0 w19
              go_wp2
              go_meet
              exact ⟨by first | (rw [hbad]; done) | (rw [hbad]; simp; omega), rfl⟩
            · have h19 : ((j : Int) - 1) ≤ (19 : Int) := by have := HJ.out; omega
              have hfs : 1 < ts.size := by have := HWL.out; omega
              have hfsi : (1 : Int) < (ts.size : Int) := by omega
              obtain ⟨x, hx⟩ : ∃ x, x = W[0]'(by omega) := ⟨_, rfl⟩
              have hxf : ((ts[1]'hfs).toNat : Int) = (x.toNat : Int) := by rw [hx]; exact HAT.out 0 (by omega) 1 rfl hfs
              have hhd : W.head? = some x := by rw [hx, List.head?_eq_getElem?, List.getElem?_eq_getElem]
              have wne : ¬ W = [] := fun e => w0 (by rw [e]; rfl)
              by_cases x48 : x.toNat = 48
              · have hx8 : x = 48 := UInt8.toNat_inj.1 x48
                have hxe : ((ts[1]'hfs).toNat : Int) = 48 := by rw [hxf, x48]; rfl
                by_cases w1 : 1 < W.length
                · have hbad : badW W = true := by unfold badW; rw [decide_eq_true (show W.head? = some 48 by rw [hhd, hx8]), decide_eq_true w1]; simp
                  have h1 : (1 : Int) < ((j : Int) - 1) := by have := HJ.out; omega
                  clear w0 w19 hx x48 hx8 w1 hhd hxf wne
                  go_wp2
                  go_meet
                  exact ⟨by first | (rw [hbad]; done) | (rw [hbad]; simp; omega), rfl⟩
                · have hbad : badW W = false := by unfold badW; rw [decide_eq_false wne, decide_eq_false w19, decide_eq_false w1]; simp
                  have h1 : ((j : Int) - 1) ≤ (1 : Int) := by have := HJ.out; omega
                  clear w0 w19 hx x48 hx8 w1 hhd hxf wne
                  go_wp2
                  go_meet
                  exact ⟨by first | (rw [hbad]; done) | (rw [hbad]; simp; omega), rfl⟩
              · have hbad : badW W = false := by
                  unfold badW; rw [decide_eq_false wne, decide_eq_false w19, decide_eq_false (show ¬ W.head? = some 48 from fun e => x48 (by rw [hhd] at e; rw [Option.some.inj e]; rfl))]; simp
                have hxe : ((x.toNat : Int) == 48) = false := by simp; omega
                clear w0 w19 hx x48 hhd wne
                go_wp2
                go_meet
                exact ⟨by first | (rw [hbad]; done) | (rw [hbad]; simp; omega), rfl⟩
        obtain ⟨rfl, rfl⟩ := hcut
        cases hb : badW W
        case true =>
          have hqn : q = none := by rw [HQ.out]; exact decP_bad (by rw [← HW0.out]; exact hb)
          subst hqn
          clear hb
          go_wp2
          go_ret2
          exact ⟨rfl, HBW.out⟩
        case false =>
          have HB := Lib.hid hb
          clear hb
          by_cases h46 : c.toNat = 46
          case neg =>
            have hqn : q = none := by rw [HQ.out]; exact decP_other (by rw [← HW0.out]; exact HB.out) (by rw [← HR20.out]; exact HR2E.out) h46
            have hce : ((c.toNat : Int) == 46) = false := by simp; omega
            subst hqn
            clear h46
            go_wp2
            go_ret2
            exact ⟨rfl, HBW.out⟩
          case pos =>
            obtain ⟨P, hP⟩ : ∃ P, P = t.takeWhile isDig := ⟨_, rfl⟩
            obtain ⟨R3, hR3⟩ : ∃ R3, R3 = t.dropWhile isDig := ⟨_, rfl⟩
            have htt : t = P ++ R3 := by rw [hP, hR3]; exact tw_pre isDig t
            have HQ2 : Hid (q = if P = [] ∨ R3 ≠ [] ∨ sc < P.length then none else numP true (W ++ P ++ List.replicate (sc - P.length) 48)) := by
              unfold Hid; rw [HQ.out, decP_point (by rw [← HW0.out]; exact HB.out) (by rw [← HR20.out]; exact HR2E.out) h46, ← HW0.out, ← hP, ← hR3]
            have HPD : Hid (∀ c ∈ P, isDig c = true) := fun c hc => by
              rw [hP] at hc
              have := List.all_takeWhile (p := isDig) (l := t)
              rw [List.all_eq_true] at this
              exact this c hc
            have HR3 : Hid (R3 = [] ∨ ∃ c t, R3 = c :: t ∧ isDig c = false) := by unfold Hid; rw [hR3]; exact drop_head
            have HL2 : Hid (j + 1 + P.length + R3.length = ts.size ∧ (ts.size : Int) ≤ 140737488355000 ∧ W.length ≤ j) := by
              unfold Hid; have h1 := HWL.out; have h2 := HJ.out; rw [HR2E.out, List.length_cons, htt, List.length_append] at h1; exact ⟨by omega, h1.2, by omega⟩
            have HAT3 : Hid (∀ k (hk : k < P.length) j2, j2 = j + 1 + k → ∀ hj : j2 < ts.size, ((ts[j2]'hj).toNat : Int) = (P[k].toNat : Int)) := fun k hk j2 hj2 hj => by
              have h0 : R2[k + 1]? = some P[k] := by rw [HR2E.out, List.getElem?_cons_succ, htt, List.getElem?_append_left hk, List.getElem?_eq_getElem hk]
              obtain ⟨h3, h4⟩ := List.getElem?_eq_some_iff.1 h0
              rw [← h4]; exact HAT2.out (k + 1) h3 j2 (by have := HJ.out; omega) hj
            have HAT4 : Hid (∀ k (hk : k < R3.length) j2, j2 = j + 1 + P.length + k → ∀ hj : j2 < ts.size, ((ts[j2]'hj).toNat : Int) = (R3[k].toNat : Int)) := fun k hk j2 hj2 hj => by
              have h0 : R2[P.length + k + 1]? = some R3[k] := by rw [HR2E.out, List.getElem?_cons_succ, htt, List.getElem?_append_right (by omega), Nat.add_sub_cancel_left, List.getElem?_eq_getElem hk]
              obtain ⟨h3, h4⟩ := List.getElem?_eq_some_iff.1 h0
              rw [← h4]; exact HAT2.out (P.length + k + 1) h3 j2 (by have := HJ.out; omega) hj
            have hce : (c.toNat : Int) = 46 := by omega
            rw [hce] at hxi
            clear h46 hP hR3 htt hce HQ HW0 HR20 HR2E HWL HAT HAT2 HDG HR2
            go_wp2
            go_loopw [6, 8, 10] (fun s6 s8 s10 wx => ∃ (k : Nat) (v : Value), k ≤ P.length ∧ s6 = .int .i64 ((j + 1 + k : Nat) : Int) ∧ s8 = v ∧ s10 = .int .i64 (k : Int) ∧ wx.ownsRow w.heap.size 5 1 v (W.length + k) ((W ++ P.take k).map bV) ∧ BW w wx) (fun s6 _ _ _ => j + 1 + P.length - (intOf s6).toNat)
            case atStart => exact ⟨0, _, Nat.zero_le _, by first | rfl | go_num, rfl, rfl, by rw [List.take_zero, List.append_nil]; exact hvw.out, HBW.out⟩
            case round =>
              obtain ⟨k, v, hk, rfl, rfl, rfl, hv, hbw⟩ := hrel
              obtain ⟨ao, sl, sp, rfl⟩ := row_form hv
              have HV := Lib.hid hv
              have HBW2 := Lib.hid hbw
              clear hv hbw hvw HBW
              have HJ0 := HJ
              clear HJ
              obtain ⟨i, hj⟩ : ∃ i, i = j + 1 + k := ⟨_, rfl⟩
              rw [← hj]
              have HI := Lib.hid hj
              have hi0 : 0 ≤ (i : Int) := by omega
              have his : i ≤ ts.size := by have := HL2.out; omega
              have hisi : (i : Int) ≤ (ts.size : Int) := by omega
              have hk0 : 0 ≤ (k : Int) := by omega
              have hk9 : (k : Int) ≤ 140737488355000 := by have := HL2.out; omega
              by_cases hlt : k < P.length
              · have hjl2 : i < ts.size := by have := HL2.out; omega
                have hjli2 : (i : Int) < (ts.size : Int) := by omega
                obtain ⟨d, hd⟩ : ∃ d, d = P[k] := ⟨_, rfl⟩
                have hxi2 : ((ts[i]'hjl2).toNat : Int) = (d.toNat : Int) := by rw [hd]; exact HAT3.out k hlt i hj hjl2
                have hcd : isDig d = true := by rw [hd]; exact HPD.out _ (List.getElem_mem _)
                have HDG : Hid (∀ V, Calls Tryd.prog 36 #[.int .u8 (d.toNat : Int)] V fun e w' => e = .returned (.bool true) ∧ V = w') := fun V => by rw [← hcd]; exact refDigit_any d V
                have HNX : Hid (W ++ P.take (k + 1) = (W ++ P.take k) ++ [d]) := by unfold Hid; rw [List.append_assoc, List.take_add_one, List.getElem?_eq_getElem hlt, Option.toList_some, hd]
                have HLT := Lib.hid hlt
                have HROOM : Hid (W.length + k + 1 ≤ 140737488355328) := by unfold Hid; have := HL2.out; omega
                have HSZ : Hid (w.heap.size ≤ (wr.alloc (.cells #[.int .u8 (d.toNat : Int)] 5)).heap.size) := by unfold Hid; have := HBW2.out.size; simp; omega
                have HV3 : Hid ((wr.alloc (.cells #[.int .u8 (d.toNat : Int)] 5)).ownsRow w.heap.size 5 1 (.slice ao sl sp) (W.length + k) ((W ++ P.take k).map bV)) := row8_alloc HV.out _
                have HCE : Hid ((wr.alloc (.cells #[.int .u8 (d.toNat : Int)] 5)).cell? ⟨wr.heap.size, 0, none⟩ = some (bV d)) := cell_of (heap_new wr _) rfl
                clear hlt hk hd hcd hj
                go_wp2_with (first | (go_at_call 36; refine (HDG.out _).mono ?_; rintro e w9 ⟨rfl, rfl⟩) | (at_builtin; refine append_byte1 (c := d) (l0 := W ++ P.take k) rfl _ _ rfl rfl HV3.out HSZ.out rfl HCE.out HROOM.out ?_; intro v5 W5 ho5 hg5; have HO5 := Lib.hid ho5; have HG5 := Lib.hid hg5; clear ho5 hg5))
                go_roundw
                case rel => exact ⟨k + 1, _, HLT.out, by rw [HI.out]; first | rfl | go_num | (congr 1; omega), rfl, by first | rfl | go_num | (congr 1; omega), by rw [HNX.out]; exact HO5.out, RowKit.Below.grown (HBW2.out.alloc _) HG5.out (HBW2.out.alloc _).size (fun r e => (row8_type HV3.out e).1)⟩
                case measure => simp [intOf]; have := HLT.out; have := HI.out; omega
              · obtain ⟨p, hp⟩ : ∃ p, p = P.length := ⟨_, rfl⟩
                obtain rfl : k = p := by omega
                have hvw2 : Hid (wr.ownsRow w.heap.size 5 1 (.slice ao sl sp) (W.length + k) ((W ++ P).map bV)) := by
                  have := HV.out
                  rwa [hp, List.take_length, ← hp] at this
                have HPL := Lib.hid hp
                clear HV hlt hk hj hp
                rcases HR3.out with hr3 | ⟨c2, t2, hr3, hcd2⟩
                · have hie : i = ts.size := by have h1 := HL2.out; have h2 := HI.out; have h3 := HPL.out; rw [hr3] at h1; simp at h1; omega
                  have hiei : (ts.size : Int) ≤ (i : Int) := by omega
                  have HR3E := Lib.hid hr3
                  clear hr3 hie
                  by_cases p0 : k = 0
                  · have hqn : q = none := by rw [HQ2.out, if_pos (.inl (List.eq_nil_of_length_eq_zero (by rw [← HPL.out]; exact p0)))]
                    subst hqn
                    subst p0
                    go_wp2
                    go_ret2
                    exact ⟨rfl, HBW2.out⟩
                  · have hpz : ((k : Int) == 0) = false := by simp; omega
                    by_cases psc : sc < k
                    · have hqn : q = none := by rw [HQ2.out, if_pos (.inr (.inr (by rw [← HPL.out]; exact psc)))]
                      have hpsi : (sc : Int) < (k : Int) := by omega
                      subst hqn
                      clear p0 psc
                      go_wp2
                      go_ret2
                      exact ⟨rfl, HBW2.out⟩
                    · have hpsi : (k : Int) ≤ (sc : Int) := by omega
                      have hpsd : decide ((sc : Int) < (k : Int)) = false := decide_eq_false (by omega)
                      have hpsn : decide (sc < k) = false := decide_eq_false psc
                      obtain ⟨X, hX⟩ : ∃ X, X = W ++ P := ⟨_, rfl⟩
                      have hxl : X.length = W.length + k := by rw [hX, List.length_append, HPL.out]
                      have HRES : Hid (q = numP true (X ++ List.replicate (sc - k) 48)) := by
                        unfold Hid; rw [HQ2.out, if_neg, hX, HPL.out]
                        rintro (h | h | h)
                        · exact p0 (by rw [HPL.out, h]; rfl)
                        · exact h HR3E.out
                        · exact psc (by rw [HPL.out]; exact h)
                      have HP0 : Hid (k ≤ sc) := by unfold Hid; omega
                      have HXL : Hid (X.length ≤ 140737488355000) := by unfold Hid; have := HL2.out; rw [hxl]; have := HPL.out; omega
                      have HXD : Hid (∀ c ∈ X, isDig c = true) := fun c hc => by
                        rw [hX, List.mem_append] at hc
                        rcases hc with hc | hc
                        · exact HWD.out c hc
                        · exact HPD.out c hc
                      have HV : Hid (wr.ownsRow w.heap.size 5 1 (.slice ao sl sp) X.length (X.map bV)) := by unfold Hid; rw [hxl, hX]; exact hvw2.out
                      have HBW := HBW2
                      clear p0 psc hX hxl hvw2 HBW2 HQ2 HWD HPD HR3 HL2 HAT3 HAT4 HPL HR3E HI HJ0 HSLW
                      go_wp2
                      clear hpz hpsi hpsd hpsn
                      go_loopw [8, 10] (fun s8 s10 wx => ∃ (m : Nat) (v : Value), k + m ≤ sc ∧ s10 = .int .i64 ((k + m : Nat) : Int) ∧ s8 = v ∧ wx.ownsRow w.heap.size 5 1 v (X.length + m) ((X ++ List.replicate m 48).map bV) ∧ BW w wx) (fun _ s10 _ => sc - (intOf s10).toNat)
                      case atStart => exact ⟨0, _, HP0.out, rfl, rfl, by rw [List.replicate_zero, List.append_nil]; exact HV.out, HBW.out⟩
                      case round =>
                        obtain ⟨m, v, hm, rfl, rfl, hv, hbw⟩ := hrel
                        obtain ⟨ao, sl, sp, rfl⟩ := row_form hv
                        have HV2 := Lib.hid hv
                        have HBW2 := Lib.hid hbw
                        have hsl : sl = X.length + m := row_len hv rfl
                        have HSL := Lib.hid hsl
                        clear hv hbw hsl HV HBW
                        obtain ⟨pm, hpm⟩ : ∃ pm, pm = k + m := ⟨_, rfl⟩
                        rw [← hpm] at hm ⊢
                        have HPM := Lib.hid hpm
                        have hpm0 : 0 ≤ (pm : Int) := by omega
                        clear hpm
                        by_cases hlt : pm < sc
                        · have hli : (pm : Int) < (sc : Int) := by omega
                          have hps : (pm : Int) ≤ 9 := by omega
                          have HLT := Lib.hid hlt
                          have HROOM : Hid (X.length + m + 1 ≤ 140737488355328) := by unfold Hid; have := HXL.out; have := HPM.out; omega
                          have HSZ : Hid (w.heap.size ≤ (wr.alloc (.cells #[.int .u8 48] 5)).heap.size) := by unfold Hid; have := HBW2.out.size; simp; omega
                          have HV3 : Hid ((wr.alloc (.cells #[.int .u8 48] 5)).ownsRow w.heap.size 5 1 (.slice ao sl sp) (X.length + m) ((X ++ List.replicate m 48).map bV)) := row8_alloc HV2.out _
                          clear hlt hm
                          go_wp2_with (at_builtin; refine append_byte1 (c := 48) rfl _ _ rfl rfl HV3.out HSZ.out rfl (cell_of (heap_new wr _) rfl) HROOM.out ?_; intro v5 W5 ho5 hg5; have HO5 := Lib.hid ho5; have HG5 := Lib.hid hg5; clear ho5 hg5)
                          go_roundw
                          case rel => exact ⟨m + 1, _, by have := HLT.out; have := HPM.out; omega, by rw [HPM.out]; first | rfl | go_num | (congr 1; omega), rfl, by have := HO5.out; rw [List.append_assoc, ← List.replicate_succ'] at this; exact this, RowKit.Below.grown (HBW2.out.alloc _) HG5.out (HBW2.out.alloc _).size (fun r e => (row8_type HV3.out e).1)⟩
                          case measure => simp [intOf]; have := HLT.out; omega
                        · have hli : (sc : Int) ≤ (pm : Int) := by omega
                          have hms : m = sc - k := by have := HPM.out; omega
                          have hm9 : m ≤ 9 := by omega
                          obtain ⟨Y, hY⟩ : ∃ Y, Y = X ++ List.replicate m 48 := ⟨_, rfl⟩
                          obtain ⟨ny, hny⟩ : ∃ ny, ny = X.length + m := ⟨_, rfl⟩
                          have hyl : Y.length = ny := by rw [hY, List.length_append, List.length_replicate, hny]
                          have HYL := Lib.hid hyl
                          have HVY : Hid (wr.ownsRow w.heap.size 5 1 (.slice ao sl sp) ny (Y.map bV)) := by unfold Hid; rw [hny, hY]; exact HV2.out
                          have HYD : Hid (∀ c ∈ Y, isDig c = true) := fun c hc => by
                            rw [hY, List.mem_append] at hc
                            rcases hc with hc | hc
                            · exact HXD.out c hc
                            · rw [List.eq_of_mem_replicate hc]; rfl
                          have HRY : Hid (q = numP true Y) := by unfold Hid; rw [hY, hms]; exact HRES.out
                          have hsly : sl = ny := by rw [hny]; exact HSL.out
                          subst hsly
                          have hnyi : (sl : Int) ≤ 140737488355328 := by have := HXL.out; omega
                          clear hlt hm hY hny hyl HV2 HRES HXD hms hm9
                          have dpm : decide (pm < sc) = false := decide_eq_false (by omega)
                          go_wp2
                          go_loopw [11, 12] (fun s11 s12 wx => ∃ (i a : Nat), wx = wr ∧ i ≤ sl ∧ s12 = .int .i64 (i : Int) ∧ s11 = .int .i64 (-(a : Int)) ∧ a ≤ 9223372036854775808 ∧ readB 0 Y = readB a (Y.drop i)) (fun _ s12 _ => sl - (intOf s12).toNat)
                          case atStart => exact ⟨0, 0, rfl, Nat.zero_le _, rfl, rfl, Nat.zero_le _, rfl⟩
                          case round =>
                            obtain ⟨i, a, rfl, hi, rfl, rfl, ha, hrd⟩ := hrel
                            have hi0 : 0 ≤ (i : Int) := by omega
                            have HRD := Lib.hid hrd
                            have HA := Lib.hid ha
                            have HNUM : Hid (numP true Y = match readB 0 Y with | none => none | some u => if true = true then some (-(u : Int)) else if u = 9223372036854775808 then none else some (u : Int)) := num_read _ Y
                            clear hrd
                            by_cases hlt : i < sl
                            · have hli2 : (i : Int) < (sl : Int) := by omega
                              have hiy : i < Y.length := by rw [HYL.out]; exact hlt
                              obtain ⟨c, hc⟩ : ∃ c, c = Y[i] := ⟨_, rfl⟩
                              obtain ⟨gb, go, rfl⟩ : ∃ gb go : Nat, ao = some ⟨gb, go, none⟩ := row8_some HVY.out (by omega)
                              have hcell : wr.cell? ⟨gb, go + i, none⟩ = some (.int .u8 (c.toNat : Int)) := by
                                rw [hc]; exact row8_cell HVY.out hiy
                              have hcd := isDig_iff.1 (HYD.out c (by rw [hc]; exact List.getElem_mem _))
                              obtain ⟨d, hd⟩ : ∃ d, d = dval c := ⟨_, rfl⟩
                              have hcv : (c.toNat : Int) = 48 + (d : Int) := by rw [hd]; unfold dval; omega
                              rw [hcv] at hcell
                              have hd9 : (d : Int) ≤ 9 := by rw [hd]; unfold dval; omega
                              have hd0 : 0 ≤ (d : Int) := by omega
                              have hsb : IntKind.u8.wrap (48 + (d : Int) - 48) = (d : Int) := by rw [IntKind.wrap_u8]; omega
                              have hsb2 : 48 + (d : Int) - 48 = (d : Int) := by omega
                              have HST : Hid (readB 0 Y = if 9223372036854775808 < 10 * a + d then none else readB (10 * a + d) (Y.drop (i + 1))) := by
                                unfold Hid; rw [HRD.out, List.drop_eq_getElem_cons hiy, readB, ← hc, hd]
                              have HLT := Lib.hid hlt
                              have hai : (a : Int) ≤ 9223372036854775808 := by omega
                              have hgi := guard_iff (a := a) (d := d) (by omega)
                              clear hlt hi hiy hc hcd hd hcv ha
                              by_cases hg : 9223372036854775808 < 10 * a + d
                              · have hq : q = none := by rw [HRY.out, HNUM.out, HST.out, if_pos hg]
                                have hgd : decide (-(a : Int) < Int.tdiv (-9223372036854775808 + (d : Int)) 10) = true := decide_eq_true (hgi.2 hg)
                                subst hq
                                have hgp := hgi.2 hg
                                clear hgi hg
                                go_wp2
                                go_ret2
                                exact ⟨rfl, HBW2.out⟩
                              · have hgd : decide (-(a : Int) < Int.tdiv (-9223372036854775808 + (d : Int)) 10) = false := decide_eq_false (fun h => hg (hgi.1 h))
                                have hgn : ¬ (-(a : Int) < Int.tdiv (-9223372036854775808 + (d : Int)) 10) := fun h => hg (hgi.1 h)
                                have HST2 : Hid (readB 0 Y = readB (10 * a + d) (Y.drop (i + 1))) := by unfold Hid; rw [HST.out, if_neg hg]
                                have hb1 : -9223372036854775808 ≤ 10 * -(a : Int) := by omega
                                have hb2 : -9223372036854775808 ≤ 10 * -(a : Int) - (d : Int) := by omega
                                have HA2 : Hid (10 * a + d ≤ 9223372036854775808) := by unfold Hid; omega
                                have HEQ : Hid (10 * -(a : Int) - (d : Int) = -((10 * a + d : Nat) : Int)) := by unfold Hid; omega
                                clear hgi hg
                                go_wp2
                                go_roundw
                                case rel => exact ⟨i + 1, 10 * a + d, by first | rfl | trivial, HLT.out, by first | rfl | go_num, by first | (rw [← HEQ.out]; done) | (rw [← HEQ.out]; rfl) | (congr 1; have := HEQ.out; omega), HA2.out, HST2.out⟩
                                case measure => simp [intOf]; have := HLT.out; omega
                            · have hli2 : (sl : Int) ≤ (i : Int) := by omega
                              have hrd0 : readB 0 Y = some a := by rw [HRD.out, List.drop_eq_nil_of_le (by have := HYL.out; omega), readB]
                              have hai : (a : Int) ≤ 9223372036854775808 := by omega
                              have hqq : q = if true = true then some (-(a : Int)) else if a = 9223372036854775808 then none else some (a : Int) := by rw [HRY.out, HNUM.out, hrd0]
                              clear hlt hi hrd0 ha
                              have hq : q = some (-(a : Int)) := by rw [hqq]; exact if_pos rfl
                              subst hq
                              clear hqq
                              go_wp2
                              go_ret2
                              exact ⟨rfl, HBW2.out⟩
                · have hjl2 : i < ts.size := by have h1 := HL2.out; have h2 := HI.out; have h3 := HPL.out; rw [hr3] at h1; simp at h1; omega
                  have hjli2 : (i : Int) < (ts.size : Int) := by omega
                  have hxi2 : ((ts[i]'hjl2).toNat : Int) = (c2.toNat : Int) := by
                    have := HAT4.out 0 (by rw [hr3]; simp) i (by have := HI.out; have := HPL.out; omega) hjl2
                    rw [this]; congr 1; simp [hr3]
                  have HDG : Hid (∀ V, Calls Tryd.prog 36 #[.int .u8 (c2.toNat : Int)] V fun e w' => e = .returned (.bool false) ∧ V = w') := fun V => by rw [← hcd2]; exact refDigit_any c2 V
                  have hqn : q = none := by rw [HQ2.out, if_pos (.inr (.inl (by rw [hr3]; exact List.cons_ne_nil _ _)))]
                  subst hqn
                  clear hr3 hcd2
                  by_cases p0 : k = 0
                  · subst p0
                    go_wp2_with (go_at_call 36; refine (HDG.out _).mono ?_; rintro e w9 ⟨rfl, rfl⟩)
                    go_ret2
                    exact ⟨rfl, HBW2.out⟩
                  · have hpz : ((k : Int) == 0) = false := by simp; omega
                    clear p0
                    go_wp2_with (go_at_call 36; refine (HDG.out _).mono ?_; rintro e w9 ⟨rfl, rfl⟩)
                    go_ret2
                    exact ⟨rfl, HBW2.out⟩
set_option maxRecDepth 100000 in
set_option maxHeartbeats 4000000 in
theorem refDec_plain (s : List UInt8) (sc : Nat) (hsc : sc ≤ 9) (hl : (s.length : Int) ≤ 140737488355000) (hb : (s.head? == some 45) = false) (w : World) : Calls Tryd.prog 10 #[textV s, .int .i64 (sc : Int)] w (DecPost w (decPR (decP false (s.drop 0) sc))) := by
  obtain ⟨r, hr⟩ : ∃ r, r = s.drop 0 := ⟨_, rfl⟩
  obtain ⟨W, hW⟩ : ∃ W, W = r.takeWhile isDig := ⟨_, rfl⟩
  obtain ⟨R2, hR2⟩ : ∃ R2, R2 = r.dropWhile isDig := ⟨_, rfl⟩
  obtain ⟨q, hq⟩ : ∃ q, q = decP false r sc := ⟨_, rfl⟩
  rw [← hr, ← hq]
  have hrr : r = W ++ R2 := by rw [hW, hR2]; exact tw_pre isDig r
  have HWD : Hid (∀ c ∈ W, isDig c = true) := fun c hc => by
    rw [hW] at hc
    have := List.all_takeWhile (p := isDig) (l := r)
    rw [List.all_eq_true] at this
    exact this c hc
  have HR2 : Hid (R2 = [] ∨ ∃ c t, R2 = c :: t ∧ isDig c = false) := by unfold Hid; rw [hR2]; exact drop_head
  obtain ⟨ts, hts⟩ : ∃ t, t = ByteArray.mk s.toArray := ⟨_, rfl⟩
  have vt : textV s = .string ts := by rw [hts]; rfl
  have hst : ts.size = s.length := by rw [hts]; exact text_size s
  have hsi : (ts.size : Int) ≤ 140737488355000 := by omega
  have hne : 0 ≤ s.length := by cases s with
    | nil => exact Nat.zero_le _
    | cons c t => simp
  have hlr : s.length = 0 + r.length := by rw [hr, List.length_drop]; omega
  have HWL : Hid (0 + W.length + R2.length = ts.size ∧ (ts.size : Int) ≤ 140737488355000) := by
    unfold Hid; rw [hst, hlr, hrr, List.length_append]; exact ⟨by omega, by rw [← hst] at hl; rw [hst] at hl; rw [hlr, hrr, List.length_append] at hl; omega⟩
  have HAT : Hid (∀ k (hk : k < W.length) j, j = 0 + k → ∀ hj : j < ts.size, ((ts[j]'hj).toNat : Int) = (W[k].toNat : Int)) := fun k hk j hjk hj => by
    subst hts
    have h1 : (ByteArray.mk s.toArray)[j]'hj = s[j]'(by rw [← hst]; exact hj) := rfl
    have h2 : s[j]'(by rw [← hst]; exact hj) = W[k] := by
      have h3 : r[k]? = some W[k] := by rw [hrr, List.getElem?_append_left hk, List.getElem?_eq_getElem hk]
      rw [hr, List.getElem?_drop, ← hjk, List.getElem?_eq_getElem (by rw [← hst]; exact hj)] at h3
      exact Option.some.inj h3
    rw [h1, h2]
  have HAT2 : Hid (∀ k (hk : k < R2.length) j, j = 0 + W.length + k → ∀ hj : j < ts.size, ((ts[j]'hj).toNat : Int) = (R2[k].toNat : Int)) := fun k hk j hjk hj => by
    subst hts
    have h1 : (ByteArray.mk s.toArray)[j]'hj = s[j]'(by rw [← hst]; exact hj) := rfl
    have h2 : s[j]'(by rw [← hst]; exact hj) = R2[k] := by
      have h3 : r[W.length + k]? = some R2[k] := by rw [hrr, List.getElem?_append_right (by omega), Nat.add_sub_cancel_left, List.getElem?_eq_getElem hk]
      rw [hr, List.getElem?_drop, show 0 + (W.length + k) = j by omega, List.getElem?_eq_getElem (by rw [← hst]; exact hj)] at h3
      exact Option.some.inj h3
    rw [h1, h2]
  have HQ := Lib.hid hq
  have HW0 := Lib.hid hW
  have HR20 := Lib.hid hR2
  have HHD : Hid (∀ h : 0 < ts.size, (((ts[0]'h).toNat : Int) == 45) = false) := by
    unfold Hid
    intro h
    cases s with
    | nil => rw [hst] at h; simp at h
    | cons c t =>
      have hc : c ≠ 45 := by
        intro e; subst e; simp at hb
      subst hts
      show ((c.toNat : Int) == 45) = false
      have : c.toNat ≠ 45 := fun e => hc (UInt8.toNat_inj.1 e)
      simp; omega
  have hs0 : 0 ≤ (sc : Int) := by omega
  have hs9 : (sc : Int) ≤ 9 := by omega
  have ds1 : decide ((sc : Int) < 0) = false := decide_eq_false (by omega)
  have ds2 : decide (9 < (sc : Int)) = false := decide_eq_false (by omega)
  have ds3 : decide ((sc : Int) ≤ 9) = true := decide_eq_true (by omega)
  rw [vt]
  clear hr hW hR2 hq hrr hts vt hst hne hlr hb hl hsc
  by_cases hp0 : 0 < ts.size
  · have hx0 := HHD.out hp0
    have hpi : (0 : Int) < (ts.size : Int) := by omega
    clear HHD
    go_enter Tryd.func10, Tryd.ntmps10
    go_wp2
    go_loopw [6, 8] (fun s6 s8 wx => ∃ (k : Nat) (v : Value), k ≤ W.length ∧ s6 = .int .i64 ((0 + k : Nat) : Int) ∧ s8 = v ∧ wx.ownsRow w.heap.size 5 1 v k ((W.take k).map bV) ∧ BW w wx) (fun s6 _ _ => 0 + W.length - (intOf s6).toNat)
    case atStart => exact ⟨0, _, Nat.zero_le _, rfl, rfl, World.ownsRow_nil _ _ _ _, BW.refl _⟩
    case round =>
      obtain ⟨k, v, hk, rfl, rfl, hv, hbw⟩ := hrel
      obtain ⟨ao, sl, sp, rfl⟩ := row_form hv
      have HV := Lib.hid hv
      have HBW := Lib.hid hbw
      clear hv hbw
      obtain ⟨j, hj⟩ : ∃ j, j = 0 + k := ⟨_, rfl⟩
      rw [← hj]
      have HJ := Lib.hid hj
      have hj0 : 0 ≤ (j : Int) := by omega
      have hjs : j ≤ ts.size := by have := HWL.out; omega
      have hjsi : (j : Int) ≤ (ts.size : Int) := by omega
      by_cases hlt : k < W.length
      · have hjl : j < ts.size := by have := HWL.out; omega
        have hjli : (j : Int) < (ts.size : Int) := by omega
        obtain ⟨c, hc⟩ : ∃ c, c = W[k] := ⟨_, rfl⟩
        have hxi : ((ts[j]'hjl).toNat : Int) = (c.toNat : Int) := by rw [hc]; exact HAT.out k hlt j hj hjl
        have hcd : isDig c = true := by rw [hc]; exact HWD.out _ (List.getElem_mem _)
        have HDG : Hid (∀ V, Calls Tryd.prog 36 #[.int .u8 (c.toNat : Int)] V fun e w' => e = .returned (.bool true) ∧ V = w') := fun V => by rw [← hcd]; exact refDigit_any c V
        have HNX : Hid (W.take (k + 1) = W.take k ++ [c]) := by unfold Hid; rw [List.take_add_one, List.getElem?_eq_getElem hlt, Option.toList_some, hc]
        have HLT := Lib.hid hlt
        have HROOM : Hid (k + 1 ≤ 140737488355328) := by unfold Hid; have := HWL.out; omega
        have HSZ : Hid (w.heap.size ≤ (wr.alloc (.cells #[.int .u8 (c.toNat : Int)] 5)).heap.size) := by unfold Hid; have := HBW.out.size; simp; omega
        have HV3 : Hid ((wr.alloc (.cells #[.int .u8 (c.toNat : Int)] 5)).ownsRow w.heap.size 5 1 (.slice ao sl sp) k ((W.take k).map bV)) := row8_alloc HV.out _
        have HCE : Hid ((wr.alloc (.cells #[.int .u8 (c.toNat : Int)] 5)).cell? ⟨wr.heap.size, 0, none⟩ = some (bV c)) := cell_of (heap_new wr _) rfl
        clear hlt hk hc hcd hj
        go_wp2_with (first | (go_at_call 36; refine (HDG.out _).mono ?_; rintro e w9 ⟨rfl, rfl⟩) | (at_builtin; refine append_byte1 (c := c) (l0 := W.take k) rfl _ _ rfl rfl HV3.out HSZ.out rfl HCE.out HROOM.out ?_; intro v5 W5 ho5 hg5; have HO5 := Lib.hid ho5; have HG5 := Lib.hid hg5; clear ho5 hg5))
        go_roundw
        case rel => exact ⟨k + 1, _, HLT.out, by rw [HJ.out]; first | rfl | go_num | (congr 1; omega), rfl, by rw [HNX.out]; exact HO5.out, RowKit.Below.grown (HBW.out.alloc _) HG5.out (HBW.out.alloc _).size (fun r e => (row8_type HV3.out e).1)⟩
        case measure => simp [intOf]; have := HLT.out; have := HJ.out; omega
      · obtain rfl : k = W.length := by omega
        have hvw : Hid (wr.ownsRow w.heap.size 5 1 (.slice ao sl sp) W.length (W.map bV)) := by
          have := HV.out
          rwa [List.take_length] at this
        have hsl : sl = W.length := row_len HV.out rfl
        clear HV hlt hk hj
        have HSLW := Lib.hid hsl
        obtain rfl : sl = W.length := hsl
        rcases HR2.out with hr2 | ⟨c, t, hr2, hcd⟩
        · have hje : j = ts.size := by have h1 := HWL.out; have h2 := HJ.out; rw [hr2] at h1; simp at h1; omega
          have hjei : (ts.size : Int) ≤ (j : Int) := by omega
          have HR2E := Lib.hid hr2
          have HJE := Lib.hid hje
          clear hr2 hje
          by_cases w0 : W.length = 0
          · have hqn : q = none := by rw [HQ.out]; exact decP_bad (by rw [← HW0.out, List.eq_nil_of_length_eq_zero w0]; rfl)
            have heq : ((j : Int) == (0 : Int)) = true := by have := HJ.out; simp; omega
            subst hqn
            clear w0
            go_wp2
            go_ret2
            exact ⟨rfl, HBW.out⟩
          go_upto_region 12 with (fail)
          go_cut [68] from 14 to 68 (fun c wx => c = .bool (badW W) ∧ wx = wr)
          case first =>
            · have heq : ((j : Int) == (0 : Int)) = false := by have := HJ.out; simp; omega
              by_cases w19 : 19 < W.length
              · have hbad : badW W = true := by unfold badW; rw [decide_eq_true w19]; simp
                have h19 : (19 : Int) < (j : Int) := by have := HJ.out; omega
                clear w0 w19
                go_wp2
                go_meet
                exact ⟨by first | (rw [hbad]; done) | (rw [hbad]; simp; omega), rfl⟩
              · have h19 : (j : Int) ≤ (19 : Int) := by have := HJ.out; omega
                have hfs : 0 < ts.size := by have := HWL.out; omega
                have hfsi : (0 : Int) < (ts.size : Int) := by omega
                obtain ⟨x, hx⟩ : ∃ x, x = W[0]'(by omega) := ⟨_, rfl⟩
                have hxf : ((ts[0]'hfs).toNat : Int) = (x.toNat : Int) := by rw [hx]; exact HAT.out 0 (by omega) 0 rfl hfs
                have hhd : W.head? = some x := by rw [hx, List.head?_eq_getElem?, List.getElem?_eq_getElem]
                have wne : ¬ W = [] := fun e => w0 (by rw [e]; rfl)
                by_cases x48 : x.toNat = 48
                · have hx8 : x = 48 := UInt8.toNat_inj.1 x48
                  have hxe : ((ts[0]'hfs).toNat : Int) = 48 := by rw [hxf, x48]; rfl
                  by_cases w1 : 1 < W.length
                  · have hbad : badW W = true := by unfold badW; rw [decide_eq_true (show W.head? = some 48 by rw [hhd, hx8]), decide_eq_true w1]; simp
                    have h1 : (1 : Int) < (j : Int) := by have := HJ.out; omega
                    clear w0 w19 hx x48 hx8 w1 hhd hxf wne
                    go_wp2
                    go_meet
                    exact ⟨by first | (rw [hbad]; done) | (rw [hbad]; simp; omega), rfl⟩
                  · have hbad : badW W = false := by unfold badW; rw [decide_eq_false wne, decide_eq_false w19, decide_eq_false w1]; simp
                    have h1 : (j : Int) ≤ (1 : Int) := by have := HJ.out; omega
                    clear w0 w19 hx x48 hx8 w1 hhd hxf wne
                    go_wp2
                    go_meet
                    exact ⟨by first | (rw [hbad]; done) | (rw [hbad]; simp; omega), rfl⟩
                · have hbad : badW W = false := by
                    unfold badW; rw [decide_eq_false wne, decide_eq_false w19, decide_eq_false (show ¬ W.head? = some 48 from fun e => x48 (by rw [hhd] at e; rw [Option.some.inj e]; rfl))]; simp
                  have hxe : ((x.toNat : Int) == 48) = false := by simp; omega
                  clear w0 w19 hx x48 hhd wne
                  go_wp2
                  go_meet
                  exact ⟨by first | (rw [hbad]; done) | (rw [hbad]; simp; omega), rfl⟩
          obtain ⟨rfl, rfl⟩ := hcut
          cases hb : badW W
          case true =>
            have hqn : q = none := by rw [HQ.out]; exact decP_bad (by rw [← HW0.out]; exact hb)
            subst hqn
            clear hb
            go_wp2
            go_ret2
            exact ⟨rfl, HBW.out⟩
          case false =>
            have HRES : Hid (q = numP false (W ++ List.replicate (sc - 0) 48)) := by
              unfold Hid; rw [HQ.out, Nat.sub_zero, decP_whole (by rw [← HW0.out]; exact hb) (by rw [← HR20.out]; exact HR2E.out), ← HW0.out]
            have HP0 : Hid (0 ≤ sc) := Nat.zero_le _
            have HXL : Hid (W.length ≤ 140737488355000) := by unfold Hid; have := HWL.out; omega
            have HXD : Hid (∀ c ∈ W, isDig c = true) := HWD
            obtain ⟨X, hX⟩ : ∃ X, X = W := ⟨_, rfl⟩
            have HV : Hid (_ : Prop) := hvw
            rw [← hX] at HRES HXL HXD HV
            rw [show W.length = X.length by rw [hX]]
            have HCTX := Lib.hid hX
            clear hb hX hvw HQ HW0 HR20 HR2E HWD HWL HAT HAT2 HSLW HJE
            go_wp2
            go_loopw [8, 10] (fun s8 s10 wx => ∃ (m : Nat) (v : Value), 0 + m ≤ sc ∧ s10 = .int .i64 ((0 + m : Nat) : Int) ∧ s8 = v ∧ wx.ownsRow w.heap.size 5 1 v (X.length + m) ((X ++ List.replicate m 48).map bV) ∧ BW w wx) (fun _ s10 _ => sc - (intOf s10).toNat)
            case atStart => exact ⟨0, _, HP0.out, rfl, rfl, by rw [List.replicate_zero, List.append_nil]; exact HV.out, HBW.out⟩
            case round =>
              obtain ⟨m, v, hm, rfl, rfl, hv, hbw⟩ := hrel
              obtain ⟨ao, sl, sp, rfl⟩ := row_form hv
              have HV2 := Lib.hid hv
              have HBW2 := Lib.hid hbw
              have hsl : sl = X.length + m := row_len hv rfl
              have HSL := Lib.hid hsl
              clear hv hbw hsl HV HBW
              obtain ⟨pm, hpm⟩ : ∃ pm, pm = 0 + m := ⟨_, rfl⟩
              rw [← hpm] at hm ⊢
              have HPM := Lib.hid hpm
              have hpm0 : 0 ≤ (pm : Int) := by omega
              clear hpm
              by_cases hlt : pm < sc
              · have hli : (pm : Int) < (sc : Int) := by omega
                have hps : (pm : Int) ≤ 9 := by omega
                have HLT := Lib.hid hlt
                have HROOM : Hid (X.length + m + 1 ≤ 140737488355328) := by unfold Hid; have := HXL.out; have := HPM.out; omega
                have HSZ : Hid (w.heap.size ≤ (wr.alloc (.cells #[.int .u8 48] 5)).heap.size) := by unfold Hid; have := HBW2.out.size; simp; omega
                have HV3 : Hid ((wr.alloc (.cells #[.int .u8 48] 5)).ownsRow w.heap.size 5 1 (.slice ao sl sp) (X.length + m) ((X ++ List.replicate m 48).map bV)) := row8_alloc HV2.out _
                clear hlt hm
                go_wp2_with (at_builtin; refine append_byte1 (c := 48) rfl _ _ rfl rfl HV3.out HSZ.out rfl (cell_of (heap_new wr _) rfl) HROOM.out ?_; intro v5 W5 ho5 hg5; have HO5 := Lib.hid ho5; have HG5 := Lib.hid hg5; clear ho5 hg5)
                go_roundw
                case rel => exact ⟨m + 1, _, by have := HLT.out; have := HPM.out; omega, by rw [HPM.out]; first | rfl | go_num | (congr 1; omega), rfl, by have := HO5.out; rw [List.append_assoc, ← List.replicate_succ'] at this; exact this, RowKit.Below.grown (HBW2.out.alloc _) HG5.out (HBW2.out.alloc _).size (fun r e => (row8_type HV3.out e).1)⟩
                case measure => simp [intOf]; have := HLT.out; omega
              · have hli : (sc : Int) ≤ (pm : Int) := by omega
                have hms : m = sc - 0 := by have := HPM.out; omega
                have hm9 : m ≤ 9 := by omega
                obtain ⟨Y, hY⟩ : ∃ Y, Y = X ++ List.replicate m 48 := ⟨_, rfl⟩
                obtain ⟨ny, hny⟩ : ∃ ny, ny = X.length + m := ⟨_, rfl⟩
                have hyl : Y.length = ny := by rw [hY, List.length_append, List.length_replicate, hny]
                have HYL := Lib.hid hyl
                have HVY : Hid (wr.ownsRow w.heap.size 5 1 (.slice ao sl sp) ny (Y.map bV)) := by unfold Hid; rw [hny, hY]; exact HV2.out
                have HYD : Hid (∀ c ∈ Y, isDig c = true) := fun c hc => by
                  rw [hY, List.mem_append] at hc
                  rcases hc with hc | hc
                  · exact HXD.out c hc
                  · rw [List.eq_of_mem_replicate hc]; rfl
                have HRY : Hid (q = numP false Y) := by unfold Hid; rw [hY, hms]; exact HRES.out
                have hsly : sl = ny := by rw [hny]; exact HSL.out
                subst hsly
                have hnyi : (sl : Int) ≤ 140737488355328 := by have := HXL.out; omega
                clear hlt hm hY hny hyl HV2 HRES HXD hms hm9
                have dpm : decide (pm < sc) = false := decide_eq_false (by omega)
                go_wp2
                go_loopw [11, 12] (fun s11 s12 wx => ∃ (i a : Nat), wx = wr ∧ i ≤ sl ∧ s12 = .int .i64 (i : Int) ∧ s11 = .int .i64 (-(a : Int)) ∧ a ≤ 9223372036854775808 ∧ readB 0 Y = readB a (Y.drop i)) (fun _ s12 _ => sl - (intOf s12).toNat)
                case atStart => exact ⟨0, 0, rfl, Nat.zero_le _, rfl, rfl, Nat.zero_le _, rfl⟩
                case round =>
                  obtain ⟨i, a, rfl, hi, rfl, rfl, ha, hrd⟩ := hrel
                  have hi0 : 0 ≤ (i : Int) := by omega
                  have HRD := Lib.hid hrd
                  have HA := Lib.hid ha
                  have HNUM : Hid (numP false Y = match readB 0 Y with | none => none | some u => if false = true then some (-(u : Int)) else if u = 9223372036854775808 then none else some (u : Int)) := num_read _ Y
                  clear hrd
                  by_cases hlt : i < sl
                  · have hli2 : (i : Int) < (sl : Int) := by omega
                    have hiy : i < Y.length := by rw [HYL.out]; exact hlt
                    obtain ⟨c, hc⟩ : ∃ c, c = Y[i] := ⟨_, rfl⟩
                    obtain ⟨gb, go, rfl⟩ : ∃ gb go : Nat, ao = some ⟨gb, go, none⟩ := row8_some HVY.out (by omega)
                    have hcell : wr.cell? ⟨gb, go + i, none⟩ = some (.int .u8 (c.toNat : Int)) := by
                      rw [hc]; exact row8_cell HVY.out hiy
                    have hcd := isDig_iff.1 (HYD.out c (by rw [hc]; exact List.getElem_mem _))
                    obtain ⟨d, hd⟩ : ∃ d, d = dval c := ⟨_, rfl⟩
                    have hcv : (c.toNat : Int) = 48 + (d : Int) := by rw [hd]; unfold dval; omega
                    rw [hcv] at hcell
                    have hd9 : (d : Int) ≤ 9 := by rw [hd]; unfold dval; omega
                    have hd0 : 0 ≤ (d : Int) := by omega
                    have hsb : IntKind.u8.wrap (48 + (d : Int) - 48) = (d : Int) := by rw [IntKind.wrap_u8]; omega
                    have hsb2 : 48 + (d : Int) - 48 = (d : Int) := by omega
                    have HST : Hid (readB 0 Y = if 9223372036854775808 < 10 * a + d then none else readB (10 * a + d) (Y.drop (i + 1))) := by
                      unfold Hid; rw [HRD.out, List.drop_eq_getElem_cons hiy, readB, ← hc, hd]
                    have HLT := Lib.hid hlt
                    have hai : (a : Int) ≤ 9223372036854775808 := by omega
                    have hgi := guard_iff (a := a) (d := d) (by omega)
                    clear hlt hi hiy hc hcd hd hcv ha
                    by_cases hg : 9223372036854775808 < 10 * a + d
                    · have hq : q = none := by rw [HRY.out, HNUM.out, HST.out, if_pos hg]
                      have hgd : decide (-(a : Int) < Int.tdiv (-9223372036854775808 + (d : Int)) 10) = true := decide_eq_true (hgi.2 hg)
                      subst hq
                      have hgp := hgi.2 hg
                      clear hgi hg
                      go_wp2
                      go_ret2
                      exact ⟨rfl, HBW2.out⟩
                    · have hgd : decide (-(a : Int) < Int.tdiv (-9223372036854775808 + (d : Int)) 10) = false := decide_eq_false (fun h => hg (hgi.1 h))
                      have hgn : ¬ (-(a : Int) < Int.tdiv (-9223372036854775808 + (d : Int)) 10) := fun h => hg (hgi.1 h)
                      have HST2 : Hid (readB 0 Y = readB (10 * a + d) (Y.drop (i + 1))) := by unfold Hid; rw [HST.out, if_neg hg]
                      have hb1 : -9223372036854775808 ≤ 10 * -(a : Int) := by omega
                      have hb2 : -9223372036854775808 ≤ 10 * -(a : Int) - (d : Int) := by omega
                      have HA2 : Hid (10 * a + d ≤ 9223372036854775808) := by unfold Hid; omega
                      have HEQ : Hid (10 * -(a : Int) - (d : Int) = -((10 * a + d : Nat) : Int)) := by unfold Hid; omega
                      clear hgi hg
                      go_wp2
                      go_roundw
                      case rel => exact ⟨i + 1, 10 * a + d, by first | rfl | trivial, HLT.out, by first | rfl | go_num, by first | (rw [← HEQ.out]; done) | (rw [← HEQ.out]; rfl) | (congr 1; have := HEQ.out; omega), HA2.out, HST2.out⟩
                      case measure => simp [intOf]; have := HLT.out; omega
                  · have hli2 : (sl : Int) ≤ (i : Int) := by omega
                    have hrd0 : readB 0 Y = some a := by rw [HRD.out, List.drop_eq_nil_of_le (by have := HYL.out; omega), readB]
                    have hai : (a : Int) ≤ 9223372036854775808 := by omega
                    have hqq : q = if false = true then some (-(a : Int)) else if a = 9223372036854775808 then none else some (a : Int) := by rw [HRY.out, HNUM.out, hrd0]
                    clear hlt hi hrd0 ha
                    by_cases hlast : a = 9223372036854775808
                    · have hq : q = none := by rw [hqq, if_neg (by decide), if_pos hlast]
                      have hneq : ((-(a : Int)) == -9223372036854775808) = true := by simp; omega
                      have heq2 : -(a : Int) = -9223372036854775808 := by omega
                      subst hq
                      clear hqq hlast
                      go_wp2
                      go_ret2
                      exact ⟨rfl, HBW2.out⟩
                    · have hq : q = some (a : Int) := by rw [hqq, if_neg (by decide), if_neg hlast]
                      have hneq : ((-(a : Int)) == -9223372036854775808) = false := by simp; omega
                      have ha7 : (a : Int) ≤ 9223372036854775807 := by omega
                      subst hq
                      clear hqq hlast
                      go_wp2
                      go_ret2
                      exact ⟨by first | rfl | (simp [decPR]; done) | (simp [decPR]; rfl), HBW2.out⟩
        · have hjl : j < ts.size := by have h1 := HWL.out; have h2 := HJ.out; rw [hr2] at h1; simp at h1; omega
          have hjli : (j : Int) < (ts.size : Int) := by omega
          have hxi : ((ts[j]'hjl).toNat : Int) = (c.toNat : Int) := by
            have := HAT2.out 0 (by rw [hr2]; simp) j (by have := HJ.out; omega) hjl
            rw [this]; congr 1; simp [hr2]
          have HDG : Hid (∀ V, Calls Tryd.prog 36 #[.int .u8 (c.toNat : Int)] V fun e w' => e = .returned (.bool false) ∧ V = w') := fun V => by rw [← hcd]; exact refDigit_any c V
          have HR2E := Lib.hid hr2
          clear hr2 hcd
          by_cases w0 : W.length = 0
          · have hqn : q = none := by rw [HQ.out]; exact decP_bad (by rw [← HW0.out, List.eq_nil_of_length_eq_zero w0]; rfl)
            have heq : ((j : Int) == (0 : Int)) = true := by have := HJ.out; simp; omega
            subst hqn
            clear w0
            go_wp2_with (go_at_call 36; refine (HDG.out _).mono ?_; rintro e w9 ⟨rfl, rfl⟩)
            go_ret2
            exact ⟨rfl, HBW.out⟩
          go_upto_region 12 with ((go_at_call 36; refine (HDG.out _).mono ?_; rintro e w9 ⟨rfl, rfl⟩))
          go_cut [68] from 14 to 68 (fun c wx => c = .bool (badW W) ∧ wx = wr)
          case first =>
            · have heq : ((j : Int) == (0 : Int)) = false := by have := HJ.out; simp; omega
              by_cases w19 : 19 < W.length
              · have hbad : badW W = true := by unfold badW; rw [decide_eq_true w19]; simp
                have h19 : (19 : Int) < (j : Int) := by have := HJ.out; omega
                clear w0 w19
                go_wp2
                go_meet
                exact ⟨by first | (rw [hbad]; done) | (rw [hbad]; simp; omega), rfl⟩
              · have h19 : (j : Int) ≤ (19 : Int) := by have := HJ.out; omega
                have hfs : 0 < ts.size := by have := HWL.out; omega
                have hfsi : (0 : Int) < (ts.size : Int) := by omega
                obtain ⟨x, hx⟩ : ∃ x, x = W[0]'(by omega) := ⟨_, rfl⟩
                have hxf : ((ts[0]'hfs).toNat : Int) = (x.toNat : Int) := by rw [hx]; exact HAT.out 0 (by omega) 0 rfl hfs
                have hhd : W.head? = some x := by rw [hx, List.head?_eq_getElem?, List.getElem?_eq_getElem]
                have wne : ¬ W = [] := fun e => w0 (by rw [e]; rfl)
                by_cases x48 : x.toNat = 48
                · have hx8 : x = 48 := UInt8.toNat_inj.1 x48
                  have hxe : ((ts[0]'hfs).toNat : Int) = 48 := by rw [hxf, x48]; rfl
                  by_cases w1 : 1 < W.length
                  · have hbad : badW W = true := by unfold badW; rw [decide_eq_true (show W.head? = some 48 by rw [hhd, hx8]), decide_eq_true w1]; simp
                    have h1 : (1 : Int) < (j : Int) := by have := HJ.out; omega
                    clear w0 w19 hx x48 hx8 w1 hhd hxf wne
                    go_wp2
                    go_meet
                    exact ⟨by first | (rw [hbad]; done) | (rw [hbad]; simp; omega), rfl⟩
                  · have hbad : badW W = false := by unfold badW; rw [decide_eq_false wne, decide_eq_false w19, decide_eq_false w1]; simp
                    have h1 : (j : Int) ≤ (1 : Int) := by have := HJ.out; omega
                    clear w0 w19 hx x48 hx8 w1 hhd hxf wne
                    go_wp2
                    go_meet
                    exact ⟨by first | (rw [hbad]; done) | (rw [hbad]; simp; omega), rfl⟩
                · have hbad : badW W = false := by
                    unfold badW; rw [decide_eq_false wne, decide_eq_false w19, decide_eq_false (show ¬ W.head? = some 48 from fun e => x48 (by rw [hhd] at e; rw [Option.some.inj e]; rfl))]; simp
                  have hxe : ((x.toNat : Int) == 48) = false := by simp; omega
                  clear w0 w19 hx x48 hhd wne
                  go_wp2
                  go_meet
                  exact ⟨by first | (rw [hbad]; done) | (rw [hbad]; simp; omega), rfl⟩
          obtain ⟨rfl, rfl⟩ := hcut
          cases hb : badW W
          case true =>
            have hqn : q = none := by rw [HQ.out]; exact decP_bad (by rw [← HW0.out]; exact hb)
            subst hqn
            clear hb
            go_wp2
            go_ret2
            exact ⟨rfl, HBW.out⟩
          case false =>
            have HB := Lib.hid hb
            clear hb
            by_cases h46 : c.toNat = 46
            case neg =>
              have hqn : q = none := by rw [HQ.out]; exact decP_other (by rw [← HW0.out]; exact HB.out) (by rw [← HR20.out]; exact HR2E.out) h46
              have hce : ((c.toNat : Int) == 46) = false := by simp; omega
              subst hqn
              clear h46
              go_wp2
              go_ret2
              exact ⟨rfl, HBW.out⟩
            case pos =>
              obtain ⟨P, hP⟩ : ∃ P, P = t.takeWhile isDig := ⟨_, rfl⟩
              obtain ⟨R3, hR3⟩ : ∃ R3, R3 = t.dropWhile isDig := ⟨_, rfl⟩
              have htt : t = P ++ R3 := by rw [hP, hR3]; exact tw_pre isDig t
              have HQ2 : Hid (q = if P = [] ∨ R3 ≠ [] ∨ sc < P.length then none else numP false (W ++ P ++ List.replicate (sc - P.length) 48)) := by
                unfold Hid; rw [HQ.out, decP_point (by rw [← HW0.out]; exact HB.out) (by rw [← HR20.out]; exact HR2E.out) h46, ← HW0.out, ← hP, ← hR3]
              have HPD : Hid (∀ c ∈ P, isDig c = true) := fun c hc => by
                rw [hP] at hc
                have := List.all_takeWhile (p := isDig) (l := t)
                rw [List.all_eq_true] at this
                exact this c hc
              have HR3 : Hid (R3 = [] ∨ ∃ c t, R3 = c :: t ∧ isDig c = false) := by unfold Hid; rw [hR3]; exact drop_head
              have HL2 : Hid (j + 1 + P.length + R3.length = ts.size ∧ (ts.size : Int) ≤ 140737488355000 ∧ W.length ≤ j) := by
                unfold Hid; have h1 := HWL.out; have h2 := HJ.out; rw [HR2E.out, List.length_cons, htt, List.length_append] at h1; exact ⟨by omega, h1.2, by omega⟩
              have HAT3 : Hid (∀ k (hk : k < P.length) j2, j2 = j + 1 + k → ∀ hj : j2 < ts.size, ((ts[j2]'hj).toNat : Int) = (P[k].toNat : Int)) := fun k hk j2 hj2 hj => by
                have h0 : R2[k + 1]? = some P[k] := by rw [HR2E.out, List.getElem?_cons_succ, htt, List.getElem?_append_left hk, List.getElem?_eq_getElem hk]
                obtain ⟨h3, h4⟩ := List.getElem?_eq_some_iff.1 h0
                rw [← h4]; exact HAT2.out (k + 1) h3 j2 (by have := HJ.out; omega) hj
              have HAT4 : Hid (∀ k (hk : k < R3.length) j2, j2 = j + 1 + P.length + k → ∀ hj : j2 < ts.size, ((ts[j2]'hj).toNat : Int) = (R3[k].toNat : Int)) := fun k hk j2 hj2 hj => by
                have h0 : R2[P.length + k + 1]? = some R3[k] := by rw [HR2E.out, List.getElem?_cons_succ, htt, List.getElem?_append_right (by omega), Nat.add_sub_cancel_left, List.getElem?_eq_getElem hk]
                obtain ⟨h3, h4⟩ := List.getElem?_eq_some_iff.1 h0
                rw [← h4]; exact HAT2.out (P.length + k + 1) h3 j2 (by have := HJ.out; omega) hj
              have hce : (c.toNat : Int) = 46 := by omega
              rw [hce] at hxi
              clear h46 hP hR3 htt hce HQ HW0 HR20 HR2E HWL HAT HAT2 HDG HR2
              go_wp2
              go_loopw [6, 8, 10] (fun s6 s8 s10 wx => ∃ (k : Nat) (v : Value), k ≤ P.length ∧ s6 = .int .i64 ((j + 1 + k : Nat) : Int) ∧ s8 = v ∧ s10 = .int .i64 (k : Int) ∧ wx.ownsRow w.heap.size 5 1 v (W.length + k) ((W ++ P.take k).map bV) ∧ BW w wx) (fun s6 _ _ _ => j + 1 + P.length - (intOf s6).toNat)
              case atStart => exact ⟨0, _, Nat.zero_le _, by first | rfl | go_num, rfl, rfl, by rw [List.take_zero, List.append_nil]; exact hvw.out, HBW.out⟩
              case round =>
                obtain ⟨k, v, hk, rfl, rfl, rfl, hv, hbw⟩ := hrel
                obtain ⟨ao, sl, sp, rfl⟩ := row_form hv
                have HV := Lib.hid hv
                have HBW2 := Lib.hid hbw
                clear hv hbw hvw HBW
                have HJ0 := HJ
                clear HJ
                obtain ⟨i, hj⟩ : ∃ i, i = j + 1 + k := ⟨_, rfl⟩
                rw [← hj]
                have HI := Lib.hid hj
                have hi0 : 0 ≤ (i : Int) := by omega
                have his : i ≤ ts.size := by have := HL2.out; omega
                have hisi : (i : Int) ≤ (ts.size : Int) := by omega
                have hk0 : 0 ≤ (k : Int) := by omega
                have hk9 : (k : Int) ≤ 140737488355000 := by have := HL2.out; omega
                by_cases hlt : k < P.length
                · have hjl2 : i < ts.size := by have := HL2.out; omega
                  have hjli2 : (i : Int) < (ts.size : Int) := by omega
                  obtain ⟨d, hd⟩ : ∃ d, d = P[k] := ⟨_, rfl⟩
                  have hxi2 : ((ts[i]'hjl2).toNat : Int) = (d.toNat : Int) := by rw [hd]; exact HAT3.out k hlt i hj hjl2
                  have hcd : isDig d = true := by rw [hd]; exact HPD.out _ (List.getElem_mem _)
                  have HDG : Hid (∀ V, Calls Tryd.prog 36 #[.int .u8 (d.toNat : Int)] V fun e w' => e = .returned (.bool true) ∧ V = w') := fun V => by rw [← hcd]; exact refDigit_any d V
                  have HNX : Hid (W ++ P.take (k + 1) = (W ++ P.take k) ++ [d]) := by unfold Hid; rw [List.append_assoc, List.take_add_one, List.getElem?_eq_getElem hlt, Option.toList_some, hd]
                  have HLT := Lib.hid hlt
                  have HROOM : Hid (W.length + k + 1 ≤ 140737488355328) := by unfold Hid; have := HL2.out; omega
                  have HSZ : Hid (w.heap.size ≤ (wr.alloc (.cells #[.int .u8 (d.toNat : Int)] 5)).heap.size) := by unfold Hid; have := HBW2.out.size; simp; omega
                  have HV3 : Hid ((wr.alloc (.cells #[.int .u8 (d.toNat : Int)] 5)).ownsRow w.heap.size 5 1 (.slice ao sl sp) (W.length + k) ((W ++ P.take k).map bV)) := row8_alloc HV.out _
                  have HCE : Hid ((wr.alloc (.cells #[.int .u8 (d.toNat : Int)] 5)).cell? ⟨wr.heap.size, 0, none⟩ = some (bV d)) := cell_of (heap_new wr _) rfl
                  clear hlt hk hd hcd hj
                  go_wp2_with (first | (go_at_call 36; refine (HDG.out _).mono ?_; rintro e w9 ⟨rfl, rfl⟩) | (at_builtin; refine append_byte1 (c := d) (l0 := W ++ P.take k) rfl _ _ rfl rfl HV3.out HSZ.out rfl HCE.out HROOM.out ?_; intro v5 W5 ho5 hg5; have HO5 := Lib.hid ho5; have HG5 := Lib.hid hg5; clear ho5 hg5))
                  go_roundw
                  case rel => exact ⟨k + 1, _, HLT.out, by rw [HI.out]; first | rfl | go_num | (congr 1; omega), rfl, by first | rfl | go_num | (congr 1; omega), by rw [HNX.out]; exact HO5.out, RowKit.Below.grown (HBW2.out.alloc _) HG5.out (HBW2.out.alloc _).size (fun r e => (row8_type HV3.out e).1)⟩
                  case measure => simp [intOf]; have := HLT.out; have := HI.out; omega
                · obtain ⟨p, hp⟩ : ∃ p, p = P.length := ⟨_, rfl⟩
                  obtain rfl : k = p := by omega
                  have hvw2 : Hid (wr.ownsRow w.heap.size 5 1 (.slice ao sl sp) (W.length + k) ((W ++ P).map bV)) := by
                    have := HV.out
                    rwa [hp, List.take_length, ← hp] at this
                  have HPL := Lib.hid hp
                  clear HV hlt hk hj hp
                  rcases HR3.out with hr3 | ⟨c2, t2, hr3, hcd2⟩
                  · have hie : i = ts.size := by have h1 := HL2.out; have h2 := HI.out; have h3 := HPL.out; rw [hr3] at h1; simp at h1; omega
                    have hiei : (ts.size : Int) ≤ (i : Int) := by omega
                    have HR3E := Lib.hid hr3
                    clear hr3 hie
                    by_cases p0 : k = 0
                    · have hqn : q = none := by rw [HQ2.out, if_pos (.inl (List.eq_nil_of_length_eq_zero (by rw [← HPL.out]; exact p0)))]
                      subst hqn
                      subst p0
                      go_wp2
                      go_ret2
                      exact ⟨rfl, HBW2.out⟩
                    · have hpz : ((k : Int) == 0) = false := by simp; omega
                      by_cases psc : sc < k
                      · have hqn : q = none := by rw [HQ2.out, if_pos (.inr (.inr (by rw [← HPL.out]; exact psc)))]
                        have hpsi : (sc : Int) < (k : Int) := by omega
                        subst hqn
                        clear p0 psc
                        go_wp2
                        go_ret2
                        exact ⟨rfl, HBW2.out⟩
                      · have hpsi : (k : Int) ≤ (sc : Int) := by omega
                        have hpsd : decide ((sc : Int) < (k : Int)) = false := decide_eq_false (by omega)
                        have hpsn : decide (sc < k) = false := decide_eq_false psc
                        obtain ⟨X, hX⟩ : ∃ X, X = W ++ P := ⟨_, rfl⟩
                        have hxl : X.length = W.length + k := by rw [hX, List.length_append, HPL.out]
                        have HRES : Hid (q = numP false (X ++ List.replicate (sc - k) 48)) := by
                          unfold Hid; rw [HQ2.out, if_neg, hX, HPL.out]
                          rintro (h | h | h)
                          · exact p0 (by rw [HPL.out, h]; rfl)
                          · exact h HR3E.out
                          · exact psc (by rw [HPL.out]; exact h)
                        have HP0 : Hid (k ≤ sc) := by unfold Hid; omega
                        have HXL : Hid (X.length ≤ 140737488355000) := by unfold Hid; have := HL2.out; rw [hxl]; have := HPL.out; omega
                        have HXD : Hid (∀ c ∈ X, isDig c = true) := fun c hc => by
                          rw [hX, List.mem_append] at hc
                          rcases hc with hc | hc
                          · exact HWD.out c hc
                          · exact HPD.out c hc
                        have HV : Hid (wr.ownsRow w.heap.size 5 1 (.slice ao sl sp) X.length (X.map bV)) := by unfold Hid; rw [hxl, hX]; exact hvw2.out
                        have HBW := HBW2
                        clear p0 psc hX hxl hvw2 HBW2 HQ2 HWD HPD HR3 HL2 HAT3 HAT4 HPL HR3E HI HJ0 HSLW
                        go_wp2
                        clear hpz hpsi hpsd hpsn
                        go_loopw [8, 10] (fun s8 s10 wx => ∃ (m : Nat) (v : Value), k + m ≤ sc ∧ s10 = .int .i64 ((k + m : Nat) : Int) ∧ s8 = v ∧ wx.ownsRow w.heap.size 5 1 v (X.length + m) ((X ++ List.replicate m 48).map bV) ∧ BW w wx) (fun _ s10 _ => sc - (intOf s10).toNat)
                        case atStart => exact ⟨0, _, HP0.out, rfl, rfl, by rw [List.replicate_zero, List.append_nil]; exact HV.out, HBW.out⟩
                        case round =>
                          obtain ⟨m, v, hm, rfl, rfl, hv, hbw⟩ := hrel
                          obtain ⟨ao, sl, sp, rfl⟩ := row_form hv
                          have HV2 := Lib.hid hv
                          have HBW2 := Lib.hid hbw
                          have hsl : sl = X.length + m := row_len hv rfl
                          have HSL := Lib.hid hsl
                          clear hv hbw hsl HV HBW
                          obtain ⟨pm, hpm⟩ : ∃ pm, pm = k + m := ⟨_, rfl⟩
                          rw [← hpm] at hm ⊢
                          have HPM := Lib.hid hpm
                          have hpm0 : 0 ≤ (pm : Int) := by omega
                          clear hpm
                          by_cases hlt : pm < sc
                          · have hli : (pm : Int) < (sc : Int) := by omega
                            have hps : (pm : Int) ≤ 9 := by omega
                            have HLT := Lib.hid hlt
                            have HROOM : Hid (X.length + m + 1 ≤ 140737488355328) := by unfold Hid; have := HXL.out; have := HPM.out; omega
                            have HSZ : Hid (w.heap.size ≤ (wr.alloc (.cells #[.int .u8 48] 5)).heap.size) := by unfold Hid; have := HBW2.out.size; simp; omega
                            have HV3 : Hid ((wr.alloc (.cells #[.int .u8 48] 5)).ownsRow w.heap.size 5 1 (.slice ao sl sp) (X.length + m) ((X ++ List.replicate m 48).map bV)) := row8_alloc HV2.out _
                            clear hlt hm
                            go_wp2_with (at_builtin; refine append_byte1 (c := 48) rfl _ _ rfl rfl HV3.out HSZ.out rfl (cell_of (heap_new wr _) rfl) HROOM.out ?_; intro v5 W5 ho5 hg5; have HO5 := Lib.hid ho5; have HG5 := Lib.hid hg5; clear ho5 hg5)
                            go_roundw
                            case rel => exact ⟨m + 1, _, by have := HLT.out; have := HPM.out; omega, by rw [HPM.out]; first | rfl | go_num | (congr 1; omega), rfl, by have := HO5.out; rw [List.append_assoc, ← List.replicate_succ'] at this; exact this, RowKit.Below.grown (HBW2.out.alloc _) HG5.out (HBW2.out.alloc _).size (fun r e => (row8_type HV3.out e).1)⟩
                            case measure => simp [intOf]; have := HLT.out; omega
                          · have hli : (sc : Int) ≤ (pm : Int) := by omega
                            have hms : m = sc - k := by have := HPM.out; omega
                            have hm9 : m ≤ 9 := by omega
                            obtain ⟨Y, hY⟩ : ∃ Y, Y = X ++ List.replicate m 48 := ⟨_, rfl⟩
                            obtain ⟨ny, hny⟩ : ∃ ny, ny = X.length + m := ⟨_, rfl⟩
                            have hyl : Y.length = ny := by rw [hY, List.length_append, List.length_replicate, hny]
                            have HYL := Lib.hid hyl
                            have HVY : Hid (wr.ownsRow w.heap.size 5 1 (.slice ao sl sp) ny (Y.map bV)) := by unfold Hid; rw [hny, hY]; exact HV2.out
                            have HYD : Hid (∀ c ∈ Y, isDig c = true) := fun c hc => by
                              rw [hY, List.mem_append] at hc
                              rcases hc with hc | hc
                              · exact HXD.out c hc
                              · rw [List.eq_of_mem_replicate hc]; rfl
                            have HRY : Hid (q = numP false Y) := by unfold Hid; rw [hY, hms]; exact HRES.out
                            have hsly : sl = ny := by rw [hny]; exact HSL.out
                            subst hsly
                            have hnyi : (sl : Int) ≤ 140737488355328 := by have := HXL.out; omega
                            clear hlt hm hY hny hyl HV2 HRES HXD hms hm9
                            have dpm : decide (pm < sc) = false := decide_eq_false (by omega)
                            go_wp2
                            go_loopw [11, 12] (fun s11 s12 wx => ∃ (i a : Nat), wx = wr ∧ i ≤ sl ∧ s12 = .int .i64 (i : Int) ∧ s11 = .int .i64 (-(a : Int)) ∧ a ≤ 9223372036854775808 ∧ readB 0 Y = readB a (Y.drop i)) (fun _ s12 _ => sl - (intOf s12).toNat)
                            case atStart => exact ⟨0, 0, rfl, Nat.zero_le _, rfl, rfl, Nat.zero_le _, rfl⟩
                            case round =>
                              obtain ⟨i, a, rfl, hi, rfl, rfl, ha, hrd⟩ := hrel
                              have hi0 : 0 ≤ (i : Int) := by omega
                              have HRD := Lib.hid hrd
                              have HA := Lib.hid ha
                              have HNUM : Hid (numP false Y = match readB 0 Y with | none => none | some u => if false = true then some (-(u : Int)) else if u = 9223372036854775808 then none else some (u : Int)) := num_read _ Y
                              clear hrd
                              by_cases hlt : i < sl
                              · have hli2 : (i : Int) < (sl : Int) := by omega
                                have hiy : i < Y.length := by rw [HYL.out]; exact hlt
                                obtain ⟨c, hc⟩ : ∃ c, c = Y[i] := ⟨_, rfl⟩
                                obtain ⟨gb, go, rfl⟩ : ∃ gb go : Nat, ao = some ⟨gb, go, none⟩ := row8_some HVY.out (by omega)
                                have hcell : wr.cell? ⟨gb, go + i, none⟩ = some (.int .u8 (c.toNat : Int)) := by
                                  rw [hc]; exact row8_cell HVY.out hiy
                                have hcd := isDig_iff.1 (HYD.out c (by rw [hc]; exact List.getElem_mem _))
                                obtain ⟨d, hd⟩ : ∃ d, d = dval c := ⟨_, rfl⟩
                                have hcv : (c.toNat : Int) = 48 + (d : Int) := by rw [hd]; unfold dval; omega
                                rw [hcv] at hcell
                                have hd9 : (d : Int) ≤ 9 := by rw [hd]; unfold dval; omega
                                have hd0 : 0 ≤ (d : Int) := by omega
                                have hsb : IntKind.u8.wrap (48 + (d : Int) - 48) = (d : Int) := by rw [IntKind.wrap_u8]; omega
                                have hsb2 : 48 + (d : Int) - 48 = (d : Int) := by omega
                                have HST : Hid (readB 0 Y = if 9223372036854775808 < 10 * a + d then none else readB (10 * a + d) (Y.drop (i + 1))) := by
                                  unfold Hid; rw [HRD.out, List.drop_eq_getElem_cons hiy, readB, ← hc, hd]
                                have HLT := Lib.hid hlt
                                have hai : (a : Int) ≤ 9223372036854775808 := by omega
                                have hgi := guard_iff (a := a) (d := d) (by omega)
                                clear hlt hi hiy hc hcd hd hcv ha
                                by_cases hg : 9223372036854775808 < 10 * a + d
                                · have hq : q = none := by rw [HRY.out, HNUM.out, HST.out, if_pos hg]
                                  have hgd : decide (-(a : Int) < Int.tdiv (-9223372036854775808 + (d : Int)) 10) = true := decide_eq_true (hgi.2 hg)
                                  subst hq
                                  have hgp := hgi.2 hg
                                  clear hgi hg
                                  go_wp2
                                  go_ret2
                                  exact ⟨rfl, HBW2.out⟩
                                · have hgd : decide (-(a : Int) < Int.tdiv (-9223372036854775808 + (d : Int)) 10) = false := decide_eq_false (fun h => hg (hgi.1 h))
                                  have hgn : ¬ (-(a : Int) < Int.tdiv (-9223372036854775808 + (d : Int)) 10) := fun h => hg (hgi.1 h)
                                  have HST2 : Hid (readB 0 Y = readB (10 * a + d) (Y.drop (i + 1))) := by unfold Hid; rw [HST.out, if_neg hg]
                                  have hb1 : -9223372036854775808 ≤ 10 * -(a : Int) := by omega
                                  have hb2 : -9223372036854775808 ≤ 10 * -(a : Int) - (d : Int) := by omega
                                  have HA2 : Hid (10 * a + d ≤ 9223372036854775808) := by unfold Hid; omega
                                  have HEQ : Hid (10 * -(a : Int) - (d : Int) = -((10 * a + d : Nat) : Int)) := by unfold Hid; omega
                                  clear hgi hg
                                  go_wp2
                                  go_roundw
                                  case rel => exact ⟨i + 1, 10 * a + d, by first | rfl | trivial, HLT.out, by first | rfl | go_num, by first | (rw [← HEQ.out]; done) | (rw [← HEQ.out]; rfl) | (congr 1; have := HEQ.out; omega), HA2.out, HST2.out⟩
                                  case measure => simp [intOf]; have := HLT.out; omega
                              · have hli2 : (sl : Int) ≤ (i : Int) := by omega
                                have hrd0 : readB 0 Y = some a := by rw [HRD.out, List.drop_eq_nil_of_le (by have := HYL.out; omega), readB]
                                have hai : (a : Int) ≤ 9223372036854775808 := by omega
                                have hqq : q = if false = true then some (-(a : Int)) else if a = 9223372036854775808 then none else some (a : Int) := by rw [HRY.out, HNUM.out, hrd0]
                                clear hlt hi hrd0 ha
                                by_cases hlast : a = 9223372036854775808
                                · have hq : q = none := by rw [hqq, if_neg (by decide), if_pos hlast]
                                  have hneq : ((-(a : Int)) == -9223372036854775808) = true := by simp; omega
                                  have heq2 : -(a : Int) = -9223372036854775808 := by omega
                                  subst hq
                                  clear hqq hlast
                                  go_wp2
                                  go_ret2
                                  exact ⟨rfl, HBW2.out⟩
                                · have hq : q = some (a : Int) := by rw [hqq, if_neg (by decide), if_neg hlast]
                                  have hneq : ((-(a : Int)) == -9223372036854775808) = false := by simp; omega
                                  have ha7 : (a : Int) ≤ 9223372036854775807 := by omega
                                  subst hq
                                  clear hqq hlast
                                  go_wp2
                                  go_ret2
                                  exact ⟨by first | rfl | (simp [decPR]; done) | (simp [decPR]; rfl), HBW2.out⟩
                  · have hjl2 : i < ts.size := by have h1 := HL2.out; have h2 := HI.out; have h3 := HPL.out; rw [hr3] at h1; simp at h1; omega
                    have hjli2 : (i : Int) < (ts.size : Int) := by omega
                    have hxi2 : ((ts[i]'hjl2).toNat : Int) = (c2.toNat : Int) := by
                      have := HAT4.out 0 (by rw [hr3]; simp) i (by have := HI.out; have := HPL.out; omega) hjl2
                      rw [this]; congr 1; simp [hr3]
                    have HDG : Hid (∀ V, Calls Tryd.prog 36 #[.int .u8 (c2.toNat : Int)] V fun e w' => e = .returned (.bool false) ∧ V = w') := fun V => by rw [← hcd2]; exact refDigit_any c2 V
                    have hqn : q = none := by rw [HQ2.out, if_pos (.inr (.inl (by rw [hr3]; exact List.cons_ne_nil _ _)))]
                    subst hqn
                    clear hr3 hcd2
                    by_cases p0 : k = 0
                    · subst p0
                      go_wp2_with (go_at_call 36; refine (HDG.out _).mono ?_; rintro e w9 ⟨rfl, rfl⟩)
                      go_ret2
                      exact ⟨rfl, HBW2.out⟩
                    · have hpz : ((k : Int) == 0) = false := by simp; omega
                      clear p0
                      go_wp2_with (go_at_call 36; refine (HDG.out _).mono ?_; rintro e w9 ⟨rfl, rfl⟩)
                      go_ret2
                      exact ⟨rfl, HBW2.out⟩
  · have hpi : (ts.size : Int) ≤ 0 := by omega
    have hw : W = [] := List.eq_nil_of_length_eq_zero (by have := HWL.out; omega)
    have hqn : q = none := by rw [HQ.out]; exact decP_bad (by rw [← HW0.out, hw]; rfl)
    subst hqn
    clear HHD hp0 hw HQ HW0 HR20 HWL HAT HAT2 HWD HR2
    go_enter Tryd.func10, Tryd.ntmps10
    go_wp2
    go_loopw [6, 8] (fun s6 s8 wx => s6 = .int .i64 0 ∧ wx = w) (fun _ _ _ => 0)
    case atStart => exact ⟨rfl, rfl⟩
    case round =>
      obtain ⟨rfl, rfl⟩ := hrel
      go_wp2
      go_ret2
      exact ⟨rfl, BW.refl _⟩
end Go.Proofs.YtghghekdheeknaaDoor
