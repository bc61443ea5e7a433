/- One call of a reader and of the reference's: the same answer. Bytes. -/
import Derived.Test.YthepoplekabcoaaOneE
namespace Go.Proofs.Ythepoplekabcoaa
open Go.RowKit Go.Maps

theorem Rf.vlt {w : World} {s : Nat} {v : Value} {bs : List UInt8} {p : Nat} {e : Int} (h : Rf w s v bs p e) (hne : bs ≠ []) (a : Addr) (n k : Nat) (e1 : v = .slice (some a) n k) : a.block < w.heap.size := by
  rcases h.src with ⟨_, _, _, hx, _⟩ | ⟨b, off, cap, hv', _, _, h3, _⟩
  · exact absurd (by simpa using hx) hne
  · rw [hv'] at e1; cases e1; exact h3
/-- a block that is not theirs has turned -/
theorem Pair.moved {w w' : World} {r c s : Nat} {v : Value} {bs : List UInt8} {p : Nat} {e : Int} {F : Nat → Prop} (h : Pair w r c s v bs p e) (m : Moves F w w') (hr : ¬ F r) (hc : ¬ F c) (hs : ¬ F s) (hv : bs ≠ [] → ∀ a n k, v = .slice (some a) n k → ¬ F a.block) : Pair w' r c s v bs p e :=
  ⟨h.rd.moved m hr hc, h.rf.keep m.size (m.block s (lt_of_heap h.rf.blk) hs) (fun hne a n k e1 => m.block _ (h.rf.vlt hne a n k e1) (hv hne a n k e1)), h.rs, h.cs, h.vr, h.ee⟩
theorem row_set_cell {w : World} {base n : Nat} {xo : Option Addr} {xc : Nat} {zs : List UInt8} (h : w.ownsRow base 5 1 (.slice xo n xc) n (zs.map bV)) {i : Nat} (hi : i < n) (y : Int) (hy0 : 0 ≤ y) (hy1 : y < 256) :
    ∃ g, xo = some ⟨g, 0, none⟩ ∧ base ≤ g ∧ (∃ x : Int, 0 ≤ x ∧ x < 256 ∧ w.cell? ⟨g, i, none⟩ = some (.int .u8 x)) ∧ w.frozen? ⟨g, i, none⟩ = false ∧ (w.setCell ⟨g, i, none⟩ (.int .u8 y)).ownsRow base 5 1 (.slice xo n xc) n ((zs.set i (UInt8.ofNat y.toNat)).map bV) := by
  have hl : zs.length = n := by have := h.1; simpa using this
  have hcell := fun a (e : Value.slice xo n xc = .slice (some a) n xc) => row_cell h e (i := i) (by rw [List.length_map, hl]; exact hi)
  obtain ⟨h1, h2 | ⟨g, cap, cur, hv', hg, hh, hn', hc', hcs', htk⟩⟩ := h
  · exact absurd h2.2 (by omega)
  · injection hv' with e1 _ e3
    subst e1
    obtain ⟨hc1, _, _⟩ := hcell ⟨g, 0, none⟩ rfl
    refine ⟨g, rfl, hg, ?_, unfrozen_of hh, ?_⟩
    · refine ⟨(zs[i]'(by omega)).toNat, by omega, by have := (zs[i]'(by omega)).toNat_lt; omega, ?_⟩
      simp only [Nat.zero_add, List.getElem_map] at hc1
      exact hc1
    · refine ⟨by simp [hl], .inr ⟨g, cap, cur.setIfInBounds i (.int .u8 y), by rw [e3], hg, heap_set hh _, hn', hc', by simpa using hcs', ?_⟩⟩
      rw [Array.toList_setIfInBounds, List.take_set, htk, List.map_set]
      congr 1
      unfold bV
      have : (UInt8.ofNat y.toNat).toNat = y.toNat := by rw [UInt8.toNat_ofNat']; omega
      rw [this]
      congr 1
      omega

set_option maxHeartbeats 4000000 in
set_option maxRecDepth 100000 in
theorem one_4_ok {w : World} {r c s : Nat} {v : Value} {bs : List UInt8} {p : Nat} (h : Pair w r c s v bs p 0) (n : Int) (hm1 : -9223372036854775808 ≤ n) (hm2 : n ≤ 9223372036854775807) :
    Calls Try.prog 21 #[.pointer (some ⟨r, 0, none⟩), .pointer (some ⟨s, 0, none⟩), .agg #[.int .i64 4, .int .i64 n]] w (OnePost w r c s v bs 0) := by
  have HP := Lib.hid (h.below (bw_alloc w (.cells #[.int .i64 4, .int .i64 n] 46)))
  have HM1 := Lib.hid hm1; have HM2 := Lib.hid hm2
  have HRL := Lib.hid h.rd.ltr
  have HSL := Lib.hid (lt_of_heap h.rf.blk)
  have HCL := Lib.hid h.rd.lt
  have HVL := Lib.hid h.rf.vlt
  have HBX : Hid (∀ w1, Moves (fun b => b = r) (w.alloc (.cells #[.int .i64 4, .int .i64 n] 46)) w1 → w1.cell? ⟨w.heap.size, 1, none⟩ = some (.int .i64 n)) := fun w1 hm => by
    have hr := h.rd.ltr
    have h1 := hm.block w.heap.size (by simp) (by intro e; rw [e] at hr; exact Nat.lt_irrefl _ hr)
    exact cell_of (h1.trans (heap_new w _)) rfl
  clear h hm1 hm2
  go_enter Try.func21, Try.ntmps21
  go_wp2_with fail
  refine (call_B HP.out.rd n HM1.out HM2.out).mono ?_
  rintro e w1 ⟨x, rfl, hm, hcase⟩
  have HM := Lib.hid hm
  have HF := Lib.hid (HP.out.rf.movedR hm HP.out.rs HP.out.vr)
  have b1 := HBX.out w1 hm
  clear hm
  rcases hcase with ⟨k, ⟨hok, hkn, hrow⟩, hrd⟩ | ⟨hno, rfl, hrd⟩
  · have HOK := Lib.hid hok; have HR := Lib.hid hrd; have HROW := Lib.hid hrow
    subst hkn
    obtain ⟨xo, xn, xc, rfl⟩ := row_form hrow
    obtain rfl : xn = k := row_len hrow rfl
    clear hok hrd hrow
    go_wp2_with fail
    refine (refBytes_ok HF.out _ HM1.out HM2.out).mono ?_
    rintro e w2 ⟨y, rfl, hm, ⟨_, m, hmn, hrf, hys⟩ | ⟨hno, _⟩⟩
    · obtain rfl : m = xn := by omega
      have HST := Lib.hid (HP.out.step HM.out (by rw [← List.drop_drop]; exact HR.out) hm hrf (.inl rfl))
      have HYS := Lib.hid hys
      have HROW2 : Hid (w2.ownsRow (w.heap.size + 1) 5 1 (.slice xo m xc) m (((bs.drop p).take m).map bV)) := by
        have h0 := HROW.out
        rw [show (w.alloc (.cells #[.int .i64 4, .int .i64 (m : Int)] 46)).heap.size = w.heap.size + 1 by simp] at h0
        refine row_keep h0 fun a n' c' e => ?_
        have h8 := row_base' h0 a n' c' e
        have h9 := row_lt h0 e
        exact hm.block _ h9 (by intro e2; rw [e2] at h8; have := HSL.out; omega)
      clear hm hmn hrf hys
      go_wp2_with fail
      refine (bytes_true (Src.of_row HROW2.out) HYS.out).mono ?_
      rintro e w3 ⟨rfl, nn, rfl⟩
      have HML : Hid ((m : Int) ≤ 9223372036854775807) := HM2.out
      have hml := HML.out
      clear b1
      go_wp2
      go_loopw [9] (fun i wr => ∃ k : Nat, k ≤ m ∧ i = .int .i64 (k : Int) ∧ (∃ zs : List UInt8, wr.ownsRow (w.heap.size + 1) 5 1 (.slice xo m xc) m (zs.map bV)) ∧ Pair wr r c s v bs (p + m) 0 ∧ Moves (RS r s) w wr) (fun i _ => m - (intOf i).toNat)
      case atStart =>
        have hbw := drewN_below w2 nn
        exact ⟨0, Nat.zero_le _, rfl, ⟨_, row_keep HROW2.out (fun a n' c' e => hbw.block _ (row_lt HROW2.out e))⟩, HST.out.1.below hbw, moves_alloc_rs (moves_drewN HST.out.2 nn)⟩
      case round =>
        obtain ⟨k, hk, rfl, ⟨zs, hz⟩, hpair, hmv⟩ := hrel
        have HZ := Lib.hid hz; have HPR := Lib.hid hpair; have HMV := Lib.hid hmv
        clear hz hpair hmv
        by_cases hlt : k < m
        · obtain ⟨g, hxo, hg, ⟨x, hx0, hx1, hcx⟩, hfx, _⟩ := row_set_cell HZ.out hlt 0 (by decide) (by decide)
          subst hxo
          have HS : Hid (∀ y : Int, 0 ≤ y → y < 256 → (wr.setCell ⟨g, k, none⟩ (.int .u8 y)).ownsRow (w.heap.size + 1) 5 1 (.slice (some ⟨g, 0, none⟩) m xc) m ((zs.set k (UInt8.ofNat y.toNat)).map bV)) := fun y h0 h1 => by
            obtain ⟨g', e1, _, _, _, h9⟩ := row_set_cell HZ.out hlt y h0 h1
            cases e1
            exact h9
          have HG := Lib.hid hg
          have hki : (0 : Int) ≤ (k : Int) := by omega
          have hki2 : (k : Int) < (m : Int) := by omega
          clear hg
          go_wp2
          go_roundw
          case rel =>
            have hms : ∀ y, Moves (fun b => b = g) wr (wr.setCell ⟨g, k, none⟩ y) := fun y => Moves.setCell (F := fun b => b = g) (Moves.refl _ _) (fun _ => rfl) _
            have hgr : ¬ r = g := by have := HRL.out; have := HG.out; omega
            have hgs : ¬ s = g := by have := HSL.out; have := HG.out; omega
            refine ⟨k + 1, by omega, by go_num, ⟨_, HS.out _ (by omega) (by omega)⟩, HPR.out.moved (hms _) hgr (by have := HCL.out; have := HG.out; omega) hgs (fun hne a n' k' e => by have := HVL.out hne a n' k' e; have := HG.out; omega), HMV.out.trans (G := fun b => b = g) (hms _) (fun i hi e => by have := HG.out; omega)⟩
          case measure => simp [intOf]; omega
        · go_wp2
          go_ret
          exact ⟨rfl, p + m, 0, HPR.out, HMV.out, fun h => absurd h (by decide)⟩
    · exact absurd HOK.out hno
  · have HNO := Lib.hid hno; have HR := Lib.hid hrd
    clear hno hrd
    go_wp2_with fail
    refine (refBytes_ok HF.out _ HM1.out HM2.out).mono ?_
    rintro e w2 ⟨y, rfl, hm, ⟨hok, _⟩ | ⟨_, rfl, hrf⟩⟩
    · exact absurd hok HNO.out
    · have HST := Lib.hid (HP.out.step HM.out HR.out hm hrf (.inr rfl))
      clear hm hrf
      go_wp2_with fail
      refine (bytes_true (l := []) (Src.nil _) (Src.nil _)).mono ?_
      rintro e w3 ⟨rfl, nn, rfl⟩
      clear b1
      go_wp2
      refine wp_loop_rounds 1 ?_
      rw [rounds_succ]
      go_wp2
      go_ret
      exact ⟨rfl, p, 20, HST.out.1.below (drewN_below _ _), moves_alloc_rs (moves_drewN HST.out.2 nn), fun h => absurd h (by decide)⟩

set_option maxHeartbeats 2000000 in
theorem one_4_bad {w : World} {r c s : Nat} {v : Value} {bs : List UInt8} {p : Nat} (h : Pair w r c s v bs p 20) (n : Int) :
    Calls Try.prog 21 #[.pointer (some ⟨r, 0, none⟩), .pointer (some ⟨s, 0, none⟩), .agg #[.int .i64 4, .int .i64 n]] w (OnePost w r c s v bs 20) := by
  have HP := Lib.hid (h.below (bw_alloc w (.cells #[.int .i64 4, .int .i64 n] 46)))
  have HBX : Hid (∀ w1, BW (w.alloc (.cells #[.int .i64 4, .int .i64 n] 46)) w1 → w1.cell? ⟨w.heap.size, 1, none⟩ = some (.int .i64 n)) := fun w1 hm => by
    exact cell_of ((hm.block w.heap.size (by simp)).trans (heap_new w _)) rfl
  obtain ⟨vv, g1, _, _⟩ := HP.out.rd.ex
  have G1 := Lib.hid g1
  clear h g1
  go_enter Try.func21, Try.ntmps21
  go_wp2_with fail
  refine (call_B_bad G1.out rfl n).mono ?_
  rintro e w1 ⟨rfl, hb⟩
  have HB := Lib.hid hb; have HP1 := Lib.hid (HP.out.below hb); have b1 := HBX.out w1 hb
  clear hb
  go_wp2_with fail
  refine (refBytes_bad HP1.out.rf rfl n).mono ?_
  rintro e w2 ⟨rfl, rfl⟩
  go_wp2_with fail
  refine (bytes_true (l := []) (Src.nil _) (Src.nil _)).mono ?_
  rintro e w3 ⟨rfl, nn, rfl⟩
  clear b1
  go_wp2
  refine wp_loop_rounds 1 ?_
  rw [rounds_succ]
  go_wp2
  go_ret
  exact ⟨rfl, p, 20, HP1.out.below (drewN_below _ _), moves_bw (((bw_alloc w _).trans HB.out).trans (drewN_below _ _)) (Moves.refl _ _), fun _ => rfl⟩
set_option maxHeartbeats 2000000 in
theorem one_4_nil {w : World} (n : Int) :
    Calls Try.prog 21 #[.pointer none, .pointer none, .agg #[.int .i64 4, .int .i64 n]] w (TruePost w) := by
  have HBX : Hid (∀ w1, BW (w.alloc (.cells #[.int .i64 4, .int .i64 n] 46)) w1 → w1.cell? ⟨w.heap.size, 1, none⟩ = some (.int .i64 n)) := fun w1 hm => by
    exact cell_of ((hm.block w.heap.size (by simp)).trans (heap_new w _)) rfl
  go_enter Try.func21, Try.ntmps21
  go_wp2_with fail
  refine (call_B_nil n).mono ?_
  rintro e w1 ⟨rfl, hb⟩
  have HB := Lib.hid hb; have b1 := HBX.out w1 hb
  clear hb
  go_wp2_with fail
  refine (refBytes_nil n).mono ?_
  rintro e w2 ⟨rfl, rfl⟩
  go_wp2_with fail
  refine (bytes_true (l := []) (Src.nil _) (Src.nil _)).mono ?_
  rintro e w3 ⟨rfl, nn, rfl⟩
  clear b1
  go_wp2
  refine wp_loop_rounds 1 ?_
  rw [rounds_succ]
  go_wp2
  go_ret
  exact ⟨rfl, ((bw_alloc w _).trans HB.out).trans (drewN_below _ _)⟩

end Go.Proofs.Ythepoplekabcoaa
