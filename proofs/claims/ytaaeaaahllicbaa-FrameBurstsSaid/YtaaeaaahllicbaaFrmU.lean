/- FrameBack: the walk. -/
import Derived.Test.YtaaeaaahllicbaaFrmT
namespace Go.Proofs.Ytaaeaaahllicbaa
open Go.RowKit Go.Maps Crc

/-- what Seal answers, in one -/
def SealRes (w : World) (kind : UInt8) (ss : List (List UInt8)) (e : Ending) (w' : World) : Prop := ∃ (v : Value) (er : Int), e = .returned (.tuple #[v, .int .i64 er]) ∧ BW w w' ∧ ((∃ b, sealP kind ss = some b ∧ er = 0 ∧ w'.ownsRow w.heap.size 5 1 v b.length (b.map bV)) ∨ (sealP kind ss = none ∧ er = 3 ∧ v = .slice none 0 0))
theorem seal_len {kind : UInt8} {ss : List (List UInt8)} {b : List UInt8} (h : sealP kind ss = some b) : b.length ≤ 16777216 ∧ b = sealF kind ss := by
  unfold sealP at h
  split at h
  · cases h
  · rename_i hn; cases h; exact ⟨by omega, rfl⟩
theorem seal_parts {kind : UInt8} {ss : List (List UInt8)} {b : List UInt8} (h : sealP kind ss = some b) : ss.length ≤ 1024 ∧ ∀ s ∈ ss, s.length ≤ 16777216 := by
  unfold sealP at h
  split at h
  · cases h
  · rename_i hn
    refine ⟨by omega, fun s hs => ?_⟩
    have h3 := sealF_len kind ss
    have h4 : s.length ≤ ss.flatten.length := by
      obtain ⟨a, b, rfl⟩ := List.append_of_mem hs
      simp; omega
    omega
theorem rows_nil (w : World) : SrcRows w (.slice none 0 0) [] := ⟨[], rfl, Src.nil w, fun i x s h => (by simp at h)⟩
theorem sizeU_mono (ss : List (List UInt8)) {i j : Nat} (h : i ≤ j) : sizeU ss i ≤ sizeU ss j := by
  unfold sizeU
  have h1 : ss.take i = (ss.take j).take i := by rw [List.take_take, Nat.min_eq_left h]
  rw [h1]
  generalize ss.take j = l
  have h2 : (l.map List.length).sum = ((l.take i).map List.length).sum + ((l.drop i).map List.length).sum := by
    rw [← List.sum_append, ← List.map_append, List.take_append_drop]
  omega

set_option maxHeartbeats 8000000 in
set_option maxRecDepth 100000 in
theorem frameBack_any {w : World} {kind : UInt8} {v1 v2 : Value} {ss : List (List UInt8)} {bs : List UInt8} (h1 : SrcRows w v1 ss) (hl : ∀ s ∈ ss, (s.length : Int) ≤ 140737488351232) (hn : (ss.length : Int) ≤ 9223372036854775807) (h2 : Src w v2 (bs.map bV)) (hb : (bs.length : Int) ≤ 140737488351232) : Calls Try.prog 6 #[bV kind, v1, v2] w (TruePost w) := by
  obtain ⟨a1, c1, rfl⟩ := h1.len
  obtain ⟨a2, c2, rfl⟩ := h2.len
  rw [List.length_map] at h2 ⊢
  obtain ⟨n, hnn⟩ : ∃ n, ss.length = n := ⟨_, rfl⟩
  obtain ⟨m, hmm⟩ : ∃ m, bs.length = m := ⟨_, rfl⟩
  rw [hnn] at h1 hn ⊢
  rw [hmm] at h2 ⊢
  obtain ⟨kv, hkv⟩ : ∃ kv, kv = bV kind := ⟨_, rfl⟩
  rw [← hkv]
  have H1 := Lib.hid h1; have H2 := Lib.hid h2; have HL := Lib.hid hl; have HB := Lib.hid hb; have HN := Lib.hid hnn; have HM := Lib.hid hmm; have HKV := Lib.hid hkv
  clear h1 h2 hl hb hnn hmm hkv
  go_enter Try.func6, Try.ntmps6
  go_wp2
  go_loopg [7, 8] n (fun g s7 s8 wx => ∃ (i z : Nat), i + g = n ∧ s8 = .int .i64 i ∧ s7 = .int .i64 (z : Int) ∧ z ≤ 140737488451232 ∧ z = sizeU ss i ∧ w = wx)
  case atStart => exact ⟨0, 0, by omega, rfl, rfl, by omega, rfl, rfl⟩
  case round =>
    obtain ⟨i, z, hig, rfl, rfl, hzb, hz, rfl⟩ := hrel
    have HIG := Lib.hid hig
    have HZ := Lib.hid hz
    clear hz
    have hz0 : 0 ≤ (z : Int) := by omega
    by_cases hend : 100000 ≤ z
    · have hd1 : decide ((z : Int) < 100000) = false := decide_eq_false (by omega)
      have hd2 : decide ((100000 : Int) ≤ (z : Int)) = true := decide_eq_true (by omega)
      have hd3 : decide (z < 100000) = false := decide_eq_false (by omega)
      have hd4 : decide (100000 ≤ z) = true := decide_eq_true hend
      by_cases hin : i < n
      · have hd5 : decide (i < n) = true := decide_eq_true hin
        clear hig hend hin
        go_wp2_with (first | (go_at_call 9; refine (awake_any _).mono ?_; rintro e w' ⟨rfl, hb⟩))
        go_ret
        exact ⟨rfl, hb⟩
      · have hd5 : decide (i < n) = false := decide_eq_false hin
        clear hig hend hin
        go_wp2_with (first | (go_at_call 9; refine (awake_any _).mono ?_; rintro e w' ⟨rfl, hb⟩))
        go_ret
        exact ⟨rfl, hb⟩
    have hd1 : decide ((z : Int) < 100000) = true := decide_eq_true (by omega)
    have hd2 : decide ((100000 : Int) ≤ (z : Int)) = false := decide_eq_false (by omega)
    have hd3 : decide (z < 100000) = true := decide_eq_true (by omega)
    have hd4 : decide (100000 ≤ z) = false := decide_eq_false hend
    cases gk with
    | succ g =>
      have hi : (i : Int) < (n : Int) := by omega
      have hd5 : decide (i < n) = true := decide_eq_true (by omega)
      have hi0 : (0 : Int) ≤ (i : Int) := by omega
      have hil : i < ss.length := by have := HN.out; omega
      obtain ⟨x, hx⟩ : ∃ x, x = ss[i] := ⟨_, rfl⟩
      obtain ⟨b0, off, xo, xc, rfl, hc0, hcl⟩ := H1.out.get (i := i) (s := x) (by rw [hx]; exact List.getElem?_eq_getElem hil)
      clear hcl
      have HSN := Lib.hid (sizeU_next hil)
      rw [← hx] at HSN
      obtain ⟨sl, hsl⟩ : ∃ sl, sl = x.length := ⟨_, rfl⟩
      have hslb : (sl : Int) ≤ 140737488351232 := by rw [hsl, hx]; exact HL.out _ (List.getElem_mem _)
      have hsl0 : 0 ≤ (sl : Int) := by omega
      have hsum : (z : Int) + (sl : Int) ≤ 140737488451232 := by omega
      rw [← hsl] at hc0 HSN
      clear hx hsl hil hig hend
      go_wp2
      go_roundg g
      case measure => omega
      case rel => exact ⟨i + 1, z + sl, by have := HIG.out; omega, by first | rfl | simp, by first | rfl | simp, by omega, by rw [HSN.out, HZ.out], rfl⟩
    | zero =>
      have hge : (n : Int) ≤ (i : Int) := by omega
      have hd5 : decide (i < n) = false := decide_eq_false (by omega)
      have hd5' : decide ((i : Int) < (n : Int)) = false := decide_eq_false (by omega)
      have HFEW : Hid (ss.flatten.length < 100000) := by
        have h3 := sizeU_all ss (i := i) (by have := HN.out; omega)
        have h4 := HZ.out
        unfold Hid; omega
      clear hig
      by_cases hmb : 100000 < m
      · have he1 : decide (100000 < m) = true := decide_eq_true hmb
        have he2 : decide ((100000 : Int) < (m : Int)) = true := decide_eq_true (by omega)
        clear hmb hend
        go_wp2_with (first | (go_at_call 9; refine (awake_any _).mono ?_; rintro e w' ⟨rfl, hb⟩))
        go_ret
        exact ⟨rfl, hb⟩
      have he1 : decide (100000 < m) = false := decide_eq_false hmb
      have he2 : decide ((100000 : Int) < (m : Int)) = false := decide_eq_false (by omega)
      have HMB : Hid (bs.length ≤ 16777216) := by have := HM.out; unfold Hid; omega
      clear hmb hend
      go_wp2_with fail
      refine (awake_any _).mono ?_
      rintro e w1 ⟨rfl, hb1⟩
      have HW1 := Lib.hid hb1
      have HSEAL := Lib.hid (seal_any (kind := kind) (H1.out.below hb1) HL.out (by have := HN.out; omega))
      rw [← HKV.out] at HSEAL
      clear hb1
      go_wp2_with fail
      refine HSEAL.out.mono ?_
      rintro e w2 ⟨vb, er, rfl, hb2, hcase⟩
      have HW2 : Hid (BW w w2) := HW1.out.trans hb2
      clear hb2
      rcases hcase with ⟨b, hs, rfl, ho⟩ | ⟨hs, rfl, rfl⟩
      · have hbl := (seal_len hs).1
        have HOS := Lib.hid (open_seal hs)
        have HC2 := Lib.hid (open_any (kind := kind) (Src.of_row ho) (by omega))
        rw [← HKV.out] at HC2
        obtain ⟨bo, bn, bc, rfl⟩ := row_form ho
        have HBL := Lib.hid hbl
        clear ho hs hbl
        go_wp2_with fail
        refine HC2.out.mono ?_
        rintro e w3 ⟨vl, er, rfl, hb3, ⟨h3, _⟩ | ⟨_, h3, _⟩ | ⟨_, ls, lv, h3, rfl, hbag⟩⟩
        case inl => have := HBL.out; omega
        case inr.inl => rw [HOS.out] at h3; cases h3
        rw [HOS.out] at h3
        injection h3 with h3
        subst h3
        have HR3 := Lib.hid hbag.rows
        have HW3 : Hid (BW w w3) := HW2.out.trans hb3
        obtain ⟨lo, ln, lc, rfl⟩ := row_form hbag.out
        clear hb3 hbag
        go_wp2_with fail
        refine (blocks_b HR3.out (H1.out.below HW3.out) (by have := HN.out; omega)).mono ?_
        rintro e w4 ⟨rfl, hb4⟩
        have HW4 : Hid (BW w w4) := HW3.out.trans hb4
        clear hb4
        have HC5 := Lib.hid (open_any (kind := kind) (H2.out.below HW4.out) HB.out)
        rw [← HKV.out] at HC5
        go_wp2_with fail
        refine HC5.out.mono ?_
        rintro e w5 ⟨vm, er, rfl, hb5, ⟨h5, _⟩ | ⟨_, h5, rfl, rfl⟩ | ⟨_, ms, mv, h5, rfl, hbag⟩⟩
        case inl => have := HMB.out; omega
        case inr.inl =>
          have HW5 : Hid (BW w w5) := HW4.out.trans hb5
          have HC6 := Lib.hid (seal_any (kind := kind) (rows_nil w5) (fun s h => (by cases h)) (by decide))
          rw [← HKV.out] at HC6
          clear hb5 h5
          go_wp2_with fail
          refine HC6.out.mono ?_
          rintro e w6 ⟨vc, er, rfl, hb6, _⟩
          have HW6 : Hid (BW w w6) := HW5.out.trans hb6
          clear hb6
          go_wp2
          go_ret
          exact ⟨rfl, HW6.out⟩
        have hsm := (open_some h5 HMB.out).2
        have HSM := Lib.hid hsm
        have HW5 : Hid (BW w w5) := HW4.out.trans hb5
        have hpt := seal_parts hsm
        have HC6 := Lib.hid (seal_any (kind := kind) hbag.rows (fun s h => by have := hpt.2 s h; omega) (by have := hpt.1; omega))
        rw [← HKV.out] at HC6
        obtain ⟨mo, mn, mc, rfl⟩ := row_form hbag.out
        clear hb5 hbag h5 hsm hpt
        go_wp2_with fail
        refine HC6.out.mono ?_
        rintro e w6 ⟨vc, er, rfl, hb6, ⟨b6, hs6, rfl, ho6⟩ | ⟨hs6, _⟩⟩
        case inr => rw [HSM.out] at hs6; cases hs6
        rw [HSM.out] at hs6
        injection hs6 with hs6
        subst hs6
        have HW6 : Hid (BW w w6) := HW5.out.trans hb6
        have HBY := Lib.hid (bytes_b (Src.of_row ho6) (H2.out.below HW6.out))
        obtain ⟨co, cn, cc, rfl⟩ := row_form ho6
        clear hb6 ho6
        go_wp2_with fail
        refine HBY.out.mono ?_
        rintro e w7 ⟨rfl, hb7⟩
        have HW7 : Hid (BW w w7) := HW6.out.trans hb7
        clear hb7
        go_wp2
        go_ret
        exact ⟨rfl, HW7.out⟩
      · have HC2 := Lib.hid (open_any (kind := kind) (bs := []) (Src.nil w2) (by decide))
        rw [← HKV.out] at HC2
        clear hs
        go_wp2_with fail
        refine HC2.out.mono ?_
        rintro e w3 ⟨vl, er, rfl, hb3, ⟨h3, _⟩ | ⟨_, _, rfl, rfl⟩ | ⟨_, ls, lv, h3, _⟩⟩
        case inl => exact absurd h3 (by decide)
        case inr.inr => rw [open_short (by decide)] at h3; cases h3
        have HW4 : Hid (BW w w3) := HW2.out.trans hb3
        clear hb3
        have HC5 := Lib.hid (open_any (kind := kind) (H2.out.below HW4.out) HB.out)
        rw [← HKV.out] at HC5
        go_wp2_with fail
        refine HC5.out.mono ?_
        rintro e w5 ⟨vm, er, rfl, hb5, ⟨h5, _⟩ | ⟨_, h5, rfl, rfl⟩ | ⟨_, ms, mv, h5, rfl, hbag⟩⟩
        case inl => have := HMB.out; omega
        case inr.inl =>
          have HW5 : Hid (BW w w5) := HW4.out.trans hb5
          have HC6 := Lib.hid (seal_any (kind := kind) (rows_nil w5) (fun s h => (by cases h)) (by decide))
          rw [← HKV.out] at HC6
          clear hb5 h5
          go_wp2_with fail
          refine HC6.out.mono ?_
          rintro e w6 ⟨vc, er, rfl, hb6, _⟩
          have HW6 : Hid (BW w w6) := HW5.out.trans hb6
          clear hb6
          go_wp2
          go_ret
          exact ⟨rfl, HW6.out⟩
        have hsm := (open_some h5 HMB.out).2
        have HSM := Lib.hid hsm
        have HW5 : Hid (BW w w5) := HW4.out.trans hb5
        have hpt := seal_parts hsm
        have HC6 := Lib.hid (seal_any (kind := kind) hbag.rows (fun s h => by have := hpt.2 s h; omega) (by have := hpt.1; omega))
        rw [← HKV.out] at HC6
        obtain ⟨mo, mn, mc, rfl⟩ := row_form hbag.out
        clear hb5 hbag h5 hsm hpt
        go_wp2_with fail
        refine HC6.out.mono ?_
        rintro e w6 ⟨vc, er, rfl, hb6, ⟨b6, hs6, rfl, ho6⟩ | ⟨hs6, _⟩⟩
        case inr => rw [HSM.out] at hs6; cases hs6
        rw [HSM.out] at hs6
        injection hs6 with hs6
        subst hs6
        have HW6 : Hid (BW w w6) := HW5.out.trans hb6
        have HBY := Lib.hid (bytes_b (Src.of_row ho6) (H2.out.below HW6.out))
        obtain ⟨co, cn, cc, rfl⟩ := row_form ho6
        clear hb6 ho6
        go_wp2_with fail
        refine HBY.out.mono ?_
        rintro e w7 ⟨rfl, hb7⟩
        have HW7 : Hid (BW w w7) := HW6.out.trans hb7
        clear hb7
        go_wp2
        go_ret
        exact ⟨rfl, HW7.out⟩
end Go.Proofs.Ytaaeaaahllicbaa
