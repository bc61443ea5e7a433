/- Stage 7, the program: a key's bytes, put into a builder. -/
import Derived.Test.YtghghekdheeknaaDoorOrdA
namespace Go.Proofs.YtghghekdheeknaaDoor
open Go.RowKit Go.Maps Odr Go.Shelf
attribute [local go_sem] Oper.semAt_some

theorem xor_low {x : Nat} (h : x < 9223372036854775808) : x ^^^ 9223372036854775808 = 9223372036854775808 + x := by
  apply Nat.eq_of_testBit_eq
  intro i
  rw [Nat.testBit_xor, show (9223372036854775808 : Nat) = 2 ^ 63 from rfl]
  rcases Nat.lt_trichotomy i 63 with h1 | h1 | h1
  · rw [Nat.testBit_two_pow_of_ne (by omega), Nat.testBit_two_pow_add_gt h1, Bool.xor_false]
  · subst h1
    rw [Nat.testBit_two_pow_self, Nat.testBit_two_pow_add_eq]; simp
  · have h64 : 2 ^ 63 + x < 2 ^ 64 := by omega
    have e1 : (2 ^ 63 + x).testBit i = false := Nat.testBit_lt_two_pow (Nat.lt_of_lt_of_le h64 (Nat.pow_le_pow_right (by decide) (by omega)))
    have e2 : x.testBit i = false := Nat.testBit_lt_two_pow (Nat.lt_of_lt_of_le h (show (9223372036854775808 : Nat) ≤ 2 ^ i from (show (9223372036854775808 : Nat) = 2 ^ 63 from rfl) ▸ Nat.pow_le_pow_right (by decide) (by omega)))
    rw [e1, e2, Nat.testBit_two_pow_of_ne (by omega)]; rfl
theorem xor_sign {x : Nat} (h : x < 18446744073709551616) : x ^^^ 9223372036854775808 = (x + 9223372036854775808) % 18446744073709551616 := by
  by_cases h1 : x < 9223372036854775808
  · rw [xor_low h1, Nat.mod_eq_of_lt (by omega), Nat.add_comm]
  · obtain ⟨r, rfl⟩ : ∃ r, x = 9223372036854775808 + r := ⟨x - 9223372036854775808, by omega⟩
    rw [← xor_low (by omega), Nat.xor_assoc, Nat.xor_self, Nat.xor_zero, xor_low (by omega)]; omega
theorem num_xor {n : Int} (h0 : -9223372036854775808 ≤ n) (h1 : n ≤ 9223372036854775807) : bits .xor .u64 (IntKind.u64.wrap n) 9223372036854775808 = (off n : Int) ∧ off n < 18446744073709551616 := by
  obtain ⟨x, hx⟩ : ∃ x : Nat, (x : Int) = IntKind.u64.wrap n := ⟨(IntKind.u64.wrap n).toNat, by rw [IntKind.wrap_u64]; omega⟩
  have hxl : x < 18446744073709551616 := by rw [IntKind.wrap_u64] at hx; omega
  have ho : off n = (x + 9223372036854775808) % 18446744073709551616 := by
    unfold off; rw [IntKind.wrap_u64] at hx; omega
  refine ⟨?_, by rw [ho]; omega⟩
  rw [← hx]
  have := u64_xor_nat x 9223372036854775808 hxl (by decide)
  rw [show ((9223372036854775808 : Nat) : Int) = 9223372036854775808 from rfl] at this
  rw [this, xor_sign hxl, ho]
theorem wb_cast {B b : Nat} {l : List UInt8} {W : World} (h : ∀ c : UInt8, Calls Tryd.prog 82 #[.pointer (some ⟨b, 0, none⟩), .int .u8 (c.toNat : Int)] W fun e w' => e = .returned .nilIface ∧ Bld B b (l ++ [c]) w' ∧ RowKit.Below B W w' ∧ Oth b W w') {v : Int} {k : Nat} (hv : v = ((k % 256 : Nat) : Int)) :
    Calls Tryd.prog 82 #[.pointer (some ⟨b, 0, none⟩), .int .u8 v] W fun e w' => e = .returned .nilIface ∧ Bld B b (l ++ [UInt8.ofNat (k % 256)]) w' ∧ RowKit.Below B W w' := by
  have := h (UInt8.ofNat (k % 256))
  rw [u8n' (Nat.mod_lt _ (by decide)), ← hv] at this
  exact this.mono fun e w' ⟨h1, h2, h3, _⟩ => ⟨h1, h2, h3⟩
def BldPost (w : World) (B b : Nat) (l : List UInt8) (e : Ending) (w' : World) : Prop := e = .returned (.tuple #[]) ∧ Bld B b l w' ∧ RowKit.Below B w w'
set_option maxRecDepth 100000 in
set_option maxHeartbeats 1000000 in
theorem putNumber_any (B b : Nat) (l : List UInt8) (n : Int) (h0 : -9223372036854775808 ≤ n) (h1 : n ≤ 9223372036854775807) (w : World) (h : Bld B b l w) (hlen : l.length + 8 ≤ 140737488355328) (hBw : B ≤ w.heap.size) :
    Calls Tryd.prog 58 #[.pointer (some ⟨b, 0, none⟩), .int .i64 n] w (BldPost w B b (l ++ be 8 (off n))) := by
  obtain ⟨hx, hol⟩ := num_xor h0 h1
  generalize off n = u at hx hol ⊢
  have HW := Lib.hid (fun (m : List UInt8) (c : UInt8) (W : World) (h : Bld B b m W) (hm : m.length + 1 ≤ 140737488355328) (hs : B ≤ W.heap.size) => writeByte_any B b m c W h hm hs)
  have H := Lib.hid h
  have HL := Lib.hid hlen
  have HB := Lib.hid hBw
  clear h hlen hBw
  go_enter Tryd.func58, Tryd.ntmps58
  go_wp2
  go_loopw [9] (fun s9 wr => ∃ (i : Nat), i ≤ 8 ∧ s9 = .int .i64 (i : Int) ∧ Bld B b (l ++ (be 8 u).take i) wr ∧ RowKit.Below B w wr) (fun s9 _ => 8 - (intOf s9).toNat)
  case atStart => exact ⟨0, by omega, rfl, by rw [List.take_zero, List.append_nil]; exact H.out, RowKit.Below.refl _ _⟩
  case round =>
    obtain ⟨i, hi, rfl, hbl, hbel⟩ := hrel
    have HBL := Lib.hid hbl
    have HBE := Lib.hid hbel
    clear hbl hbel
    by_cases hlt : i < 8
    · have hlti : (i : Int) < 8 := by omega
      have HLEN : Hid ((l ++ (be 8 u).take i).length + 1 ≤ 140737488355328) := by
        unfold Hid; rw [List.length_append, List.length_take, be_len]; have := HL.out; omega
      have HS : Hid (B ≤ wr.heap.size) := Nat.le_trans HB.out HBE.out.size
      have HWW := Lib.hid (fun c => HW.out _ c wr HBL.out HLEN.out HS.out)
      have HT : Hid (∀ j, j < 8 → (be 8 u).take (j + 1) = (be 8 u).take j ++ [UInt8.ofNat (u / 256 ^ (7 - j) % 256)]) := fun j hj => by
        simp only [be]
        rcases (show j = 0 ∨ j = 1 ∨ j = 2 ∨ j = 3 ∨ j = 4 ∨ j = 5 ∨ j = 6 ∨ j = 7 by omega) with rfl | rfl | rfl | rfl | rfl | rfl | rfl | rfl <;> rfl
      clear hx HLEN HW
      rcases (show i = 0 ∨ i = 1 ∨ i = 2 ∨ i = 3 ∨ i = 4 ∨ i = 5 ∨ i = 6 ∨ i = 7 by omega) with rfl | rfl | rfl | rfl | rfl | rfl | rfl | rfl
      · go_wp2_with fail
        refine (wb_cast HWW.out (k := u / 256 ^ (7 - 0)) (by simp only [Nat.reduceSub, Nat.reducePow]; first | omega | (rw [IntKind.wrap_u8]; omega))).mono ?_
        rintro e w2 ⟨rfl, h2, h3⟩
        have H2 : Hid (Bld B b (l ++ (be 8 u).take (0 + 1)) w2) := by unfold Hid; rw [HT.out 0 (by decide), ← List.append_assoc]; exact h2
        have H3 := Lib.hid h3
        clear h2 h3 HT HWW
        go_wp2
        go_roundw
        case rel => exact ⟨0 + 1, by decide, rfl, H2.out, RowKit.Below.trans HBE.out H3.out⟩
        case measure => simp [intOf]
      · go_wp2_with fail
        refine (wb_cast HWW.out (k := u / 256 ^ (7 - 1)) (by simp only [Nat.reduceSub, Nat.reducePow]; first | omega | (rw [IntKind.wrap_u8]; omega))).mono ?_
        rintro e w2 ⟨rfl, h2, h3⟩
        have H2 : Hid (Bld B b (l ++ (be 8 u).take (1 + 1)) w2) := by unfold Hid; rw [HT.out 1 (by decide), ← List.append_assoc]; exact h2
        have H3 := Lib.hid h3
        clear h2 h3 HT HWW
        go_wp2
        go_roundw
        case rel => exact ⟨1 + 1, by decide, rfl, H2.out, RowKit.Below.trans HBE.out H3.out⟩
        case measure => simp [intOf]
      · go_wp2_with fail
        refine (wb_cast HWW.out (k := u / 256 ^ (7 - 2)) (by simp only [Nat.reduceSub, Nat.reducePow]; first | omega | (rw [IntKind.wrap_u8]; omega))).mono ?_
        rintro e w2 ⟨rfl, h2, h3⟩
        have H2 : Hid (Bld B b (l ++ (be 8 u).take (2 + 1)) w2) := by unfold Hid; rw [HT.out 2 (by decide), ← List.append_assoc]; exact h2
        have H3 := Lib.hid h3
        clear h2 h3 HT HWW
        go_wp2
        go_roundw
        case rel => exact ⟨2 + 1, by decide, rfl, H2.out, RowKit.Below.trans HBE.out H3.out⟩
        case measure => simp [intOf]
      · go_wp2_with fail
        refine (wb_cast HWW.out (k := u / 256 ^ (7 - 3)) (by simp only [Nat.reduceSub, Nat.reducePow]; first | omega | (rw [IntKind.wrap_u8]; omega))).mono ?_
        rintro e w2 ⟨rfl, h2, h3⟩
        have H2 : Hid (Bld B b (l ++ (be 8 u).take (3 + 1)) w2) := by unfold Hid; rw [HT.out 3 (by decide), ← List.append_assoc]; exact h2
        have H3 := Lib.hid h3
        clear h2 h3 HT HWW
        go_wp2
        go_roundw
        case rel => exact ⟨3 + 1, by decide, rfl, H2.out, RowKit.Below.trans HBE.out H3.out⟩
        case measure => simp [intOf]
      · go_wp2_with fail
        refine (wb_cast HWW.out (k := u / 256 ^ (7 - 4)) (by simp only [Nat.reduceSub, Nat.reducePow]; first | omega | (rw [IntKind.wrap_u8]; omega))).mono ?_
        rintro e w2 ⟨rfl, h2, h3⟩
        have H2 : Hid (Bld B b (l ++ (be 8 u).take (4 + 1)) w2) := by unfold Hid; rw [HT.out 4 (by decide), ← List.append_assoc]; exact h2
        have H3 := Lib.hid h3
        clear h2 h3 HT HWW
        go_wp2
        go_roundw
        case rel => exact ⟨4 + 1, by decide, rfl, H2.out, RowKit.Below.trans HBE.out H3.out⟩
        case measure => simp [intOf]
      · go_wp2_with fail
        refine (wb_cast HWW.out (k := u / 256 ^ (7 - 5)) (by simp only [Nat.reduceSub, Nat.reducePow]; first | omega | (rw [IntKind.wrap_u8]; omega))).mono ?_
        rintro e w2 ⟨rfl, h2, h3⟩
        have H2 : Hid (Bld B b (l ++ (be 8 u).take (5 + 1)) w2) := by unfold Hid; rw [HT.out 5 (by decide), ← List.append_assoc]; exact h2
        have H3 := Lib.hid h3
        clear h2 h3 HT HWW
        go_wp2
        go_roundw
        case rel => exact ⟨5 + 1, by decide, rfl, H2.out, RowKit.Below.trans HBE.out H3.out⟩
        case measure => simp [intOf]
      · go_wp2_with fail
        refine (wb_cast HWW.out (k := u / 256 ^ (7 - 6)) (by simp only [Nat.reduceSub, Nat.reducePow]; first | omega | (rw [IntKind.wrap_u8]; omega))).mono ?_
        rintro e w2 ⟨rfl, h2, h3⟩
        have H2 : Hid (Bld B b (l ++ (be 8 u).take (6 + 1)) w2) := by unfold Hid; rw [HT.out 6 (by decide), ← List.append_assoc]; exact h2
        have H3 := Lib.hid h3
        clear h2 h3 HT HWW
        go_wp2
        go_roundw
        case rel => exact ⟨6 + 1, by decide, rfl, H2.out, RowKit.Below.trans HBE.out H3.out⟩
        case measure => simp [intOf]
      · go_wp2_with fail
        refine (wb_cast HWW.out (k := u / 256 ^ (7 - 7)) (by simp only [Nat.reduceSub, Nat.reducePow]; first | omega | (rw [IntKind.wrap_u8]; omega))).mono ?_
        rintro e w2 ⟨rfl, h2, h3⟩
        have H2 : Hid (Bld B b (l ++ (be 8 u).take (7 + 1)) w2) := by unfold Hid; rw [HT.out 7 (by decide), ← List.append_assoc]; exact h2
        have H3 := Lib.hid h3
        clear h2 h3 HT HWW
        go_wp2
        go_roundw
        case rel => exact ⟨7 + 1, by decide, rfl, H2.out, RowKit.Below.trans HBE.out H3.out⟩
        case measure => simp [intOf]
    · obtain rfl : i = 8 := by omega
      have HE : Hid (Bld B b (l ++ be 8 u) wr) := by
        have := HBL.out
        rwa [List.take_of_length_le (by rw [be_len]; exact Nat.le_refl _)] at this
      clear hlt hi HBL
      go_wp2
      exact bodyPost_ret (v := .tuple #[]) (by simp [results, Tryd.results58, go_sem]) rfl ⟨rfl, HE.out, HBE.out⟩
theorem esc_append : ∀ (a b : List UInt8), esc (a ++ b) = esc a ++ esc b
  | [], b => rfl
  | c :: a, b => by
    rw [List.cons_append, esc, esc, esc_append a b]
    by_cases h : c.toNat = 0
    · rw [if_pos h, if_pos h]; rfl
    · rw [if_neg h, if_neg h]; rfl
theorem esc_len : ∀ (a : List UInt8), (esc a).length ≤ 2 * a.length
  | [] => Nat.le_refl _
  | c :: a => by
    have := esc_len a
    rw [esc]; split <;> simp <;> omega
theorem esc_take {t : List UInt8} {k : Nat} (h : k < t.length) : esc (t.take (k + 1)) = esc (t.take k) ++ (if t[k].toNat = 0 then [0, 255] else [t[k]]) := by
  rw [List.take_add_one, List.getElem?_eq_getElem h, Option.toList_some, esc_append]
  congr 1
theorem below_size {B : Nat} {w w' : World} (h : RowKit.Below B w w') : w.heap.size ≤ w'.heap.size := h.size
set_option maxRecDepth 100000 in
set_option maxHeartbeats 1000000 in
theorem putText_any (B b : Nat) (l t : List UInt8) (w : World) (h : Bld B b l w) (hlen : l.length + 2 * t.length + 2 ≤ 140737488355328) (hBw : B ≤ w.heap.size) :
    Calls Tryd.prog 59 #[.pointer (some ⟨b, 0, none⟩), textV t] w (BldPost w B b (l ++ (esc t ++ [0, 1]))) := by
  obtain ⟨tx, htx⟩ : ∃ tx, tx = ByteArray.mk t.toArray := ⟨_, rfl⟩
  have hts : tx.size = t.length := by rw [htx]; exact text_size t
  have hTv : textV t = .string tx := by rw [htx]; rfl
  have hsz : (tx.size : Int) ≤ 140737488355328 := by omega
  have HW := Lib.hid (fun (m : List UInt8) (c : UInt8) (W : World) (h : Bld B b m W) (hm : m.length + 1 ≤ 140737488355328) (hs : B ≤ W.heap.size) => writeByte_any B b m c W h hm hs)
  have HWS := Lib.hid (fun (m : List UInt8) (W : World) (h : Bld B b m W) (hm : m.length + 2 ≤ 140737488355328) (hs : B ≤ W.heap.size) => writeString_any B b m [0, 1] W h hm hs)
  have H := Lib.hid h
  have HL := Lib.hid hlen
  have HB := Lib.hid hBw
  have HTX := Lib.hid htx; have HTS := Lib.hid hts
  rw [hTv]
  clear h hlen hBw htx hts hTv
  go_enter Tryd.func59, Tryd.ntmps59
  go_wp2
  go_loopw [8] (fun s8 wr => ∃ (k : Nat), k ≤ tx.size ∧ s8 = .int .i64 (k : Int) ∧ Bld B b (l ++ esc (t.take k)) wr ∧ RowKit.Below B w wr) (fun s8 _ => tx.size - (intOf s8).toNat)
  case atStart => exact ⟨0, Nat.zero_le _, rfl, by rw [List.take_zero, esc, List.append_nil]; exact H.out, RowKit.Below.refl _ _⟩
  case round =>
    obtain ⟨k, hk, rfl, hbl, hbel⟩ := hrel
    have HBL := Lib.hid hbl
    have HBE := Lib.hid hbel
    clear hbl hbel
    have hk0 : 0 ≤ (k : Int) := by omega
    have HS : Hid (B ≤ wr.heap.size) := Nat.le_trans HB.out HBE.out.size
    by_cases hlt : k < tx.size
    · have hki : (k : Int) < (tx.size : Int) := by omega
      have hkl : k < t.length := by have := HTS.out; omega
      obtain ⟨c, hc⟩ : ∃ c, c = t[k] := ⟨_, rfl⟩
      have hxi : ((tx[k]'hlt).toNat : Int) = (c.toNat : Int) := by
        rw [hc]; have := HTX.out; subst this; rfl
      have HNX : Hid (esc (t.take (k + 1)) = esc (t.take k) ++ (if c.toNat = 0 then [0, 255] else [c])) := by unfold Hid; rw [esc_take hkl, hc]
      have HLEN : Hid ((l ++ esc (t.take k)).length + 2 ≤ 140737488355328) := by
        unfold Hid
        have h1 := esc_len (t.take k)
        rw [List.length_take] at h1
        rw [List.length_append]; have := HL.out; have := HTS.out; omega
      have HLT := Lib.hid hlt
      by_cases h0 : c.toNat = 0
      · have HN : Hid (esc (t.take (k + 1)) = esc (t.take k) ++ [0, 255]) := by unfold Hid; rw [HNX.out, if_pos h0]
        have hx0 : ((tx[k]'hlt).toNat : Int) = 0 := by rw [hxi, h0]; rfl
        have HW1 := Lib.hid (HW.out _ 0 wr HBL.out (by have := HLEN.out; omega) HS.out)
        clear hxi HNX hc h0 hk hkl
        go_wp2_with fail
        refine HW1.out.mono ?_
        rintro e w2 ⟨rfl, h2, h3, _⟩
        have HW2 := Lib.hid (HW.out _ 255 w2 h2 (by have := HLEN.out; simp at this ⊢; omega) (Nat.le_trans HS.out h3.size))
        have H3 := Lib.hid h3
        clear h2 h3 HW1
        go_wp2_with fail
        refine HW2.out.mono ?_
        rintro e w3 ⟨rfl, h4, h5, _⟩
        have H4 : Hid (Bld B b (l ++ esc (t.take (k + 1))) w3) := by unfold Hid; rw [HN.out]; simpa using h4
        have H5 := Lib.hid h5
        clear h4 h5 HW2
        go_wp2
        go_roundw
        case rel => exact ⟨k + 1, HLT.out, by first | rfl | go_num, H4.out, RowKit.Below.trans HBE.out (RowKit.Below.trans H3.out H5.out)⟩
        case measure => simp [intOf]; have := HLT.out; omega
      · have HN : Hid (esc (t.take (k + 1)) = esc (t.take k) ++ [c]) := by unfold Hid; rw [HNX.out, if_neg h0]
        have hx0 : ((c.toNat : Int) == 0) = false := by simp; exact fun e => h0 (by rw [e])
        have HW1 := Lib.hid (HW.out _ c wr HBL.out (by have := HLEN.out; omega) HS.out)
        clear HNX hc h0 hk hkl
        go_wp2_with fail
        refine HW1.out.mono ?_
        rintro e w3 ⟨rfl, h4, h5, _⟩
        have H4 : Hid (Bld B b (l ++ esc (t.take (k + 1))) w3) := by unfold Hid; rw [HN.out, ← List.append_assoc]; exact h4
        have H5 := Lib.hid h5
        clear h4 h5 HW1
        go_wp2
        go_roundw
        case rel => exact ⟨k + 1, HLT.out, by first | rfl | go_num, H4.out, RowKit.Below.trans HBE.out H5.out⟩
        case measure => simp [intOf]; have := HLT.out; omega
    · have hki : (tx.size : Int) ≤ (k : Int) := by omega
      have HE : Hid (Bld B b (l ++ esc t) wr) := by
        have := HBL.out
        rwa [List.take_of_length_le (by have := HTS.out; omega)] at this
      have HWF := Lib.hid (HWS.out _ wr HE.out (by rw [List.length_append]; have := esc_len t; have := HL.out; omega) HS.out)
      clear hlt hk HBL
      go_wp2_with fail
      refine HWF.out.mono ?_
      rintro e w2 ⟨rfl, h2, h3, _⟩
      have H2 : Hid (Bld B b (l ++ (esc t ++ [0, 1])) w2) := by unfold Hid; rw [← List.append_assoc]; exact h2
      have H3 := Lib.hid h3
      clear h2 h3 HWF
      go_wp2
      exact bodyPost_ret (v := .tuple #[]) (by simp [results, Tryd.results59, go_sem]) rfl ⟨rfl, H2.out, RowKit.Below.trans HBE.out H3.out⟩
theorem bld_alloc {B b : Nat} {l : List UInt8} {w : World} (h : Bld B b l w) (o : Obj) : Bld B b l (w.alloc o) := by
  have one : ∀ p, Lib.BuilderAtF 71 5 B b p (Lib.byteCells l) w → Lib.BuilderAtF 71 5 B b p (Lib.byteCells l) (w.alloc o) := by
    rintro p ⟨hB, x, hb, hown, hn⟩
    refine ⟨hB, x, (Below.heap_alloc _ _ _ (lt_of_heap hb)).trans hb, hown.kept (World.grownBy_alloc w o none) ?_, hn⟩
    cases hv : x.ownBlock with
    | none => exact .inl rfl
    | some g => exact .inr (fun e => by cases e)
  exact h.elim (fun x => .inl (one _ x)) (fun x => .inr (one _ x))
def KeyOk (k : PKey) : Prop := i64 k.kind ∧ i64 k.num
set_option maxRecDepth 100000 in
set_option maxHeartbeats 1000000 in
theorem putKey_any (B b : Nat) (l : List UInt8) (k : PKey) (hk : rightK k) (hn : i64 k.num) (w : World) (h : Bld B b l w) (hlen : l.length + 2 * k.text.length + 16 ≤ 140737488355328) (hBw : B ≤ w.heap.size) :
    Calls Tryd.prog 40 #[.pointer (some ⟨b, 0, none⟩), keyV k] w (BldPost w B b (l ++ oneK k)) := by
  obtain ⟨kk, kn, kt⟩ := k
  have hs1 : B ≤ (w.alloc (.cells #[.int .i64 kk, .int .i64 kn, textV kt] 45)).heap.size := by simp; omega
  have hb1 : Bld B b l (w.alloc (.cells #[.int .i64 kk, .int .i64 kn, textV kt] 45)) := bld_alloc h _
  have HBA : Hid (RowKit.Below B w (w.alloc (.cells #[.int .i64 kk, .int .i64 kn, textV kt] 45))) := (RowKit.Below.refl B w).alloc hBw _
  have hA : (w.alloc (.cells #[.int .i64 kk, .int .i64 kn, textV kt] 45)).heap[w.heap.size]? = some (.cells #[.int .i64 kk, .int .i64 kn, textV kt] 45) := heap_new w _
  have hBs : Hid (B ≤ w.heap.size) := hBw
  obtain ⟨W1, hW1⟩ : ∃ W1, W1 = w.alloc (.cells #[.int .i64 kk, .int .i64 kn, textV kt] 45) := ⟨_, rfl⟩
  rw [← hW1] at hs1 hb1 HBA hA
  have HW1 := Lib.hid hW1
  simp only at hlen
  have hl1 : l.length + 1 ≤ 140737488355328 := by omega
  have hone : ∀ x : UInt8, [x].length = 1 := fun _ => rfl
  have hnb : b ≠ w.heap.size := by
    have : b < w.heap.size := by rcases h with ⟨_, v, hb, _⟩ | ⟨_, v, hb, _⟩ <;> exact lt_of_heap hb
    omega
  obtain ⟨tx, htx⟩ : ∃ tx, tx = ByteArray.mk kt.toArray := ⟨_, rfl⟩
  have htv : textV kt = .string tx := by rw [htx]; rfl
  clear htx
  rcases hk with ⟨h1, h2, h3⟩ | ⟨h1, h2⟩ | ⟨h1, h2⟩
  · simp only at h1 h2 h3
    subst h1; subst h2; subst h3
    have HS := Lib.hid (writeString_any B b l [0] W1 hb1 hl1 hs1)
    unfold keyV
    dsimp only
    rw [htv] at HW1 ⊢
    clear h hlen hBw hb1 hs1 hl1 hA hn hW1 hnb
    go_enter Tryd.func40, Tryd.ntmps40
    go_wp2_with fail
    rw [← HW1.out]
    refine HS.out.mono ?_
    rintro e w2 ⟨rfl, h2, h3, _⟩
    have H2 : Hid (Bld B b (l ++ oneK ⟨0, 0, []⟩) w2) := h2
    have H3 := Lib.hid h3
    clear h2 h3 HS
    go_wp2
    exact bodyPost_ret (v := .tuple #[]) (by simp [results, Tryd.results40, go_sem]) rfl ⟨rfl, H2.out, RowKit.Below.trans HBA.out H3.out⟩
  · simp only at h1 h2
    subst h1; subst h2
    have HS := Lib.hid (writeString_any B b l [1] W1 hb1 hl1 hs1)
    have HA := Lib.hid hA
    have HNB := Lib.hid hnb
    have HLN := Lib.hid hlen
    have HS1 := Lib.hid hs1
    have HN := Lib.hid hn
    unfold keyV
    dsimp only
    rw [htv] at HA HW1 ⊢
    clear h hlen hBw hb1 hs1 hl1 hA hn hW1 hnb
    go_enter Tryd.func40, Tryd.ntmps40
    go_wp2_with fail
    rw [← HW1.out]
    refine HS.out.mono ?_
    rintro e w2 ⟨rfl, h2, h3, h4⟩
    have hA2 : w2.heap[w.heap.size]? = some (.cells #[.int .i64 1, .int .i64 kn, .string tx] 45) := h4 w.heap.size _ HA.out (fun e => HNB.out (Option.some.inj e).symm) (fun c fz e => by injection e with _ e2 _; exact absurd e2 (by decide))
    have c1 : w2.cell? ⟨w.heap.size, 1, none⟩ = some (.int .i64 kn) := cell_of hA2 rfl
    have c2 : w2.cell? ⟨w.heap.size, 2, none⟩ = some (.string tx) := cell_of hA2 rfl
    have HC := Lib.hid (putNumber_any B b (l ++ [1]) kn HN.out.1 HN.out.2 w2 h2 (by have := HLN.out; simp at this ⊢; omega) (Nat.le_trans HS1.out h3.size))
    have H3 := Lib.hid h3
    skip
    clear h2 h3 h4 hA2 HS
    go_wp2_with fail
    refine HC.out.mono ?_
    rintro e w3 ⟨rfl, h5, h6⟩
    have H5 : Hid (Bld B b (l ++ oneK ⟨1, kn, []⟩) w3) := by unfold Hid; rw [List.append_assoc] at h5; exact h5
    have H6 := Lib.hid h6
    clear h5 h6 HC c1 c2
    go_wp2
    exact bodyPost_ret (v := .tuple #[]) (by simp [results, Tryd.results40, go_sem]) rfl ⟨rfl, H5.out, RowKit.Below.trans HBA.out (RowKit.Below.trans H3.out H6.out)⟩
  · simp only at h1 h2
    subst h1; subst h2
    have HS := Lib.hid (writeString_any B b l [2] W1 hb1 hl1 hs1)
    have HA := Lib.hid hA
    have HNB := Lib.hid hnb
    have HLN := Lib.hid hlen
    have HS1 := Lib.hid hs1
    have HN := Lib.hid hn
    unfold keyV
    dsimp only
    rw [htv] at HA HW1 ⊢
    clear h hlen hBw hb1 hs1 hl1 hA hn hW1 hnb
    go_enter Tryd.func40, Tryd.ntmps40
    go_wp2_with fail
    rw [← HW1.out]
    refine HS.out.mono ?_
    rintro e w2 ⟨rfl, h2, h3, h4⟩
    have hA2 : w2.heap[w.heap.size]? = some (.cells #[.int .i64 2, .int .i64 0, .string tx] 45) := h4 w.heap.size _ HA.out (fun e => HNB.out (Option.some.inj e).symm) (fun c fz e => by injection e with _ e2 _; exact absurd e2 (by decide))
    have c1 : w2.cell? ⟨w.heap.size, 1, none⟩ = some (.int .i64 0) := cell_of hA2 rfl
    have c2 : w2.cell? ⟨w.heap.size, 2, none⟩ = some (.string tx) := cell_of hA2 rfl
    have HC := Lib.hid (putText_any B b (l ++ [2]) kt w2 h2 (by have := HLN.out; simp at this ⊢; omega) (Nat.le_trans HS1.out h3.size))
    have H3 := Lib.hid h3
    rw [htv] at HC
    clear h2 h3 h4 hA2 HS
    go_wp2_with fail
    refine HC.out.mono ?_
    rintro e w3 ⟨rfl, h5, h6⟩
    have H5 : Hid (Bld B b (l ++ oneK ⟨2, 0, kt⟩) w3) := by unfold Hid; rw [List.append_assoc] at h5; exact h5
    have H6 := Lib.hid h6
    clear h5 h6 HC c1 c2
    go_wp2
    exact bodyPost_ret (v := .tuple #[]) (by simp [results, Tryd.results40, go_sem]) rfl ⟨rfl, H5.out, RowKit.Below.trans HBA.out (RowKit.Below.trans H3.out H6.out)⟩
end Go.Proofs.YtghghekdheeknaaDoor
