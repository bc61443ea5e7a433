/- The document's Valid, Runes, Fold. -/
import Derived.Test.YthhdmpdnfelhnaaDoorFldC
import Derived.Lib.AppendStr
namespace Go.Proofs.YthhdmpdnfelhnaaDoor
open Go.RowKit Go.Maps Fld

theorem odd_head {l : List UInt8} (h : l ≠ []) : oddP ((nextL l).1, l.take (nextL l).2) = (decide ((nextL l).1 = 65533) && decide ((nextL l).2 = 1)) := by
  have hp := next_pos h
  unfold oddP
  have e : (l.take (nextL l).2).length = (nextL l).2 := by rw [List.length_take]; omega
  show ((nextL l).1 == 65533 && (l.take (nextL l).2).length == 1) = _
  rw [e]; rfl
theorem valid_step {l : List UInt8} (h : l ≠ []) : validL l = (!(decide ((nextL l).1 = 65533) && decide ((nextL l).2 = 1)) && validL (l.drop (nextL l).2)) := by
  unfold validL
  rw [cuts_step h, List.all_cons, odd_head h]
theorem drop_ne {l : List UInt8} {k : Nat} (h : k < l.length) : l.drop k ≠ [] := by
  intro e; have := congrArg List.length e; rw [List.length_drop] at this; simp at this; omega
theorem next_at {l : List UInt8} {k : Nat} (h : k < l.length) : 1 ≤ (nextL (l.drop k)).2 ∧ k + (nextL (l.drop k)).2 ≤ l.length ∧ (nextL (l.drop k)).2 ≤ 4 := by
  have := next_pos (drop_ne h)
  rw [List.length_drop] at this; omega
theorem next_rune {l : List UInt8} (h : l ≠ []) : (nextL l).1 ≤ 1114111 := by
  rcases split_head h with ⟨c, h1, _⟩ | ⟨h1, _⟩
  · rw [h1]; decide
  · exact (isRune_nat.1 h1).1

set_option maxHeartbeats 1000000 in
set_option maxRecDepth 100000 in
theorem refValid_any (l : List UInt8) (hl : (l.length : Int) ≤ 1000000000000000) (w : World) : Calls Tryd.prog 11 #[textV l] w (BoolPost w (validL l)) := by
  have HNX := Lib.hid (fun (k : Nat) (h : k < l.length) (W : World) => refNext_in h hl W)
  unfold textV at HNX ⊢
  obtain ⟨s, hs⟩ : ∃ s, s = ByteArray.mk l.toArray := ⟨_, rfl⟩
  have hsz : s.size = l.length := by rw [hs]; exact text_size l
  rw [← hs] at HNX ⊢
  have HSZ := Lib.hid hsz
  obtain ⟨n, hn⟩ : ∃ n, n = s.size := ⟨_, rfl⟩
  have hni : (s.size : Int) = (n : Int) := by rw [hn]
  have hnb : (n : Int) ≤ 1000000000000000 := by omega
  have HN := Lib.hid hn
  clear hs hsz hl hn
  go_enter Tryd.func11, Tryd.ntmps11
  go_wp2
  go_loopw [3] (fun s3 wx => ∃ k : Nat, k ≤ n ∧ s3 = .int .i64 (k : Int) ∧ validL l = validL (l.drop k) ∧ BW w wx) (fun s3 _ => n - (intOf s3).toNat)
  case atStart => exact ⟨0, Nat.zero_le _, rfl, by rw [List.drop_zero], BW.refl _⟩
  case round =>
    obtain ⟨k, hk, rfl, hv, hb⟩ := hrel
    have HV := Lib.hid hv
    have HB := Lib.hid hb
    have hk0 : 0 ≤ (k : Int) := by omega
    clear hv hb
    by_cases hlt : k < n
    · have hlti : (k : Int) < (n : Int) := by omega
      have d1 : decide (k < s.size) = true := decide_eq_true (by have := HN.out; omega)
      have hkl : k < l.length := by have := HN.out; have := HSZ.out; omega
      have HC := Lib.hid (HNX.out k hkl wr)
      have hp := next_at hkl
      have HVS := Lib.hid (valid_step (drop_ne hkl))
      rw [List.drop_drop] at HVS
      obtain ⟨r, hr⟩ : ∃ r, r = (nextL (l.drop k)).1 := ⟨_, rfl⟩
      obtain ⟨m, hm⟩ : ∃ m, m = (nextL (l.drop k)).2 := ⟨_, rfl⟩
      have HPQ : Hid (nextL (l.drop k) = (r, m)) := by unfold Hid; rw [hr, hm]
      rw [← hr, ← hm] at HVS
      rw [← hm] at hp
      rw [HPQ.out] at HC
      have hm1 : 1 ≤ (m : Int) := by omega
      have hkm : (k : Int) + (m : Int) ≤ (n : Int) := by have := HN.out; have := HSZ.out; omega
      have HKM := Lib.hid hkm
      have HLT := Lib.hid hlt
      clear hr hm hp hlt hk hkl
      go_wp2_with fail
      refine HC.out.mono ?_
      rintro e w1 ⟨rfl, hb1⟩
      have HB1 := Lib.hid (HB.out.trans hb1)
      clear hb1 HC
      by_cases h1 : r = 65533 ∧ m = 1
      · obtain ⟨rfl, rfl⟩ := h1
        have HF : Hid (validL l = false) := by unfold Hid; rw [HV.out, HVS.out]; rfl
        go_wp2
        go_ret
        exact ⟨by rw [HF.out]; rfl, HB1.out⟩
      · have HF : Hid (validL l = validL (l.drop (k + m))) := by
          unfold Hid; rw [HV.out, HVS.out]
          have : (decide (r = 65533) && decide (m = 1)) = false := by
            rw [Bool.and_eq_false_iff, decide_eq_false_iff_not, decide_eq_false_iff_not]; omega
          rw [this]; rfl
        by_cases h2 : r = 65533
        · have b1 : ((r : Int) == 65533) = true := by simp [h2]
          have b2 : ((m : Int) == 1) = false := by simp; omega
          clear h1 h2
          go_wp2
          go_roundw
          case rel => exact ⟨k + m, by have := HKM.out; omega, by first | rfl | go_num, HF.out, HB1.out⟩
          case measure => simp [intOf]; have := HKM.out; have := HLT.out; omega
        · have b1 : ((r : Int) == 65533) = false := by simp; omega
          clear h1 h2
          go_wp2
          go_roundw
          case rel => exact ⟨k + m, by have := HKM.out; omega, by first | rfl | go_num, HF.out, HB1.out⟩
          case measure => simp [intOf]; have := HKM.out; have := HLT.out; omega
    · have d1 : decide (k < s.size) = false := decide_eq_false (by have := HN.out; omega)
      have hlti : (n : Int) ≤ (k : Int) := by omega
      have HF : Hid (validL l = true) := by unfold Hid; rw [HV.out, List.drop_eq_nil_of_le (by have := HN.out; have := HSZ.out; omega)]; rfl
      clear hlt hk
      go_wp2
      go_ret
      exact ⟨by rw [HF.out]; rfl, HB.out⟩
end Go.Proofs.YthhdmpdnfelhnaaDoor
