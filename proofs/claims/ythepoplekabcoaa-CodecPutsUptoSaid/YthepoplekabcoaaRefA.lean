/- The reference's numbers: Uint, Turned, Back, Text. -/
import Derived.Test.YthepoplekabcoaaCodQ
import Derived.Test.YthepoplekabcoaaCodM2
namespace Go.Proofs.Ythepoplekabcoaa
open Go.RowKit Go.Maps

theorem form_take {n i : Nat} (h : i < (form n).length) : (form n).take (i + 1) = (form n).take i ++ [UInt8.ofNat (n / 2 ^ (7 * i) % 128 + (if i + 1 < (form n).length then 128 else 0))] := by
  rw [List.take_succ_eq_append_getElem h, ← form_get i n h]
  simp
theorem div_cast (n i : Nat) : (n : Int) / 2 ^ (7 * i) = ((n / 2 ^ (7 * i) : Nat) : Int) := by simp

set_option maxHeartbeats 2000000 in
set_option maxRecDepth 100000 in
theorem refUint_any (n : Nat) (hn : n < 18446744073709551616) (w : World) : Calls Try.prog 12 #[.int .u64 (n : Int)] w (BytesPost w (form n)) := by
  have hn1 : (n : Int) ≤ 18446744073709551615 := by omega
  have hn0 : 0 ≤ (n : Int) := by omega
  have HNN := Lib.hid hn
  clear hn
  go_enter Try.func12, Try.ntmps12
  go_wp2
  go_loop [3] (fun i => ∃ k : Nat, 1 ≤ k ∧ k ≤ 10 ∧ i = .int .i64 (k : Int) ∧ (k = 1 ∨ 2 ^ (7 * (k - 1)) ≤ n)) (fun i => 10 - (intOf i).toNat)
  case atStart => exact ⟨1, by omega, by omega, rfl, .inl rfl⟩
  case round =>
    obtain ⟨k, hk1, hk2, rfl, hkn⟩ := hrel
    have HKN := Lib.hid hkn
    clear hkn
    by_cases hc : k < 10 ∧ 2 ^ (7 * k) ≤ n
    · obtain ⟨ha, hb⟩ := hc
      have HB := Lib.hid hb
      have hgt : (0 : Int) < (n : Int) / 2 ^ (7 * k) := by
        have h1 : 0 < n / 2 ^ (7 * k) := Nat.div_pos hb (Nat.pow_pos (by decide))
        have h2 : (n : Int) / 2 ^ (7 * k) = ((n / 2 ^ (7 * k) : Nat) : Int) := by simp
        rw [h2]; omega
      clear hb
      go_wp2
      go_round
      case rel => exact ⟨k + 1, by omega, by omega, by go_num, .inr (by rw [Nat.add_sub_cancel]; exact HB.out)⟩
      case measure => simp [intOf]; omega
    · have hL : (form n).length = k := by
        refine form_len_eq k n hk1 HKN.out ?_
        by_cases e : k = 10
        · subst e; have := HNN.out; omega
        · have : ¬ 2 ^ (7 * k) ≤ n := fun h => hc ⟨by omega, h⟩
          omega
      have hq0 : ¬ k = 10 → (n : Int) / 2 ^ (7 * k) = 0 := by
        intro e
        have h1 : ¬ 2 ^ (7 * k) ≤ n := fun h => hc ⟨by omega, h⟩
        rw [div_cast, Nat.div_eq_of_lt (by omega)]; rfl
      have HL := Lib.hid hL
      have HQ0 := Lib.hid hq0
      clear hc hL hq0
      by_cases h10 : k = 10
      · clear HQ0
        have h10' : ¬ k < 10 := by omega
        subst h10
        go_wp2
        go_loopw [4, 5] (fun v i wr => ∃ j : Nat, j ≤ 10 ∧ i = .int .i64 (j : Int) ∧ wr.ownsRow w.heap.size 5 1 v j (((form n).take j).map bV) ∧ BW w wr) (fun _ i _ => 10 - (intOf i).toNat)
        case atStart => exact ⟨0, Nat.zero_le _, rfl, ⟨rfl, .inl ⟨rfl, rfl⟩⟩, BW.refl _⟩
        case round =>
          obtain ⟨j, hj, rfl, ho, hb⟩ := hrel
          have HO := Lib.hid ho; have HB := Lib.hid hb
          clear ho hb
          by_cases hlt : j < 10
          · obtain ⟨q, hq⟩ : ∃ q, n / 2 ^ (7 * j) = q := ⟨_, rfl⟩
            have hqi : (n : Int) / 2 ^ (7 * j) = (q : Int) := by rw [div_cast, hq]
            have hq0 : 0 ≤ (q : Int) := by omega
            have HT := Lib.hid (form_take (n := n) (i := j) (by rw [HL.out]; exact hlt))
            rw [HL.out, hq] at HT
            clear hq
            by_cases hl : j + 1 < 10
            · rw [if_pos hl] at HT
              go_wp2_with (at_builtin; refine append_bytes rfl (.tmp 37) (.tmp 39) rfl w.heap.size u4 j ((form n).take j) rfl (HO.out.alloc _) (.slice (some ⟨wr.heap.size, 0, none⟩) 1 1) rfl [UInt8.ofNat (q % 128 + 128)] (src_byte ?_ (by omega)) ?_ ?_ ?_)
              · omega
              · show j + 1 ≤ _; omega
              · have := HB.out.size; simp; omega
              · intro v3 w3 ho3 hg3
                have HO3 : Hid (w3.ownsRow w.heap.size 5 1 v3 (j + 1) (((form n).take (j + 1)).map bV)) := by
                  unfold Hid; rw [HT.out]; simpa using ho3
                have HB3 := Lib.hid (bw_grown (HB.out.alloc _) hg3 (row_own HO.out))
                clear ho3 hg3
                go_wp2
                go_roundw
                case rel => exact ⟨j + 1, by omega, by go_num, HO3.out, HB3.out⟩
                case measure => simp [intOf]; omega
            · rw [if_neg hl] at HT
              go_wp2_with (at_builtin; refine append_bytes rfl (.tmp 37) (.tmp 39) rfl w.heap.size u4 j ((form n).take j) rfl (HO.out.alloc _) (.slice (some ⟨wr.heap.size, 0, none⟩) 1 1) rfl [UInt8.ofNat (q % 128 + 0)] (src_byte ?_ (by omega)) ?_ ?_ ?_)
              · omega
              · show j + 1 ≤ _; omega
              · have := HB.out.size; simp; omega
              · intro v3 w3 ho3 hg3
                have HO3 : Hid (w3.ownsRow w.heap.size 5 1 v3 (j + 1) (((form n).take (j + 1)).map bV)) := by
                  unfold Hid; rw [HT.out]; simpa using ho3
                have HB3 := Lib.hid (bw_grown (HB.out.alloc _) hg3 (row_own HO.out))
                clear ho3 hg3
                go_wp2
                go_roundw
                case rel => exact ⟨j + 1, by omega, by go_num, HO3.out, HB3.out⟩
                case measure => simp [intOf]; omega
          · have hjk : j = 10 := by omega
            have HO2 : Hid (wr.ownsRow w.heap.size 5 1 u4 (form n).length ((form n).map bV)) := by
              have := HO.out
              rw [hjk] at this
              rw [List.take_of_length_le (by rw [HL.out]; exact Nat.le_refl _)] at this
              unfold Hid; rw [HL.out]; exact this
            clear hjk
            go_wp2
            go_ret
            exact ⟨_, rfl, HO2.out, HB.out⟩
      · have hz := HQ0.out h10
        have hk10 : k < 10 := by omega
        clear HQ0 h10
        go_wp2
        go_loopw [4, 5] (fun v i wr => ∃ j : Nat, j ≤ k ∧ i = .int .i64 (j : Int) ∧ wr.ownsRow w.heap.size 5 1 v j (((form n).take j).map bV) ∧ BW w wr) (fun _ i _ => k - (intOf i).toNat)
        case atStart => exact ⟨0, Nat.zero_le _, rfl, ⟨rfl, .inl ⟨rfl, rfl⟩⟩, BW.refl _⟩
        case round =>
          obtain ⟨j, hj, rfl, ho, hb⟩ := hrel
          have HO := Lib.hid ho; have HB := Lib.hid hb
          clear ho hb
          by_cases hlt : j < k
          · obtain ⟨q, hq⟩ : ∃ q, n / 2 ^ (7 * j) = q := ⟨_, rfl⟩
            have hqi : (n : Int) / 2 ^ (7 * j) = (q : Int) := by rw [div_cast, hq]
            have hq0 : 0 ≤ (q : Int) := by omega
            have HT := Lib.hid (form_take (n := n) (i := j) (by rw [HL.out]; exact hlt))
            rw [HL.out, hq] at HT
            clear hq
            by_cases hl : j + 1 < k
            · rw [if_pos hl] at HT
              go_wp2_with (at_builtin; refine append_bytes rfl (.tmp 37) (.tmp 39) rfl w.heap.size u4 j ((form n).take j) rfl (HO.out.alloc _) (.slice (some ⟨wr.heap.size, 0, none⟩) 1 1) rfl [UInt8.ofNat (q % 128 + 128)] (src_byte ?_ (by omega)) ?_ ?_ ?_)
              · omega
              · show j + 1 ≤ _; omega
              · have := HB.out.size; simp; omega
              · intro v3 w3 ho3 hg3
                have HO3 : Hid (w3.ownsRow w.heap.size 5 1 v3 (j + 1) (((form n).take (j + 1)).map bV)) := by
                  unfold Hid; rw [HT.out]; simpa using ho3
                have HB3 := Lib.hid (bw_grown (HB.out.alloc _) hg3 (row_own HO.out))
                clear ho3 hg3
                go_wp2
                go_roundw
                case rel => exact ⟨j + 1, by omega, by go_num, HO3.out, HB3.out⟩
                case measure => simp [intOf]; omega
            · rw [if_neg hl] at HT
              go_wp2_with (at_builtin; refine append_bytes rfl (.tmp 37) (.tmp 39) rfl w.heap.size u4 j ((form n).take j) rfl (HO.out.alloc _) (.slice (some ⟨wr.heap.size, 0, none⟩) 1 1) rfl [UInt8.ofNat (q % 128 + 0)] (src_byte ?_ (by omega)) ?_ ?_ ?_)
              · omega
              · show j + 1 ≤ _; omega
              · have := HB.out.size; simp; omega
              · intro v3 w3 ho3 hg3
                have HO3 : Hid (w3.ownsRow w.heap.size 5 1 v3 (j + 1) (((form n).take (j + 1)).map bV)) := by
                  unfold Hid; rw [HT.out]; simpa using ho3
                have HB3 := Lib.hid (bw_grown (HB.out.alloc _) hg3 (row_own HO.out))
                clear ho3 hg3
                go_wp2
                go_roundw
                case rel => exact ⟨j + 1, by omega, by go_num, HO3.out, HB3.out⟩
                case measure => simp [intOf]; omega
          · have hjk : j = k := by omega
            have HO2 : Hid (wr.ownsRow w.heap.size 5 1 u4 (form n).length ((form n).map bV)) := by
              have := HO.out
              rw [hjk] at this
              rw [List.take_of_length_le (by rw [HL.out]; exact Nat.le_refl _)] at this
              unfold Hid; rw [HL.out]; exact this
            clear hjk
            go_wp2
            go_ret
            exact ⟨_, rfl, HO2.out, HB.out⟩

end Go.Proofs.Ythepoplekabcoaa
