/- Stage 7: the document's Text, in memory. -/
import Derived.Test.YtghghekdheeknaaDoorOrdI
namespace Go.Proofs.YtghghekdheeknaaDoor
open Go.RowKit Go.Maps Odr Go.Shelf
attribute [local go_sem] Oper.semAt_some

theorem rowT_len (u sc k : Nat) : (rowT u sc k).length ≤ k + 1 := by
  unfold rowT
  split
  · rw [fixd_len]; omega
  · rw [List.length_append, fixd_len]; split
    · simp; omega
    · rw [List.length_cons, fixd_len]; omega
theorem text_rows (n : Int) (sc : Nat) : textN n sc = (if n < 0 then [45] else []) ++ (dec (n.natAbs / 10 ^ sc) ++ (if sc = 0 then [] else 46 :: fixd sc (n.natAbs % 10 ^ sc))) := by unfold textN; rw [List.append_assoc]
theorem byte_text (c : UInt8) (W : World) : (convert 63 9 (.slice (some ⟨W.heap.size, 0, none⟩) 1 1)).run Tryd.prog (W.alloc (.cells #[.int .u8 (c.toNat : Int)] 5)) = .ok (.string ⟨#[c]⟩) (W.alloc (.cells #[.int .u8 (c.toNat : Int)] 5)) :=
  src_string (bs := [c]) (src_new W #[.int .u8 (c.toNat : Int)] 5 1 rfl (by decide))
set_option maxRecDepth 100000 in
set_option maxHeartbeats 2000000 in
theorem refText_good (n : Int) (sc : Nat) (h0 : -9223372036854775808 ≤ n) (h1 : n ≤ 9223372036854775807) (hsc : sc ≤ 9) (w : World) : Calls Tryd.prog 12 #[.int .i64 n, .int .i64 (sc : Int)] w (WritPost w (textN n sc, 0)) := by
  obtain ⟨U, hU⟩ : ∃ U, U = n.natAbs := ⟨_, rfl⟩
  have hU2 : U ≤ 9223372036854775808 := by omega
  have HEND : Hid (∀ k, sc < k → U / 10 ^ k = 0 → (k ≤ sc + 1 ∨ U / 10 ^ (k - 1) ≠ 0) → textN n sc = (if n < 0 then [45] else []) ++ rowT U sc k) := fun k hk hz hm => by
    rw [text_rows, ← hU, rowT_end hk hz (by rcases hm with h | h; · exact .inl (by omega)
                                            · exact .inr h)]
  have hs0 : 0 ≤ (sc : Int) := by omega
  have hs9 : (sc : Int) ≤ 9 := by omega
  have HU2 := Lib.hid hU2
  have HK : Hid (∀ k, (k ≤ sc + 1 ∨ U / 10 ^ (k - 1) ≠ 0) → k ≤ 21) := fun k h => by
    rcases h with h | h
    · omega
    · by_cases e : k ≤ 21
      · exact e
      · have h2 : 10 ^ 20 ≤ 10 ^ (k - 1) := Nat.pow_le_pow_right (by decide) (by omega)
        have h3 : U < 10 ^ (k - 1) := Nat.lt_of_lt_of_le (by omega) h2
        exact absurd (Nat.div_eq_of_lt h3) h
  have HB := Lib.hid (fun c W => byte_text c W)
  have ds1 : decide ((sc : Int) < 0) = false := decide_eq_false (by omega)
  have ds2 : decide (9 < (sc : Int)) = false := decide_eq_false (by omega)
  have ds3 : decide ((sc : Int) ≤ 9) = true := decide_eq_true (by omega)
  by_cases hn : n < 0
  · have hneg : IntKind.u64.wrap (-IntKind.u64.wrap n) = (U : Int) := by rw [IntKind.wrap_u64, IntKind.wrap_u64]; omega
    have HN : Hid ((if n < 0 then ([45] : List UInt8) else []) = [45]) := if_pos hn
    clear hU hU2 hsc
    go_enter Tryd.func12, Tryd.ntmps12
    go_wp2
    go_loopw [6, 7, 8] (fun s6 s7 s8 wr => ∃ (k : Nat) (tx : ByteArray), s8 = .int .i64 (k : Int) ∧ s6 = .int .u64 ((U / 10 ^ k : Nat) : Int) ∧ s7 = .string tx ∧ tx = ⟨(rowT U sc k).toArray⟩ ∧ (k ≤ sc + 1 ∨ U / 10 ^ (k - 1) ≠ 0) ∧ BW w wr) (fun _ _ s8 _ => 40 - (intOf s8).toNat)
    case atStart => exact ⟨0, _, rfl, by rw [Nat.pow_zero, Nat.div_one], rfl, by rw [rowT_zero], .inl (Nat.zero_le _), BW.refl _⟩
    case round =>
      obtain ⟨k, tx, rfl, rfl, rfl, htx, hm, hbw⟩ := hrel
      have hk21 := HK.out k hm
      have HBW := Lib.hid hbw
      have hts : tx.size ≤ 22 := by rw [htx, text_size]; have := rowT_len U sc k; omega
      have htsi : (tx.size : Int) ≤ 22 := by omega
      have hki : (k : Int) ≤ 21 := by omega
      have hk0 : 0 ≤ (k : Int) := by omega
      obtain ⟨u, hu⟩ : ∃ u, u = U / 10 ^ k := ⟨_, rfl⟩
      rw [← hu]
      have hul : u ≤ 9223372036854775808 := by rw [hu]; exact Nat.le_trans (Nat.div_le_self _ _) HU2.out
      have huls : (u : Int) ≤ 9223372036854775808 := by omega
      have hu0 : 0 ≤ (u : Int) := by omega
      have HM := Lib.hid hm
      have HTX := Lib.hid htx
      have hnx : U / 10 ^ (k + 1) = u / 10 := by rw [Nat.pow_succ, ← Nat.div_div_eq_div_mul, hu]
      have HNX := Lib.hid hnx
      have HUU := Lib.hid hu
      have HST := Lib.hid (rowT_step U sc k)
      obtain ⟨c, hc⟩ : ∃ c, c = dg (u % 10) := ⟨_, rfl⟩
      have hcn : (c.toNat : Int) = 48 + (u : Int) % 10 := by rw [hc, dg_nat (Nat.mod_lt _ (by decide))]; omega
      have hBy := HB.out c
      have HCC : Hid (rowT U sc (k + 1) = c :: ((if k = sc ∧ 0 < sc then [46] else []) ++ rowT U sc k)) := by unfold Hid; rw [HST.out, hc, hu]
      have hwr8 : IntKind.u8.wrap (48 + (u : Int) % 10) = 48 + (u : Int) % 10 := by rw [IntKind.wrap_u8]; omega
      have hdq : (u : Int) / 10 = ((u / 10 : Nat) : Int) := by omega
      have HDQ := Lib.hid hdq
      have HCN := Lib.hid hcn
      rw [hcn] at hBy
      clear hbw htx hm hnx hu hc hts hk21 hul hdq hcn
      by_cases hgo : k ≤ sc ∨ 0 < u
      · have HM2 : Hid (k + 1 ≤ sc + 1 ∨ U / 10 ^ (k + 1 - 1) ≠ 0) := by
          unfold Hid
          rcases hgo with h | h
          · exact .inl (by omega)
          · refine .inr ?_; rw [Nat.add_sub_cancel, ← HUU.out]; omega
        have hway : ((k : Int) ≤ (sc : Int)) ∨ ((sc : Int) < (k : Int) ∧ (0 : Int) < (u : Int)) := by omega
        have HK2 : Hid (k ≤ 21) := HK.out k HM.out
        clear hgo
        by_cases hp : k = sc ∧ 0 < sc
        · have heq : ((k : Int) == (sc : Int)) = true := by simp; omega
          have hsp : (0 : Int) < (sc : Int) := by omega
          have hle : (k : Int) ≤ (sc : Int) := by omega
          have HR : Hid ((⟨#[c]⟩ : ByteArray) ++ (⟨#[46]⟩ ++ tx) = ⟨(rowT U sc (k + 1)).toArray⟩) := by
            unfold Hid; rw [HCC.out, if_pos hp, text_cat (x := [c]) rfl (text_cat (x := [46]) rfl HTX.out)]; rfl
          clear hp hway
          go_upto_region 12 with (fail)
          have hcv := hBy wr
          clear hBy
          go_wp2
          go_roundw
          case rel => exact ⟨k + 1, _, by first | rfl | go_num, by first | (rw [HNX.out]; done) | (rw [HNX.out, ← HDQ.out]; done) | (rw [HNX.out, ← HDQ.out]; rfl), rfl, HR.out, HM2.out, HBW.out.alloc _⟩
          case measure => simp [intOf]; have := HK2.out; omega
        · have HR : Hid ((⟨#[c]⟩ : ByteArray) ++ tx = ⟨(rowT U sc (k + 1)).toArray⟩) := by
            unfold Hid; rw [HCC.out, if_neg hp, text_cat (x := [c]) rfl HTX.out]; rfl
          by_cases hke : k = sc
          · have heq : ((k : Int) == (sc : Int)) = true := by simp; omega
            have hsp : (sc : Int) ≤ 0 := by omega
            have hle : (k : Int) ≤ (sc : Int) := by omega
            clear hp hway hke
            go_upto_region 12 with (fail)
            have hcv := hBy wr
            clear hBy
            go_wp2
            go_roundw
            case rel => exact ⟨k + 1, _, by first | rfl | go_num, by first | (rw [HNX.out]; done) | (rw [HNX.out, ← HDQ.out]; done) | (rw [HNX.out, ← HDQ.out]; rfl), rfl, HR.out, HM2.out, HBW.out.alloc _⟩
            case measure => simp [intOf]; have := HK2.out; omega
          · have heq : ((k : Int) == (sc : Int)) = false := by simp; omega
            clear hp hke
            rcases hway with hle | ⟨hgt, hup⟩
            · go_upto_region 12 with (fail)
              have hcv := hBy wr
              clear hBy
              go_wp2
              go_roundw
              case rel => exact ⟨k + 1, _, by first | rfl | go_num, by first | (rw [HNX.out]; done) | (rw [HNX.out, ← HDQ.out]; done) | (rw [HNX.out, ← HDQ.out]; rfl), rfl, HR.out, HM2.out, HBW.out.alloc _⟩
              case measure => simp [intOf]; have := HK2.out; omega
            · go_upto_region 12 with (fail)
              have hcv := hBy wr
              clear hBy
              go_wp2
              go_roundw
              case rel => exact ⟨k + 1, _, by first | rfl | go_num, by first | (rw [HNX.out]; done) | (rw [HNX.out, ← HDQ.out]; done) | (rw [HNX.out, ← HDQ.out]; rfl), rfl, HR.out, HM2.out, HBW.out.alloc _⟩
              case measure => simp [intOf]; have := HK2.out; omega
      · have hgt : (sc : Int) < (k : Int) := by omega
        obtain rfl : u = 0 := by omega
        have hend := HEND.out k (by omega) HUU.out.symm HM.out
        rw [HN.out] at hend
        have HE := Lib.hid hend
        clear hgo hBy hend
        go_wp2
        go_ret2
        exact ⟨by rw [HE.out, show textV ([45] ++ rowT U sc k) = .string (⟨#[45]⟩ ++ tx) by rw [text_cat (x := [45]) rfl HTX.out]; rfl]; rfl, HBW.out⟩
  · have hpos : IntKind.u64.wrap n = (U : Int) := by rw [IntKind.wrap_u64]; omega
    have HN : Hid ((if n < 0 then ([45] : List UInt8) else []) = []) := if_neg hn
    have hn0 : 0 ≤ n := by omega
    have hnU : n = (U : Int) := by omega
    have HNU := Lib.hid hnU
    clear hU hU2 hsc hn hnU
    go_enter Tryd.func12, Tryd.ntmps12
    go_wp2
    go_loopw [6, 7, 8] (fun s6 s7 s8 wr => ∃ (k : Nat) (tx : ByteArray), s8 = .int .i64 (k : Int) ∧ s6 = .int .u64 ((U / 10 ^ k : Nat) : Int) ∧ s7 = .string tx ∧ tx = ⟨(rowT U sc k).toArray⟩ ∧ (k ≤ sc + 1 ∨ U / 10 ^ (k - 1) ≠ 0) ∧ BW w wr) (fun _ _ s8 _ => 40 - (intOf s8).toNat)
    case atStart => exact ⟨0, _, rfl, by rw [Nat.pow_zero, Nat.div_one], rfl, by rw [rowT_zero], .inl (Nat.zero_le _), BW.refl _⟩
    case round =>
      obtain ⟨k, tx, rfl, rfl, rfl, htx, hm, hbw⟩ := hrel
      have hk21 := HK.out k hm
      have HBW := Lib.hid hbw
      have hts : tx.size ≤ 22 := by rw [htx, text_size]; have := rowT_len U sc k; omega
      have htsi : (tx.size : Int) ≤ 22 := by omega
      have hki : (k : Int) ≤ 21 := by omega
      have hk0 : 0 ≤ (k : Int) := by omega
      obtain ⟨u, hu⟩ : ∃ u, u = U / 10 ^ k := ⟨_, rfl⟩
      rw [← hu]
      have hul : u ≤ 9223372036854775808 := by rw [hu]; exact Nat.le_trans (Nat.div_le_self _ _) HU2.out
      have huls : (u : Int) ≤ 9223372036854775808 := by omega
      have hu0 : 0 ≤ (u : Int) := by omega
      have HM := Lib.hid hm
      have HTX := Lib.hid htx
      have hnx : U / 10 ^ (k + 1) = u / 10 := by rw [Nat.pow_succ, ← Nat.div_div_eq_div_mul, hu]
      have HNX := Lib.hid hnx
      have HUU := Lib.hid hu
      have HST := Lib.hid (rowT_step U sc k)
      obtain ⟨c, hc⟩ : ∃ c, c = dg (u % 10) := ⟨_, rfl⟩
      have hcn : (c.toNat : Int) = 48 + (u : Int) % 10 := by rw [hc, dg_nat (Nat.mod_lt _ (by decide))]; omega
      have hBy := HB.out c
      have HCC : Hid (rowT U sc (k + 1) = c :: ((if k = sc ∧ 0 < sc then [46] else []) ++ rowT U sc k)) := by unfold Hid; rw [HST.out, hc, hu]
      have hwr8 : IntKind.u8.wrap (48 + (u : Int) % 10) = 48 + (u : Int) % 10 := by rw [IntKind.wrap_u8]; omega
      have hdq : (u : Int) / 10 = ((u / 10 : Nat) : Int) := by omega
      have HDQ := Lib.hid hdq
      have HCN := Lib.hid hcn
      rw [hcn] at hBy
      clear hbw htx hm hnx hu hc hts hk21 hul hdq hcn
      by_cases hgo : k ≤ sc ∨ 0 < u
      · have HM2 : Hid (k + 1 ≤ sc + 1 ∨ U / 10 ^ (k + 1 - 1) ≠ 0) := by
          unfold Hid
          rcases hgo with h | h
          · exact .inl (by omega)
          · refine .inr ?_; rw [Nat.add_sub_cancel, ← HUU.out]; omega
        have hway : ((k : Int) ≤ (sc : Int)) ∨ ((sc : Int) < (k : Int) ∧ (0 : Int) < (u : Int)) := by omega
        have HK2 : Hid (k ≤ 21) := HK.out k HM.out
        clear hgo
        by_cases hp : k = sc ∧ 0 < sc
        · have heq : ((k : Int) == (sc : Int)) = true := by simp; omega
          have hsp : (0 : Int) < (sc : Int) := by omega
          have hle : (k : Int) ≤ (sc : Int) := by omega
          have HR : Hid ((⟨#[c]⟩ : ByteArray) ++ (⟨#[46]⟩ ++ tx) = ⟨(rowT U sc (k + 1)).toArray⟩) := by
            unfold Hid; rw [HCC.out, if_pos hp, text_cat (x := [c]) rfl (text_cat (x := [46]) rfl HTX.out)]; rfl
          clear hp hway
          go_upto_region 12 with (fail)
          have hcv := hBy wr
          clear hBy
          go_wp2
          go_roundw
          case rel => exact ⟨k + 1, _, by first | rfl | go_num, by first | (rw [HNX.out]; done) | (rw [HNX.out, ← HDQ.out]; done) | (rw [HNX.out, ← HDQ.out]; rfl), rfl, HR.out, HM2.out, HBW.out.alloc _⟩
          case measure => simp [intOf]; have := HK2.out; omega
        · have HR : Hid ((⟨#[c]⟩ : ByteArray) ++ tx = ⟨(rowT U sc (k + 1)).toArray⟩) := by
            unfold Hid; rw [HCC.out, if_neg hp, text_cat (x := [c]) rfl HTX.out]; rfl
          by_cases hke : k = sc
          · have heq : ((k : Int) == (sc : Int)) = true := by simp; omega
            have hsp : (sc : Int) ≤ 0 := by omega
            have hle : (k : Int) ≤ (sc : Int) := by omega
            clear hp hway hke
            go_upto_region 12 with (fail)
            have hcv := hBy wr
            clear hBy
            go_wp2
            go_roundw
            case rel => exact ⟨k + 1, _, by first | rfl | go_num, by first | (rw [HNX.out]; done) | (rw [HNX.out, ← HDQ.out]; done) | (rw [HNX.out, ← HDQ.out]; rfl), rfl, HR.out, HM2.out, HBW.out.alloc _⟩
            case measure => simp [intOf]; have := HK2.out; omega
          · have heq : ((k : Int) == (sc : Int)) = false := by simp; omega
            clear hp hke
            rcases hway with hle | ⟨hgt, hup⟩
            · go_upto_region 12 with (fail)
              have hcv := hBy wr
              clear hBy
              go_wp2
              go_roundw
              case rel => exact ⟨k + 1, _, by first | rfl | go_num, by first | (rw [HNX.out]; done) | (rw [HNX.out, ← HDQ.out]; done) | (rw [HNX.out, ← HDQ.out]; rfl), rfl, HR.out, HM2.out, HBW.out.alloc _⟩
              case measure => simp [intOf]; have := HK2.out; omega
            · go_upto_region 12 with (fail)
              have hcv := hBy wr
              clear hBy
              go_wp2
              go_roundw
              case rel => exact ⟨k + 1, _, by first | rfl | go_num, by first | (rw [HNX.out]; done) | (rw [HNX.out, ← HDQ.out]; done) | (rw [HNX.out, ← HDQ.out]; rfl), rfl, HR.out, HM2.out, HBW.out.alloc _⟩
              case measure => simp [intOf]; have := HK2.out; omega
      · have hgt : (sc : Int) < (k : Int) := by omega
        obtain rfl : u = 0 := by omega
        have hend := HEND.out k (by omega) HUU.out.symm HM.out
        rw [HN.out] at hend
        have HE := Lib.hid hend
        clear hgo hBy hend
        go_wp2
        go_ret2
        exact ⟨by rw [HE.out, show textV ([] ++ rowT U sc k) = .string tx by rw [HTX.out]; rfl]; rfl, HBW.out⟩
end Go.Proofs.YtghghekdheeknaaDoor
