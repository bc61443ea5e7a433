/- The document's check of bytes; its Sealed. -/
import Derived.Test.YtaaeaaahllicbaaFrmM
import Derived.Test.YtaaeaaahllicbaaCodQ
import Derived.Laws.BitsAllLaws
namespace Go.Proofs.Ytaaeaaahllicbaa
open Go.RowKit Go.Maps Crc

theorem Src.get {w : World} {ao : Option Addr} {n cap : Nat} {xs : List Value} (h : Src w (.slice ao n cap) xs) {i : Nat} {u : Value} (hu : xs[i]? = some u) : ∃ b off, ao = some ⟨b, off, none⟩ ∧ w.cell? ⟨b, off + i, none⟩ = some u := by
  rcases h with ⟨_, _, _, e2, _⟩ | ⟨b, off, c, hv, _, _, _, h4⟩
  · rw [e2] at hu; simp at hu
  · injection hv with e1; exact ⟨b, off, e1, h4 i u hu⟩
theorem xor_pol {x : Nat} (h : x < 4294967296) : bits .xor .u32 (x : Int) 3988292384 = ((x ^^^ pol : Nat) : Int) := u32_xor_nat x pol h pol_lt
theorem xor_ones {x : Nat} (h : x < 4294967296) : bits .xor .u32 (x : Int) 4294967295 = ((x ^^^ 4294967295 : Nat) : Int) := u32_xor_nat x 4294967295 h (by decide)
theorem and_one {x : Nat} (h : x < 4294967296) : bits .and .u32 (x : Int) 1 = ((x % 2 : Nat) : Int) := by
  rw [show (1 : Int) = ((1 : Nat) : Int) from rfl, u32_and_nat _ _ h (by decide), Nat.and_one_is_mod]

set_option maxHeartbeats 2000000 in
set_option maxRecDepth 100000 in
theorem refSum_any {w : World} {v : Value} {bs : List UInt8} (h : Src w v (bs.map bV)) (hb : (bs.length : Int) ≤ 140737488351232) : Calls Try.prog 14 #[v] w fun e w' => e = .returned (.int .u32 (crcP bs : Int)) ∧ w = w' := by
  obtain ⟨ao, cap, rfl⟩ := h.len
  rw [List.length_map] at h ⊢
  obtain ⟨n, hn⟩ : ∃ n, n = bs.length := ⟨_, rfl⟩
  rw [← hn] at h hb ⊢
  have H := Lib.hid h
  have HN := Lib.hid hn
  clear h hn
  go_enter Try.func14, Try.ntmps14
  go_wp2
  go_loopg [3, 4] n (fun g s3 s4 wx => ∃ (i c : Nat), i + g = n ∧ s4 = .int .i64 i ∧ s3 = .int .u32 (c : Int) ∧ c < 4294967296 ∧ c = run 4294967295 (bitsL (bs.take i)) ∧ w = wx)
  case atStart => exact ⟨0, 4294967295, by omega, rfl, rfl, by decide, rfl, rfl⟩
  case round =>
    obtain ⟨i, c, hig, rfl, rfl, hc32, hc, rfl⟩ := hrel
    have HC := Lib.hid hc
    have HIG := Lib.hid hig
    clear hc
    cases gk with
    | zero =>
      have hge : (n : Int) ≤ (i : Int) := by omega
      have hd0 : decide (i < n) = false := decide_eq_false (by omega)
      have HFIN : Hid (((c ^^^ 4294967295 : Nat) : Int) = (crcP bs : Int)) := by
        unfold Hid crcP
        rw [HC.out, List.take_of_length_le (by have := HN.out; omega)]
      have hx := xor_ones hc32
      clear hig
      go_wp2
      go_ret
      exact ⟨ret_int HFIN.out, rfl⟩
    | succ g =>
      have hi : (i : Int) < (n : Int) := by omega
      have hi0 : (0 : Int) ≤ (i : Int) := by omega
      have hil : i < bs.length := by have := HN.out; omega
      obtain ⟨x, hx⟩ : ∃ x, x = bs[i] := ⟨_, rfl⟩
      obtain ⟨b0, o0, rfl, hc0⟩ := H.out.get (i := i) (u := bV x) (by rw [List.getElem?_map, List.getElem?_eq_getElem hil, hx]; rfl)
      obtain ⟨y, hy⟩ : ∃ y, y = x.toNat := ⟨_, rfl⟩
      unfold bV at hc0
      rw [← hy] at hc0
      have hy256 : y < 256 := by rw [hy]; exact UInt8.toNat_lt _
      have HY := Lib.hid hy
      have HST : Hid (bitsL (bs.take (i + 1)) = bitsL (bs.take i) ++ bitsB x) := by
        unfold Hid
        rw [List.take_succ_eq_append_getElem hil, ← hx, bitsL_append]
        show _ ++ (bitsB x ++ []) = _
        rw [List.append_nil]
      clear hig hil hx hy
      go_wp2
      go_loopg [3, 5, 6] 8 (fun g s3 s5 s6 wx => ∃ (k d : Nat), k + g = 8 ∧ s5 = .int .i64 k ∧ s3 = .int .u32 (d : Int) ∧ d < 4294967296 ∧ d = run c ((bitsB x).take k) ∧ w = wx)
      case atStart => exact ⟨0, c, by omega, rfl, rfl, hc32, rfl, rfl⟩
      case round =>
        obtain ⟨k, d, hkg, rfl, rfl, hd32, hd, rfl⟩ := hrel
        have HD := Lib.hid hd
        have HKG := Lib.hid hkg
        clear hd
        cases gk with
        | zero =>
          have hge : (8 : Int) ≤ (k : Int) := by omega
          have hd8 : decide ((k : Int) < 8) = false := decide_eq_false (by omega)
          have hd9 : decide (k < 8) = false := decide_eq_false (by omega)
          have HNX : Hid (d = run 4294967295 (bitsL (bs.take (i + 1)))) := by
            unfold Hid
            rw [HST.out, run_append, ← HC.out, HD.out, List.take_of_length_le (by rw [bitsB_len]; omega)]
          clear hkg
          go_wp2
          go_roundg g
          case measure => omega
          case rel => exact ⟨i + 1, d, by have := HIG.out; omega, by first | rfl | simp, rfl, hd32, HNX.out, rfl⟩
        | succ g2 =>
          have hk : (k : Int) < 8 := by omega
          have hk0 : (0 : Int) ≤ (k : Int) := by omega
          have hwk : IntKind.u64.wrap (k : Int) = (k : Int) := by rw [IntKind.wrap_u64]; omega
          obtain ⟨z, hz⟩ : ∃ z, z = y / 2 ^ k := ⟨_, rfl⟩
          have hzi : (y : Int) / 2 ^ k = (z : Int) := by rw [hz]; push_cast; rfl
          have hz256 : z < 256 := by rw [hz]; exact Nat.lt_of_le_of_lt (Nat.div_le_self _ _) hy256
          have hz0 : 0 ≤ (z : Int) := by omega
          have hz1 : (z : Int) < 256 := by omega
          have hwz : IntKind.u32.wrap (z : Int) = (z : Int) := by rw [IntKind.wrap_u32']; omega
          have hand := and_one (x := z) (by omega)
          have hand2 := and_one hd32
          have HST2 : Hid (run c ((bitsB x).take (k + 1)) = stp d (z % 2 == 1)) := by
            unfold Hid
            have h1 := bitsB_get x (k := k) (by omega)
            have h2 : k < (bitsB x).length := by rw [bitsB_len]; omega
            rw [List.take_succ_eq_append_getElem h2, run_snoc, ← HD.out]
            rw [List.getElem?_eq_getElem h2] at h1
            injection h1 with h1
            rw [h1, hz, HY.out]
          obtain ⟨p, hp⟩ : ∃ p, p = z % 2 := ⟨_, rfl⟩
          obtain ⟨q, hq⟩ : ∃ q, q = d % 2 := ⟨_, rfl⟩
          rw [← hp] at hand
          rw [← hq] at hand2
          have hp2 : p < 2 := by omega
          have hq2 : q < 2 := by omega
          obtain ⟨f, hf⟩ : ∃ f, f = d / 2 := ⟨_, rfl⟩
          have hdiv : (d : Int) / 2 = (f : Int) := by omega
          have hf32 : f < 4294967296 := by omega
          have HF := Lib.hid hf
          by_cases hpq : q = p
          · have hne : ((q : Int) != (p : Int)) = false := by simp [hpq]
            have HNX : Hid (f = run c ((bitsB x).take (k + 1))) := by
              unfold Hid
              rw [HST2.out]; unfold stp
              rw [← hp, ← hq, hpq, HF.out]; simp
            clear hz hp hq hkg hpq HST2 hf
            go_wp2
            go_roundg g2
            case measure => omega
            case rel => exact ⟨k + 1, f, by have := HKG.out; omega, by first | rfl | simp, by first | rfl | simp, hf32, HNX.out, rfl⟩
          · have hne : ((q : Int) != (p : Int)) = true := by simp; omega
            have hxf := xor_pol hf32
            obtain ⟨h, hh⟩ : ∃ h, h = f ^^^ pol := ⟨_, rfl⟩
            rw [← hh] at hxf
            have HH := Lib.hid hh
            have HNX : Hid (h = run c ((bitsB x).take (k + 1))) := by
              unfold Hid
              rw [HST2.out]; unfold stp
              rw [← hp, ← hq, HH.out, HF.out, if_pos]
              have : (q = 1 ∧ p = 0) ∨ (q = 0 ∧ p = 1) := by omega
              rcases this with ⟨rfl, rfl⟩ | ⟨rfl, rfl⟩ <;> rfl
            have hl : h < 4294967296 := by rw [hh]; exact Nat.xor_lt_two_pow (n := 32) hf32 pol_lt
            clear hz hp hq hkg hpq HST2 hf hh
            go_wp2
            go_roundg g2
            case measure => omega
            case rel => exact ⟨k + 1, h, by have := HKG.out; omega, by first | rfl | simp, by first | rfl | simp, hl, HNX.out, rfl⟩
end Go.Proofs.Ytaaeaaahllicbaa
