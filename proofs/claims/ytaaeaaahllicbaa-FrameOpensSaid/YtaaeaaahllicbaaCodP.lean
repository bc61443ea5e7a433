/- put, PutUint, PutInt, PutText. -/
import Derived.Test.YtaaeaaahllicbaaCodN
import Derived.Outline
namespace Go.Proofs.Ytaaeaaahllicbaa
open Go.RowKit Go.Maps

theorem bw_grown {w w1 w2 : World} {row : Option Nat} (h : BW w w1) (hg : w1.grownBy w2 row) (hr : ∀ k, row = some k → w.heap.size ≤ k) : BW w w2 :=
  RowKit.Below.grown h hg h.size hr
theorem row_own {w : World} {base : Nat} {n : Nat} {v : Value} {xs : List Value} (h : w.ownsRow base 5 1 v n xs) : ∀ k, v.ownBlock = some k → base ≤ k := by
  intro k hk
  obtain ⟨a, n', c, e1, e2⟩ := own_some hk
  have := row_base' h a n' c e1
  omega
theorem form_step {u : Nat} (h : 128 ≤ u) : form u = UInt8.ofNat (u % 128 + 128) :: form (u / 128) := by
  conv => lhs; unfold form
  rw [if_neg (by omega)]
theorem form_last {u : Nat} (h : u < 128) : form u = [UInt8.ofNat u] := by
  unfold form
  rw [if_pos h]
theorem len_three (a b : List UInt8) (s : ByteArray) : (a ++ b ++ s.data.toList).length = a.length + b.length + s.size := by
  rw [List.length_append, List.length_append]; rfl
theorem byte1 {m : Nat} (h : m < 256) : bV (UInt8.ofNat m) = .int .u8 (m : Int) := by
  unfold bV
  have : (UInt8.ofNat m).toNat = m := by rw [UInt8.toNat_ofNat']; omega
  rw [this]
theorem src_byte {w : World} {y : Int} {m : Nat} (hy : y = (m : Int)) (hm : m < 256) : Src (w.alloc (.cells #[.int .u8 y] 5)) (.slice (some ⟨w.heap.size, 0, none⟩) 1 1) ([UInt8.ofNat m].map bV) := by
  have := src_new w #[.int .u8 y] 5 1 rfl (by decide)
  simp only [List.map_cons, List.map_nil, byte1 hm]
  rw [hy] at this ⊢
  exact this
theorem or128 (u : Nat) : bits .or .u8 ((u : Int) % 256) 128 = ((u % 128 + 128 : Nat) : Int) := by
  have e : ((u : Int) % 256) = ((u % 256 : Nat) : Int) := by omega
  have e2 : (128 : Int) = ((128 : Nat) : Int) := rfl
  rw [e, e2, u8_or_nat _ _ (by omega) (by omega)]
  congr 1
  rcases Nat.lt_or_ge (u % 256) 128 with h | h
  · have h1 := Nat.two_pow_add_eq_or_of_lt (i := 7) h 1
    have h2 : u % 128 = u % 256 := by omega
    rw [Nat.or_comm, h2, show (128 : Nat) = 2 ^ 7 * 1 from rfl, ← h1]; omega
  · have h3 : u % 256 = 128 + u % 128 := by omega
    have h1 := Nat.two_pow_add_eq_or_of_lt (i := 7) (b := u % 128) (by omega) 1
    have h4 : u % 256 = 128 ||| u % 128 := by rw [h3]; simpa using h1
    rw [h4, Nat.or_comm, ← Nat.or_assoc, Nat.or_self]
    have : (128 : Nat) ||| u % 128 = 128 + u % 128 := by simpa using h1.symm
    omega

set_option maxHeartbeats 2000000 in
set_option maxRecDepth 100000 in
theorem put_U {w : World} {bv : Value} {bs : List UInt8} (hsrc : Src w bv (bs.map bV)) (n : Nat) (hn : n < 18446744073709551616) (s : ByteArray) (hlen : bs.length + 10 + s.size ≤ 140737488355328) :
    Calls Try.prog 45 #[bv, .int .u64 (n : Int), .string s] w (BytesPost w (bs ++ form n ++ s.data.toList)) := by
  obtain ⟨i0, hi, hz0, hz1, hz2⟩ := infoOf info_u8
  obtain ⟨ao, cap, rfl⟩ := hsrc.len
  rw [List.length_map] at hsrc
  obtain ⟨w1, hrun, hown, hgr⟩ := run_make_own (P := Try.prog) w w.heap.size 23 5 i0 (.int .u8 0) 1 Try.underlying23 hi hz0 hz1 .i64 .i64 (bs.length + 10 + s.size) (by rw [hz2]; omega) (by unfold maxLen; omega) (Nat.le_refl _)
  have hb1 : BW w w1 := bw_grown (BW.refl w) hgr (fun k e => by cases e)
  have HSRC := Lib.hid (hsrc.below hb1)
  rw [Int.natCast_add, Int.natCast_add] at hrun
  have hrun' : (Instr.makeSlice 23 (.int .i64 0) (.int .i64 ((bs.length : Int) + 10 + (s.size : Int)))).run Try.prog w = .ok (.slice (some ⟨w.heap.size, 0, none⟩) 0 (bs.length + 10 + s.size)) w1 := hrun
  have HOWN := Lib.hid hown; have HB1 := Lib.hid hb1
  have HUN := Lib.hid (unsignedU_any n hn)
  have HU : Hid (n < 18446744073709551616) := hn
  have hl1 : (bs.length : Int) ≤ 140737488355328 := by omega
  have hl2 : (s.size : Int) ≤ 140737488355328 := by omega
  have HLEN := Lib.hid hlen
  have HF10 := Lib.hid (form_len10 HU.out)
  generalize n = un at HUN HU HF10 ⊢
  rw [List.length_map]
  clear hrun hown hgr hb1 hsrc hlen hi hz0 hz1 hz2
  go_enter Try.func45, Try.ntmps45
  go_wp2_with (at_builtin; refine append_bytes rfl (.tmp 16) (.tmp 17) rfl w.heap.size (.slice (some ⟨w.heap.size, 0, none⟩) 0 (bs.length + 10 + s.size)) 0 [] rfl HOWN.out (.slice ao bs.length cap) rfl bs HSRC.out (by have := HLEN.out; omega) HB1.out.size ?_; intro v2 w2 ho2 hg2)
  have HO2 : Hid (w2.ownsRow w.heap.size 5 1 v2 bs.length (bs.map bV)) := by have := ho2; simp only [Nat.zero_add, List.nil_append] at this; exact this
  have HB2 := Lib.hid (bw_grown HB1.out hg2 (row_own HOWN.out))
  clear ho2 hg2 HSRC HOWN HB1 hrun'
  go_wp2_with (go_at_call 53; refine (HUN.out _).mono ?_; rintro e w' ⟨rfl, rfl⟩)
  go_loopw [7, 8] (fun v u wr => ∃ (x : Nat) (p : List UInt8), u = .int .u64 (x : Int) ∧ x < 18446744073709551616 ∧ p ++ form x = form un ∧ wr.ownsRow w.heap.size 5 1 v (bs.length + p.length) ((bs ++ p).map bV) ∧ BW w wr) (fun _ u _ => (intOf u).toNat)
  case atStart => exact ⟨un, [], rfl, HU.out, rfl, by simpa using HO2.out, HB2.out⟩
  case round =>
    obtain ⟨x, p, rfl, hx, hp, ho, hb⟩ := hrel
    have HP := Lib.hid hp; have HO := Lib.hid ho; have HB := Lib.hid hb
    have hx1 : (x : Int) ≤ 18446744073709551615 := by omega
    have hx0 : 0 ≤ (x : Int) := by omega
    clear hp ho hb hx
    have HPL : Hid (p.length + (form x).length ≤ 10) := by have := HF10.out; rw [← HP.out, List.length_append] at this; exact this
    by_cases h128 : 128 ≤ x
    · go_wp2_with (at_builtin; refine append_bytes rfl (.tmp 25) (.tmp 29) rfl w.heap.size u7 (bs.length + p.length) (bs ++ p) rfl (HO.out.alloc _) (.slice (some ⟨wr.heap.size, 0, none⟩) 1 1) rfl [UInt8.ofNat (x % 128 + 128)] (src_byte (or128 x) (by omega)) ?_ ?_ ?_)
      · have := HLEN.out; have := HPL.out; have := form_pos x; simp; omega
      · have := HB.out.size; simp; omega
      · intro v3 w3 ho3 hg3
        have HO3 := Lib.hid ho3
        have HB3 := Lib.hid (bw_grown (HB.out.alloc _) hg3 (row_own HO.out))
        clear ho3 hg3
        go_wp2
        go_roundw
        case rel =>
          refine ⟨x / 128, p ++ [UInt8.ofNat (x % 128 + 128)], by go_num, by omega, ?_, ?_, HB3.out⟩
          · rw [List.append_assoc, ← HP.out, form_step h128]; rfl
          · have := HO3.out
            simpa [Nat.add_assoc] using this
        case measure => simp [intOf]; omega
    · have hx7 : x < 128 := by omega
      go_wp2_with (at_builtin; refine append_bytes rfl (.tmp 31) (.tmp 34) rfl w.heap.size u7 (bs.length + p.length) (bs ++ p) rfl (HO.out.alloc _) (.slice (some ⟨wr.heap.size, 0, none⟩) 1 1) rfl [UInt8.ofNat x] (src_byte ?_ (by omega)) ?_ ?_ ?_)
      · first | rfl | (congr 1; omega) | omega
      · have := HLEN.out; have := HPL.out; have := form_pos x; simp; omega
      · have := HB.out.size; simp; omega
      · intro v3 w3 ho3 hg3
        have HB3 := Lib.hid (bw_grown (HB.out.alloc _) hg3 (row_own HO.out))
        have HPX : Hid (p ++ [UInt8.ofNat x] = form un) := by unfold Hid; rw [← HP.out, form_last hx7]
        have HO3 : Hid (w3.ownsRow w.heap.size 5 1 v3 (bs.length + (form un).length) ((bs ++ form un).map bV)) := by
          unfold Hid; rw [← HPX.out]; simpa [Nat.add_assoc] using ho3
        clear ho3 hg3
        go_wp2_with (at_builtin; refine append_text rfl (.tmp 36) (.tmp 37) rfl w.heap.size v3 (bs.length + (form un).length) (bs ++ form un) rfl HO3.out s rfl ?_ ?_ ?_)
        · have := HLEN.out; have := HF10.out; omega
        · exact HB3.out.size
        · intro v4 w4 ho4 hg4
          have HB4 := Lib.hid (bw_grown HB3.out hg4 (row_own HO3.out))
          have HO4 := Lib.hid ho4
          clear ho4 hg4
          go_wp2
          go_ret
          refine ⟨_, rfl, ?_, HB4.out⟩
          rw [len_three]
          show w4.ownsRow w.heap.size 5 1 v4 _ _
          simpa [Nat.add_assoc] using HO4.out

set_option maxHeartbeats 1000000 in
theorem putUint_any {w : World} {bv : Value} {bs : List UInt8} (hsrc : Src w bv (bs.map bV)) (n : Nat) (hn : n < 18446744073709551616) (hlen : bs.length + 10 ≤ 140737488355328) :
    Calls Try.prog 36 #[bv, .int .u64 (n : Int)] w (BytesPost w (bs ++ form n)) := by
  have H := Lib.hid (put_U hsrc n hn ⟨#[]⟩ hlen)
  clear hsrc hn hlen
  go_enter Try.func36, Try.ntmps36
  go_wp2_with fail
  refine H.out.mono ?_
  rintro e w1 ⟨v, rfl, hh⟩
  rw [List.append_nil] at hh
  have HH := Lib.hid hh
  clear hh
  go_wp2
  go_ret
  exact ⟨v, rfl, HH.out⟩
end Go.Proofs.Ytaaeaaahllicbaa
