/- Stage 6, the program: the place n runes behind another; the iterator over grams. -/
import Derived.Test.YtljjaepadnmmeaaDoorAnbP
import Derived.Test.YtljjaepadnmmeaaDoorAnbA
namespace Go.Proofs.YtljjaepadnmmeaaDoor
open Go.RowKit Go.Maps Fld Ana
attribute [local go_sem] Oper.semAt_some

/-- the program's Next is known from here on -/
def NextOk (w : World) : Prop := ∀ W, BW w W → ∀ (l : List UInt8) (at' : Int), (l.length : Int) ≤ 1000000000000000 → -9223372036854775808 ≤ at' → at' ≤ 9223372036854775807 → Calls Tryd.prog 83 #[textV l, .int .i64 at'] W (NextPost W (nextAt l at'))
theorem NextOk.bw {w W : World} (h : NextOk w) (hb : BW w W) : NextOk W := fun W' hb' => h W' (hb.trans hb')
/-- the place of a rune, the text's end where there are fewer -/
def atM (l : List UInt8) (i : Nat) : Nat := atL l (min i (cutsL l).length)
theorem atM_le (l : List UInt8) (i : Nat) : atM l i ≤ l.length := by
  have := at_le (s := l) (Nat.min_le_right i (cutsL l).length) (Nat.le_refl _); rw [at_end] at this; exact this
theorem atM_mono {l : List UInt8} {i k : Nat} (h : i ≤ k) : atM l i ≤ atM l k := at_le (by omega) (Nat.min_le_right ..)
theorem atM_step (l : List UInt8) (i : Nat) : atM l i + (nextAt l (atM l i : Int)).2 = atM l (i + 1) := by
  unfold atM
  by_cases h : i < (cutsL l).length
  · rw [Nat.min_eq_left (by omega), Nat.min_eq_left (by omega)]
    obtain ⟨r, p, _, h2, h3, _⟩ := at_next h
    have h4 : atL l i < l.length := by have := at_lt h (Nat.le_refl _); rw [at_end] at this; exact this
    unfold nextAt
    rw [if_neg (by omega), Int.toNat_natCast, h3, h2]
  · rw [Nat.min_eq_right (by omega), Nat.min_eq_right (by omega), at_end]
    unfold nextAt
    rw [if_pos (by omega)]; rfl
set_option maxRecDepth 100000 in
set_option maxHeartbeats 2000000 in
theorem behind_gen (l : List UInt8) (hl : (l.length : Int) ≤ 1000000000000000) (f : Nat → Nat) (hf : ∀ j, f j + (nextAt l (f j : Int)).2 = f (j + 1)) (hle : ∀ j, f j ≤ l.length) (n : Nat) (hn : n ≤ 100) (w : World) (hN : NextOk w) : Calls Tryd.prog 65 #[textV l, .int .i64 (f 0 : Int), .int .i64 (n : Int)] w fun e w' => e = .returned (.int .i64 (f n : Int)) ∧ BW w w' := by
  have HNX := Lib.hid (fun W (hW : BW w W) (k : Nat) (hk : k ≤ l.length) => hN W hW l (k : Int) hl (by omega) (by omega))
  have HST := Lib.hid hf
  have HLE := Lib.hid hle
  obtain ⟨tx, htx⟩ : ∃ tx, tx = ByteArray.mk l.toArray := ⟨_, rfl⟩
  unfold textV at HNX ⊢
  rw [← htx] at HNX ⊢
  have HL := Lib.hid hl
  have HN := Lib.hid hn
  clear htx hl hN hn hf hle
  go_enter Tryd.func65, Tryd.ntmps65
  go_wp2
  go_loopw [1, 7, 8, 10] (fun s1 _ _ s10 wx => ∃ j : Nat, j ≤ n ∧ s10 = .int .i64 (j : Int) ∧ s1 = .int .i64 (f j : Int) ∧ BW w wx) (fun _ _ _ s10 _ => n - (intOf s10).toNat)
  case atStart => exact ⟨0, Nat.zero_le _, rfl, rfl, BW.refl _⟩
  case round =>
    obtain ⟨j, hj, rfl, rfl, hb⟩ := hrel
    have HB := Lib.hid hb
    have HJ := Lib.hid hj
    clear hb hj
    obtain ⟨K, hK⟩ : ∃ K, K = f j := ⟨_, rfl⟩
    rw [← hK]
    by_cases hlt : j < n
    · have hlti : (j : Int) < (n : Int) := by omega
      have hKl : K ≤ l.length := by rw [hK]; exact HLE.out _
      have hst := HST.out j
      have HC := Lib.hid (HNX.out wr HB.out K hKl)
      rw [← hK] at hst
      obtain ⟨r, hr⟩ : ∃ r, r = (nextAt l (K : Int)).1 := ⟨_, rfl⟩
      obtain ⟨q, hq⟩ : ∃ q, q = (nextAt l (K : Int)).2 := ⟨_, rfl⟩
      have HPQ : Hid (nextAt l (K : Int) = (r, q)) := by unfold Hid; rw [hr, hq]
      rw [HPQ.out] at HC hst
      simp only at hst
      obtain ⟨t, ht⟩ : ∃ t, t = f (j + 1) := ⟨_, rfl⟩
      rw [← ht] at hst
      have HT := Lib.hid ht
      have htl : t ≤ l.length := by rw [ht]; exact HLE.out _
      have hti : (K : Int) + (q : Int) = (t : Int) := by omega
      have ht0 : 0 ≤ (t : Int) := by omega
      have htb : (t : Int) ≤ 1000000000000000 := by have := HL.out; omega
      have hwt : IntKind.i64.wrap (t : Int) = (t : Int) := wrap_small _ ht0 (by omega)
      have hjn : (j : Int) + 1 ≤ 100 := by have := HN.out; omega
      have HLT := Lib.hid hlt
      clear hK hKl hst hr hq ht htl hlt
      go_wp2_with fail
      refine HC.out.mono ?_
      rintro e w1 ⟨rfl, hb1⟩
      have HB1 := Lib.hid (HB.out.trans hb1)
      clear hb1 HC
      go_wp2
      go_roundw
      case rel => exact ⟨j + 1, HLT.out, by first | rfl | go_num, by rw [HT.out], HB1.out⟩
      case measure => simp [intOf]; have := HLT.out; omega
    · have hlti : (n : Int) ≤ (j : Int) := by omega
      have hjn : j = n := by have := HJ.out; omega
      clear hlt
      go_wp2
      go_ret
      exact ⟨by rw [hK, hjn]; rfl, HB.out⟩
theorem behind_any (l : List UInt8) (hl : (l.length : Int) ≤ 1000000000000000) (i n : Nat) (hn : n ≤ 100) (w : World) (hN : NextOk w) : Calls Tryd.prog 65 #[textV l, .int .i64 (atM l i : Int), .int .i64 (n : Int)] w fun e w' => e = .returned (.int .i64 (atM l (i + n) : Int)) ∧ BW w w' :=
  behind_gen l hl (fun j => atM l (i + j)) (fun j => atM_step l (i + j)) (fun j => atM_le l (i + j)) n hn w hN
theorem next_fits (l : List UInt8) {k : Nat} (hk : k ≤ l.length) : k + (nextAt l (k : Int)).2 ≤ l.length := by
  unfold nextAt
  split
  · simpa using hk
  · have h : k < l.length := by omega
    have := next_at h
    rw [Int.toNat_natCast]; omega
def stepsL (l : List UInt8) (k : Nat) : Nat → Nat
  | 0 => k
  | j + 1 => stepsL l k j + (nextAt l (stepsL l k j : Int)).2
theorem steps_le (l : List UInt8) {k : Nat} (hk : k ≤ l.length) : ∀ j, stepsL l k j ≤ l.length
  | 0 => hk
  | j + 1 => next_fits l (steps_le l hk j)
theorem behind_one (l : List UInt8) (hl : (l.length : Int) ≤ 1000000000000000) (k : Nat) (hk : k ≤ l.length) (w : World) (hN : NextOk w) : Calls Tryd.prog 65 #[textV l, .int .i64 (k : Int), .int .i64 1] w fun e w' => e = .returned (.int .i64 ((k + (nextAt l (k : Int)).2 : Nat) : Int)) ∧ BW w w' :=
  behind_gen l hl (stepsL l k) (fun _ => rfl) (steps_le l hk) 1 (by decide) w hN
end Go.Proofs.YtljjaepadnmmeaaDoor
