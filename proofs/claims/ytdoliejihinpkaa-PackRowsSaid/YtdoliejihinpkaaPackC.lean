/- pack: packedBytes, mostBytes; Width; slices.Min. -/
import Derived.Test.YtdoliejihinpkaaPackA
namespace Go.Proofs.Ytdoliejihinpkaa
open Go.RowKit Go.Maps

theorem packed_cut (n k : Nat) : n / 8 * k + (n % 8 * k + 7) / 8 = packed n k := by
  unfold packed
  have h : n * k = 8 * (n / 8 * k) + n % 8 * k := by
    rw [← Nat.mul_assoc, ← Nat.add_mul, Nat.div_add_mod]
  omega
theorem packedBytes_any (n k : Nat) (w : World) (hn : n ≤ 140737488355328) (hk : k ≤ 64) : Calls Try.prog 34 #[.int .i64 (n : Int), .int .i64 (k : Int)] w fun e w' => e = .returned (.int .i64 (packed n k : Int)) ∧ w = w' := by
  have e := packed_cut n k
  have hq : n / 8 ≤ 17592186044416 := by omega
  have hr : n % 8 ≤ 7 := by omega
  have hp1 : n / 8 * k ≤ 17592186044416 * 64 := Nat.mul_le_mul hq hk
  have hp2 : n % 8 * k ≤ 7 * 64 := Nat.mul_le_mul hr hk
  have i1 : IntKind.i64.wrap ((n : Int) / 8 * (k : Int)) = ((n / 8 * k : Nat) : Int) := by
    rw [show (n : Int) / 8 * (k : Int) = ((n / 8 * k : Nat) : Int) by push_cast; rfl]
    exact IntWalk.i64_in _ (by omega)
  have i2 : IntKind.i64.wrap ((n : Int) % 8 * (k : Int)) = ((n % 8 * k : Nat) : Int) := by
    rw [show (n : Int) % 8 * (k : Int) = ((n % 8 * k : Nat) : Int) by push_cast; rfl]
    exact IntWalk.i64_in _ (by omega)
  generalize n / 8 * k = p1 at *
  generalize n % 8 * k = p2 at *
  have hn0 : (0 : Int) ≤ (n : Int) := by omega
  have hn1 : (n : Int) ≤ 140737488355328 := by omega
  have hp1' : (p1 : Int) ≤ 1125899906842624 := by omega
  have hp2' : (p2 : Int) ≤ 448 := by omega
  have E := Lib.hid e
  clear e hn hq hr hp1 hp2
  go_enter Try.func34, Try.ntmps34
  go_wp2
  go_ret
  refine ⟨ret_int ?_, rfl⟩
  rw [← E.out]
  push_cast
  omega
theorem mostBytes_any (n : Nat) (w : World) (hn : n ≤ 1048576) : Calls Try.prog 42 #[.int .i64 (n : Int)] w fun e w' => e = .returned (.int .i64 ((11 * ((n + 127) / 128) + 8 * n : Nat) : Int)) ∧ w = w' := by
  have e : packed n 64 = 8 * n := by unfold packed; omega
  have H := Lib.hid (packedBytes_any n 64 w (by omega) (by decide))
  have hn1 : (n : Int) ≤ 1048576 := by omega
  have E := Lib.hid e
  clear e
  go_enter Try.func42, Try.ntmps42
  go_wp2_with (go_at_call 34; refine H.out.mono ?_; rintro e w' ⟨rfl, rfl⟩; rw [E.out])
  go_ret
  refine ⟨ret_int ?_, rfl⟩
  omega

theorem wid_bitLen : ∀ f n : Nat, Lib.bitLenAux f n = widN f n
  | 0, _ => rfl
  | f + 1, n => by unfold Lib.bitLenAux widN; rw [wid_bitLen f]; split <;> omega
theorem or_lt {a b k : Nat} : a ||| b < 2 ^ k ↔ a < 2 ^ k ∧ b < 2 ^ k :=
  ⟨fun h => ⟨Nat.lt_of_le_of_lt Nat.left_le_or h, Nat.lt_of_le_of_lt Nat.right_le_or h⟩, fun h => Nat.or_lt_two_pow h.1 h.2⟩

def WidPost (w : World) (l : List Nat) (e : Ending) (w' : World) : Prop := e = .returned (.int .i64 (widP l : Int)) ∧ ∃ n, w' = w.drewN n
def OrAll (l : List Nat) (k : Nat) (a : Nat) : Prop := a < 18446744073709551616 ∧ ∀ v, a < 2 ^ v ↔ ∀ x ∈ l.take k, x < 2 ^ v
set_option maxHeartbeats 1000000 in
theorem width_any {w : World} {v : Value} {l : List Nat} (h : Src w v (l.map uV)) (hl : U64s l) : Calls Try.prog 16 #[v] w (WidPost w l) := by
  have h64 : ∀ (a : Nat) (w : World), a < 18446744073709551616 → Calls Try.prog 38 #[.int .u64 (a : Int)] w fun e w' => e = .returned (.int .i64 (wid a : Int)) ∧ w = w' := by
    intro a w ha
    refine (Try.bits_Len64 (a : Int) w (by omega) (by omega)).mono ?_
    rintro e w' ⟨h1, h2⟩
    refine ⟨?_, h2.symm⟩
    rw [h1]; unfold Lib.bitLen wid; rw [wid_bitLen]; rfl
  have H64 := Lib.hid h64
  have HL := Lib.hid hl
  have hfin : ∀ a, OrAll l l.length a → wid a = widP l := by
    intro a ⟨h1, h2⟩
    rw [List.take_length] at h2
    refine (widP_eq hl ((h2 _).1 ((wid_le h1).1 (Nat.le_refl _))) fun v hv => (wid_le h1).2 ((h2 v).2 hv)).symm
  have HF := Lib.hid hfin
  clear h64 hl hfin
  rcases h with ⟨ao1, cp1, rfl, e1, _, _⟩ | ⟨b1, o1, c1, rfl, a1, a2, a3, a4⟩
  · have hl : l = [] := by simpa using e1
    subst hl
    go_enter Try.func16, Try.ntmps16
    go_wp2
    refine wp_loop_rounds 1 ?_
    rw [rounds_succ]
    go_wp2_with (go_at_call 38; refine (H64.out 0 _ (by decide)).mono ?_; rintro e w' ⟨rfl, rfl⟩)
    go_ret
    exact ⟨rfl, 0, rfl⟩
  · rw [List.length_map] at a1 ⊢
    have A4 := Lib.hid a4
    have hle : (l.length : Int) ≤ 9223372036854775807 := by omega
    clear a1 a2 a3 a4
    go_enter Try.func16, Try.ntmps16
    go_wp2
    go_loopw [3, 8] (fun u i wr => ∃ k a : Nat, k ≤ l.length ∧ i = .int .i64 k ∧ u = .int .u64 (a : Int) ∧ OrAll l k a ∧ ∃ n, wr = w.drewN n) (fun _ i _ => l.length - (intOf i).toNat)
    case atStart => exact ⟨0, 0, Nat.zero_le _, rfl, rfl, ⟨by decide, by intro v; simp [two_pos]⟩, 0, rfl⟩
    case round =>
      obtain ⟨k, a, hk, rfl, rfl, ha, n, rfl⟩ := hrel
      have ha1 := ha.1
      by_cases hlt : k < l.length
      · have hx : (l.map uV)[k]? = some (.int .u64 (l[k] : Int)) := by rw [List.getElem?_map, List.getElem?_eq_getElem hlt]; rfl
        have ca := A4.out k _ hx
        clear hx
        have hc1 : l[k] < 18446744073709551616 := HL.out _ (List.getElem_mem hlt)
        have hno : OrAll l (k + 1) (a ||| l[k]) := by
          refine ⟨or_lt (k := 64).2 ⟨ha1, hc1⟩, fun v => ?_⟩
          rw [or_lt, ha.2 v, List.take_succ_eq_append_getElem hlt]
          constructor
          · rintro ⟨h1, h2⟩ x hx
            rcases List.mem_append.1 hx with hx | hx
            · exact h1 x hx
            · rw [List.mem_singleton.1 hx]; exact h2
          · intro h1
            exact ⟨fun x hx => h1 x (List.mem_append_left _ hx), h1 _ (List.mem_append_right _ (List.mem_singleton.2 rfl))⟩
        have hor := u64_or_nat a l[k] ha1 hc1
        have HNO := Lib.hid hno
        have HA := Lib.hid ha
        generalize l[k] = c at *
        have hi : (k : Int) < (l.length : Int) := by omega
        have hi0 : (0 : Int) ≤ (k : Int) := by omega
        clear ha hno ha1 hc1
        go_wp2
        go_roundw
        case rel => exact ⟨k + 1, a ||| c, by omega, by go_num, by first | rfl | rw [hor], HNO.out, _, rfl⟩
        case measure => simp [intOf]; omega
      · obtain rfl : k = l.length := by omega
        have HW := Lib.hid (HF.out a ha)
        have HA := Lib.hid (H64.out a (w.drewN n) ha1)
        clear ha ha1
        go_wp2_with (go_at_call 38; refine HA.out.mono ?_; rintro e w' ⟨rfl, rfl⟩)
        go_ret
        exact ⟨ret_int (by rw [HW.out]), n, rfl⟩
end Go.Proofs.Ytdoliejihinpkaa
