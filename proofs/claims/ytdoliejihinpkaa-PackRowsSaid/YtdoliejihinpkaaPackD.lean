/- pack: slices.Min; the document's Width, bit. -/
import Derived.Test.YtdoliejihinpkaaPackC
namespace Go.Proofs.Ytdoliejihinpkaa
open Go.RowKit Go.Maps

set_option maxHeartbeats 1000000 in
theorem min_any {w : World} {v : Value} {l : List Int} (h : Src w v (l.map iV)) (h0 : l ≠ []) (hl : I64s l) : Calls Try.prog 49 #[v] w fun e w' => e = .returned (.int .i64 (minL l)) ∧ w = w' := by
  rcases h with ⟨ao1, cp1, rfl, e1, _, _⟩ | ⟨b1, o1, c1, rfl, a1, a2, a3, a4⟩
  · exact absurd (by simpa using e1) h0
  · rw [List.length_map] at a1 ⊢
    have A4 := Lib.hid a4
    have HL := Lib.hid hl
    have hle : (l.length : Int) ≤ 9223372036854775807 := by omega
    have hpos : 0 < l.length := List.length_pos_iff.2 h0
    have hp1 : (1 : Int) ≤ (l.length : Int) := by omega
    have HT1 : Hid (minL (l.take 1) = l[0]) := by
      unfold Hid
      cases l with
      | nil => exact absurd rfl h0
      | cons a r => rfl
    have hx0 : (l.map iV)[0]? = some (.int .i64 l[0]) := by rw [List.getElem?_map, List.getElem?_eq_getElem hpos]; rfl
    have c0 := a4 0 _ hx0
    rw [Nat.add_zero] at c0
    have c0' : w.cell? ⟨b1, o1 + 0, none⟩ = some (.int .i64 l[0]) := c0
    have HI0 := Lib.hid (hl _ (List.getElem_mem hpos))
    clear a1 a2 a3 a4 hl hx0 h0
    generalize hz : l[0] = z at *
    clear hz
    go_enter Try.func49, Try.ntmps49
    go_wp2
    go_loop [3, 4] (fun u i => ∃ k : Nat, 1 ≤ k ∧ k ≤ l.length ∧ i = .int .i64 k ∧ ∃ m, u = .int .i64 m ∧ m = minL (l.take k)) (fun _ i => l.length - (intOf i).toNat)
    case atStart => exact ⟨1, Nat.le_refl _, by omega, rfl, _, rfl, HT1.out.symm⟩
    case round =>
      obtain ⟨k, hk1, hk, rfl, m, rfl, hm⟩ := hrel
      have HM := Lib.hid hm
      clear hm
      by_cases hlt : k < l.length
      · have hx : (l.map iV)[k]? = some (.int .i64 l[k]) := by rw [List.getElem?_map, List.getElem?_eq_getElem hlt]; rfl
        have ca := A4.out k _ hx
        clear hx
        have HNO : Hid (min m l[k] = minL (l.take (k + 1))) := by
          unfold Hid
          rw [List.take_succ_eq_append_getElem hlt, minL_snoc (by intro e; have := congrArg List.length e; rw [List.length_take, List.length_nil] at this; omega), HM.out]
        generalize l[k] = c at *
        have hi : (k : Int) < (l.length : Int) := by omega
        have hi0 : (0 : Int) ≤ (k : Int) := by omega
        go_wp2
        go_round
        case rel => exact ⟨k + 1, by omega, by omega, by go_num, _, rfl, HNO.out⟩
        case measure => simp [intOf]; omega
      · have hk2 : l.length = k := by omega
        have HK := Lib.hid hk2
        have hge : (l.length : Int) ≤ (k : Int) := by omega
        clear hk2
        go_wp2
        go_ret
        exact ⟨ret_int (by rw [HM.out, ← HK.out, List.take_length]), rfl⟩
end Go.Proofs.Ytdoliejihinpkaa
