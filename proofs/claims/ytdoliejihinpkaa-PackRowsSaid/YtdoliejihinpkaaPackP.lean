/- Int64s, Uint64s: the same ones. -/
import Derived.Test.YtdoliejihinpkaaPackO
import Derived.Test.YtdoliejihinpkaaCodO4
namespace Go.Proofs.Ytdoliejihinpkaa
open Go.RowKit Go.Maps

set_option maxHeartbeats 1000000 in
set_option maxRecDepth 100000 in
theorem ints_true {w : World} {v1 v2 : Value} {l : List Int} (h1 : Src w v1 (l.map iV)) (h2 : Src w v2 (l.map iV)) :
    Calls Try.prog 29 #[v1, v2] w (DrewTrue w) := by
  rcases h1 with ⟨ao1, cp1, rfl, e1, _, _⟩ | ⟨b1, o1, c1, rfl, a1, a2, a3, a4⟩
  · have hl : l = [] := by simpa using e1
    subst hl
    obtain ⟨ao, cap, rfl⟩ := h2.len
    clear h2 e1
    simp only [List.map_nil, List.length_nil]
    go_enter Try.func29, Try.ntmps29
    go_wp2
    refine wp_loop_rounds 1 ?_
    rw [rounds_succ]
    go_wp2
    go_ret
    exact ⟨rfl, 0, rfl⟩
  · rcases h2 with ⟨ao2, cp2, rfl, e1, _, _⟩ | ⟨b2, o2, c2, rfl, d1, d2, d3, d4⟩
    · have hl : l = [] := by simpa using e1
      subst hl
      clear e1 a1 a2 a3 a4
      simp only [List.map_nil, List.length_nil]
      go_enter Try.func29, Try.ntmps29
      go_wp2
      refine wp_loop_rounds 1 ?_
      rw [rounds_succ]
      go_wp2
      go_ret
      exact ⟨rfl, 0, rfl⟩
    · rw [List.length_map] at a1 ⊢
      have A4 := Lib.hid a4; have D4 := Lib.hid d4
      have hle : (l.length : Int) ≤ 9223372036854775807 := by omega
      clear a1 a2 a3 a4 d1 d2 d3 d4
      go_enter Try.func29, Try.ntmps29
      go_wp2
      go_loopw [5] (fun i wr => ∃ k : Nat, k ≤ l.length ∧ i = .int .i64 k ∧ ∃ n, wr = w.drewN n) (fun i _ => l.length - (intOf i).toNat)
      case atStart => exact ⟨0, Nat.zero_le _, rfl, 0, rfl⟩
      case round =>
        obtain ⟨k, hk, rfl, n, rfl⟩ := hrel
        by_cases hlt : k < l.length
        · have hx : (l.map iV)[k]? = some (.int .i64 l[k]) := by rw [List.getElem?_map, List.getElem?_eq_getElem hlt]; rfl
          have ca := A4.out k _ hx
          have cb := D4.out k _ hx
          clear hx
          have hi : (k : Int) < (l.length : Int) := by omega
          have hi0 : (0 : Int) ≤ (k : Int) := by omega
          obtain ⟨c, hc⟩ : ∃ c : Int, c = l[k] := ⟨_, rfl⟩
          rw [← hc] at ca cb
          have hbe : (c != c) = false := by simp
          clear hc
          go_wp2
          go_quiet (fail)
          go_wp2
          go_roundw
          case rel => exact ⟨k + 1, by omega, by go_num, _, rfl⟩
          case measure => simp [intOf]; omega
        · go_wp2
          go_ret
          exact ⟨rfl, n, rfl⟩


set_option maxHeartbeats 1000000 in
set_option maxRecDepth 100000 in
theorem uints_true {w : World} {v1 v2 : Value} {l : List Nat} (h1 : Src w v1 (l.map uV)) (h2 : Src w v2 (l.map uV)) :
    Calls Try.prog 19 #[v1, v2] w (DrewTrue w) := by
  rcases h1 with ⟨ao1, cp1, rfl, e1, _, _⟩ | ⟨b1, o1, c1, rfl, a1, a2, a3, a4⟩
  · have hl : l = [] := by simpa using e1
    subst hl
    obtain ⟨ao, cap, rfl⟩ := h2.len
    clear h2 e1
    simp only [List.map_nil, List.length_nil]
    go_enter Try.func19, Try.ntmps19
    go_wp2
    refine wp_loop_rounds 1 ?_
    rw [rounds_succ]
    go_wp2
    go_ret
    exact ⟨rfl, 0, rfl⟩
  · rcases h2 with ⟨ao2, cp2, rfl, e1, _, _⟩ | ⟨b2, o2, c2, rfl, d1, d2, d3, d4⟩
    · have hl : l = [] := by simpa using e1
      subst hl
      clear e1 a1 a2 a3 a4
      simp only [List.map_nil, List.length_nil]
      go_enter Try.func19, Try.ntmps19
      go_wp2
      refine wp_loop_rounds 1 ?_
      rw [rounds_succ]
      go_wp2
      go_ret
      exact ⟨rfl, 0, rfl⟩
    · rw [List.length_map] at a1 ⊢
      have A4 := Lib.hid a4; have D4 := Lib.hid d4
      have hle : (l.length : Int) ≤ 9223372036854775807 := by omega
      clear a1 a2 a3 a4 d1 d2 d3 d4
      go_enter Try.func19, Try.ntmps19
      go_wp2
      go_loopw [5] (fun i wr => ∃ k : Nat, k ≤ l.length ∧ i = .int .i64 k ∧ ∃ n, wr = w.drewN n) (fun i _ => l.length - (intOf i).toNat)
      case atStart => exact ⟨0, Nat.zero_le _, rfl, 0, rfl⟩
      case round =>
        obtain ⟨k, hk, rfl, n, rfl⟩ := hrel
        by_cases hlt : k < l.length
        · have hx : (l.map uV)[k]? = some (.int .u64 (l[k] : Int)) := by rw [List.getElem?_map, List.getElem?_eq_getElem hlt]; rfl
          have ca := A4.out k _ hx
          have cb := D4.out k _ hx
          clear hx
          have hi : (k : Int) < (l.length : Int) := by omega
          have hi0 : (0 : Int) ≤ (k : Int) := by omega
          obtain ⟨c, hc⟩ : ∃ c : Int, c = (l[k] : Int) := ⟨_, rfl⟩
          rw [← hc] at ca cb
          have hbe : (c != c) = false := by simp
          clear hc
          go_wp2
          go_quiet (fail)
          go_wp2
          go_roundw
          case rel => exact ⟨k + 1, by omega, by go_num, _, rfl⟩
          case measure => simp [intOf]; omega
        · go_wp2
          go_ret
          exact ⟨rfl, n, rfl⟩


end Go.Proofs.Ytdoliejihinpkaa
