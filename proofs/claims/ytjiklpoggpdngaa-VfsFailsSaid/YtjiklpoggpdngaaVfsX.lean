/- What the statements themselves call: Bytes, Strings, begins, held, where they answer true. -/
import Derived.Test.YtjiklpoggpdngaaVfsW
namespace Go.Proofs.Ytjiklpoggpdngaa
open Go.RowKit Go.Maps Go.Sort

/-- a slice that can be read: nil, or cells one behind the other -/
def Src (w : World) (v : Value) (xs : List Value) : Prop :=
  (∃ ao cap, v = .slice ao 0 cap ∧ xs = [] ∧ (ao = none → cap = 0) ∧ (cap : Int) ≤ 9223372036854775807) ∨ ∃ b off cap, v = .slice (some ⟨b, off, none⟩) xs.length cap ∧ xs.length ≤ cap ∧ (cap : Int) ≤ 9223372036854775807 ∧ b < w.heap.size ∧ ∀ j u, xs[j]? = some u → w.cell? ⟨b, off + j, none⟩ = some u

theorem Src.of_row {w : World} {base : Nat} {e : TypeId} {n : Nat} {v : Value} {xs : List Value} (h : w.ownsRow base e 1 v n xs) : Src w v xs := by
  obtain ⟨h1, h2 | ⟨g', cap', cur', hv', _, hh, hn', hc', hcs', htk⟩⟩ := id h
  · refine .inl ⟨none, 0, h2.1, ?_, fun _ => rfl, by decide⟩
    rw [h2.2] at h1; simpa using h1
  · refine .inr ⟨g', 0, cap', ?_, by omega, by unfold maxLen at hc'; omega, lt_of_heap hh, ?_⟩
    · rw [hv', h1]; simp
    · intro j u hu
      obtain ⟨hj, he⟩ := List.getElem?_eq_some_iff.1 hu
      rw [← he]
      exact (row_cell h hv' hj).1
theorem Src.keep {w w' : World} {v : Value} {xs : List Value} (h : Src w v xs) (hs : w.heap.size ≤ w'.heap.size) (hb : xs ≠ [] → ∀ a n c, v = .slice (some a) n c → w'.heap[a.block]? = w.heap[a.block]?) : Src w' v xs := by
  rcases h with h | ⟨b, off, cap, hv, h1, h2, h3, h4⟩
  · exact .inl h
  · exact .inr ⟨b, off, cap, hv, h1, h2, Nat.lt_of_lt_of_le h3 hs, fun j u hu => (World.cell?_of_block (w := w) (a := ⟨b, off + j, none⟩) (hb (by rintro rfl; simp at hu) ⟨b, off, none⟩ _ _ hv)).trans (h4 j u hu)⟩
theorem Src.below {w w' : World} {v : Value} {xs : List Value} (h : Src w v xs) (hb : RowKit.Below w.heap.size w w') : Src w' v xs := by
  refine h.keep hb.size fun hne a n c e => ?_
  rcases h with ⟨_, _, _, h, _⟩ | ⟨b, off, cap, hv, h1, h2, h3, h4⟩
  · exact absurd h hne
  · rw [hv] at e; cases e; exact hb.block _ h3
theorem Src.len {w : World} {v : Value} {xs : List Value} (h : Src w v xs) : ∃ ao cap, v = .slice ao xs.length cap := by
  rcases h with ⟨ao, cap, h, h2, _⟩ | ⟨b, off, cap, hv, _⟩
  · rw [h2]; exact ⟨_, _, h⟩
  · exact ⟨_, _, hv⟩

theorem Src.nil (w : World) : Src w (.slice none 0 0) [] := .inl ⟨none, 0, rfl, rfl, fun _ => rfl, by decide⟩

def DrewTrue (w : World) (e : Ending) (w' : World) : Prop := e = .returned (.bool true) ∧ ∃ n, w' = w.drewN n

theorem drewN_drewN (w : World) (a b : Nat) : (w.drewN a).drewN b = w.drewN (a + b) := by
  unfold World.drewN; simp; omega
theorem drewN_below (w : World) (n : Nat) : RowKit.Below w.heap.size w (w.drewN n) := ⟨rfl, rfl, rfl, Nat.le_refl _, fun _ _ => rfl⟩

set_option maxHeartbeats 1000000 in
set_option maxRecDepth 100000 in
theorem bytes_true {w : World} {v1 v2 : Value} {l : List UInt8} (h1 : Src w v1 (l.map bV)) (h2 : Src w v2 (l.map bV)) :
    Calls Try.prog 13 #[v1, v2] w (DrewTrue w) := by
  rcases h1 with ⟨ao1, cp1, rfl, e1, _, _⟩ | ⟨b1, o1, c1, rfl, a1, a2, a3, a4⟩
  · have hl : l = [] := by simpa using e1
    subst hl
    obtain ⟨ao, cap, rfl⟩ := h2.len
    clear h2 e1
    simp only [List.map_nil, List.length_nil]
    go_enter Try.func13, Try.ntmps13
    go_wp2
    refine wp_loop_rounds 1 ?_
    rw [rounds_succ]
    go_wp2
    go_ret
    exact ⟨rfl, 0, rfl⟩
  · rcases h2 with ⟨ao2, cp2, rfl, e1, _, _⟩ | ⟨b2, o2, c2, rfl, d1, d2, d3, d4⟩
    · have hl : l = [] := by simpa using e1
      subst hl
      clear e1 a1 a2 a3 a4
      simp only [List.map_nil, List.length_nil]
      go_enter Try.func13, Try.ntmps13
      go_wp2
      refine wp_loop_rounds 1 ?_
      rw [rounds_succ]
      go_wp2
      go_ret
      exact ⟨rfl, 0, rfl⟩
    · rw [List.length_map] at a1 ⊢
      have A4 := Lib.hid a4; have D4 := Lib.hid d4
      have hle : (l.length : Int) ≤ 9223372036854775807 := by omega
      clear a1 a2 a3 a4 d1 d2 d3 d4
      go_enter Try.func13, Try.ntmps13
      go_wp2
      go_loopw [5] (fun i wr => ∃ k : Nat, k ≤ l.length ∧ i = .int .i64 k ∧ ∃ n, wr = w.drewN n) (fun i _ => l.length - (intOf i).toNat)
      case atStart => exact ⟨0, Nat.zero_le _, rfl, 0, rfl⟩
      case round =>
        obtain ⟨k, hk, rfl, n, rfl⟩ := hrel
        by_cases hlt : k < l.length
        · have hx : (l.map bV)[k]? = some (.int .u8 (l[k].toNat : Int)) := by rw [List.getElem?_map, List.getElem?_eq_getElem hlt]; rfl
          have ca := A4.out k _ hx
          have cb := D4.out k _ hx
          clear hx
          have hi : (k : Int) < (l.length : Int) := by omega
          have hi0 : (0 : Int) ≤ (k : Int) := by omega
          obtain ⟨c, hc⟩ : ∃ c : Int, c = (l[k].toNat : Int) := ⟨_, rfl⟩
          rw [← hc] at ca cb
          have hbe : (c != c) = false := by simp
          clear hc
          go_wp2
          go_quiet (fail)
          go_wp2
          go_roundw
          case rel => exact ⟨k + 1, by omega, by go_num, _, rfl⟩
          case measure => simp [intOf]; omega
        · go_wp2
          go_ret
          exact ⟨rfl, n, rfl⟩

set_option maxHeartbeats 1000000 in
set_option maxRecDepth 100000 in
theorem strings_true {w : World} {v1 v2 : Value} {l : List Nm} (h1 : Src w v1 (l.map encStr)) (h2 : Src w v2 (l.map encStr)) :
    Calls Try.prog 38 #[v1, v2] w (DrewTrue w) := by
  rcases h1 with ⟨ao1, cp1, rfl, e1, _, _⟩ | ⟨b1, o1, c1, rfl, a1, a2, a3, a4⟩
  · have hl : l = [] := by simpa using e1
    subst hl
    obtain ⟨ao, cap, rfl⟩ := h2.len
    clear h2 e1
    simp only [List.map_nil, List.length_nil]
    go_enter Try.func38, Try.ntmps38
    go_wp2
    refine wp_loop_rounds 1 ?_
    rw [rounds_succ]
    go_wp2
    go_ret
    exact ⟨rfl, 0, rfl⟩
  · rcases h2 with ⟨ao2, cp2, rfl, e1, _, _⟩ | ⟨b2, o2, c2, rfl, d1, d2, d3, d4⟩
    · have hl : l = [] := by simpa using e1
      subst hl
      clear e1 a1 a2 a3 a4
      simp only [List.map_nil, List.length_nil]
      go_enter Try.func38, Try.ntmps38
      go_wp2
      refine wp_loop_rounds 1 ?_
      rw [rounds_succ]
      go_wp2
      go_ret
      exact ⟨rfl, 0, rfl⟩
    · rw [List.length_map] at a1 ⊢
      have A4 := Lib.hid a4; have D4 := Lib.hid d4
      have hle : (l.length : Int) ≤ 9223372036854775807 := by omega
      clear a1 a2 a3 a4 d1 d2 d3 d4
      go_enter Try.func38, Try.ntmps38
      go_wp2
      go_loopw [5] (fun i wr => ∃ k : Nat, k ≤ l.length ∧ i = .int .i64 k ∧ ∃ n, wr = w.drewN n) (fun i _ => l.length - (intOf i).toNat)
      case atStart => exact ⟨0, Nat.zero_le _, rfl, 0, rfl⟩
      case round =>
        obtain ⟨k, hk, rfl, n, rfl⟩ := hrel
        by_cases hlt : k < l.length
        · have hx : (l.map encStr)[k]? = some (.string ⟨l[k].toArray⟩) := by rw [List.getElem?_map, List.getElem?_eq_getElem hlt]; rfl
          have ca := A4.out k _ hx
          have cb := D4.out k _ hx
          clear hx
          have hi : (k : Int) < (l.length : Int) := by omega
          have hi0 : (0 : Int) ≤ (k : Int) := by omega
          obtain ⟨c, hc⟩ : ∃ c : ByteArray, c = ⟨l[k].toArray⟩ := ⟨_, rfl⟩
          rw [← hc] at ca cb
          have hbe : (c.toList != c.toList) = false := by simp
          clear hc
          go_wp2
          go_quiet (fail)
          go_wp2
          go_roundw
          case rel => exact ⟨k + 1, by omega, by go_num, _, rfl⟩
          case measure => simp [intOf]; omega
        · go_wp2
          go_ret
          exact ⟨rfl, n, rfl⟩

end Go.Proofs.Ytjiklpoggpdngaa
