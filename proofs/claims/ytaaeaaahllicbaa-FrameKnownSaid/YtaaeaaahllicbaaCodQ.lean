/- What the statements call: Bytes, awake and the like; End. -/
import Derived.Test.YtaaeaaahllicbaaCodL
import Derived.Test.YtaaeaaahllicbaaCodP
namespace Go.Proofs.Ytaaeaaahllicbaa
open Go.RowKit Go.Maps

theorem ReadG.some {w w' : World} {r c : Nat} {l : List UInt8} {z : Value} {D : Option (Value × Nat)} {e : Ending} (h : ReadG w r c l z (QD D) (D = none) e w') {v : Value} {k : Nat} (hd : D = some (v, k)) : e = .returned v ∧ Moves (fun b => b = r) w w' ∧ Rd w' r c (l.drop k) 0 := by
  obtain ⟨v', rfl, hm, ⟨k', h1, h2⟩ | ⟨h1, _⟩⟩ := h
  · unfold QD at h1
    rw [hd] at h1
    cases h1
    exact ⟨rfl, hm, h2⟩
  · rw [hd] at h1; cases h1
theorem ReadG.none {w w' : World} {r c : Nat} {l : List UInt8} {z : Value} {D : Option (Value × Nat)} {e : Ending} (h : ReadG w r c l z (QD D) (D = none) e w') (hd : D = none) : e = .returned z ∧ Moves (fun b => b = r) w w' ∧ Rd w' r c l 20 := by
  obtain ⟨v', rfl, hm, ⟨k', h1, h2⟩ | ⟨_, rfl, h2⟩⟩ := h
  · unfold QD at h1
    rw [hd] at h1
    cases h1
  · exact ⟨rfl, hm, h2⟩

theorem Rd.toErr {w : World} {r c : Nat} {l : List UInt8} {e : Int} (h : Rd w r c l e) (e' : Int) : Rd (w.setCell ⟨r, 1, none⟩ (.int .i64 e')) r c l e' ∧ Moves (fun b => b = r) w (w.setCell ⟨r, 1, none⟩ (.int .i64 e')) := by
  have hm : Moves (fun b => b = r) w (w.setCell ⟨r, 1, none⟩ (.int .i64 e')) := Moves.setCell (F := fun b => b = r) (Moves.refl _ _) (fun _ => rfl) _
  obtain ⟨v, h1, h2, h3⟩ := h.ex
  refine ⟨⟨⟨v, heap_set h1 _, h2.keep hm.size ?_, h3⟩, h.ne, Nat.lt_of_lt_of_le h.lt hm.size, h.len⟩, hm⟩
  intro hne a n k hv
  have hl : l ≠ [] := by rintro rfl; exact hne rfl
  have hb := h3 hl a n k hv
  exact hm.block _ (by rw [hb]; exact h.lt) (by rw [hb]; exact fun e => h.ne hl e.symm)

def EndPost (w : World) (r c : Nat) (l : List UInt8) (e : Int) (en : Ending) (w' : World) : Prop :=
  en = .returned (.int .i64 (if l = [] then e else 20)) ∧ Moves (fun b => b = r) w w' ∧ Rd w' r c l (if l = [] then e else 20)

set_option maxHeartbeats 1000000 in
theorem end_any {w : World} {r c : Nat} {l : List UInt8} {e : Int} (h : Rd w r c l e) : Calls Try.prog 42 #[.pointer (some ⟨r, 0, none⟩)] w (EndPost w r c l e) := by
  obtain ⟨ao, cap, g1, g2, g3⟩ := h.form
  have H := Lib.hid h
  have G1 := Lib.hid g1
  have f1 : w.frozen? ⟨r, 1, none⟩ = false := unfrozen_of g1
  have c1 : w.cell? ⟨r, 1, none⟩ = some (.int .i64 e) := cell_of g1 rfl
  obtain ⟨ln, hln⟩ : ∃ ln, l.length = ln := ⟨_, rfl⟩
  have HLN := Lib.hid hln
  have G1' : Hid (RdC w r (.slice ao ln cap) e) := by unfold Hid; rw [← hln]; exact g1
  unfold EndPost
  clear h g1 g2 g3
  by_cases hl : l = []
  · subst hl
    obtain rfl : ln = 0 := hln.symm
    rw [if_pos rfl]
    clear hln
    go_enter Try.func42, Try.ntmps42
    go_wp2_with (first | (go_at_call 51; refine (left_c G1'.out).mono ?_; rintro en w' ⟨rfl, rfl⟩) | (go_at_call 52; refine (err_c G1'.out).mono ?_; rintro en w' ⟨rfl, rfl⟩))
    go_ret
    exact ⟨rfl, Moves.refl _ _, H.out⟩
  · rw [if_neg hl]
    have hp : 0 < ln := by rw [← hln]; exact List.length_pos_iff.2 hl
    have hp2 : 0 < (ln : Int) := by omega
    have HE := Lib.hid (H.out.toErr 20)
    have G2 : Hid (RdC (w.setCell ⟨r, 1, none⟩ (.int .i64 20)) r (.slice ao ln cap) 20) := heap_set G1'.out _
    clear hln hl
    go_enter Try.func42, Try.ntmps42
    go_wp2_with (first | (go_at_call 51; refine (left_c G1'.out).mono ?_; rintro en w' ⟨rfl, rfl⟩) | (go_at_call 52; refine (err_c G2.out).mono ?_; rintro en w' ⟨rfl, rfl⟩))
    go_ret
    exact ⟨rfl, HE.out.2, HE.out.1⟩
set_option maxHeartbeats 1000000 in
theorem end_nil (w : World) : Calls Try.prog 42 #[.pointer none] w fun en w' => en = .returned (.int .i64 20) ∧ w = w' := by
  go_enter Try.func42, Try.ntmps42
  go_wp2_with (first | (go_at_call 51; refine (left_nil _).mono ?_; rintro en w' ⟨rfl, rfl⟩) | (go_at_call 52; refine (err_nil _).mono ?_; rintro en w' ⟨rfl, rfl⟩))
  go_ret
  exact ⟨rfl, rfl⟩

set_option maxHeartbeats 1000000 in
set_option maxRecDepth 100000 in
theorem bytes_true {w : World} {v1 v2 : Value} {l : List UInt8} (h1 : Src w v1 (l.map bV)) (h2 : Src w v2 (l.map bV)) :
    Calls Try.prog 12 #[v1, v2] w (DrewTrue w) := by
  rcases h1 with ⟨ao1, cp1, rfl, e1, _, _⟩ | ⟨b1, o1, c1, rfl, a1, a2, a3, a4⟩
  · have hl : l = [] := by simpa using e1
    subst hl
    obtain ⟨ao, cap, rfl⟩ := h2.len
    clear h2 e1
    simp only [List.map_nil, List.length_nil]
    go_enter Try.func12, Try.ntmps12
    go_wp2
    refine wp_loop_rounds 1 ?_
    rw [rounds_succ]
    go_wp2
    go_ret
    exact ⟨rfl, 0, rfl⟩
  · rcases h2 with ⟨ao2, cp2, rfl, e1, _, _⟩ | ⟨b2, o2, c2, rfl, d1, d2, d3, d4⟩
    · have hl : l = [] := by simpa using e1
      subst hl
      clear e1 a1 a2 a3 a4
      simp only [List.map_nil, List.length_nil]
      go_enter Try.func12, Try.ntmps12
      go_wp2
      refine wp_loop_rounds 1 ?_
      rw [rounds_succ]
      go_wp2
      go_ret
      exact ⟨rfl, 0, rfl⟩
    · rw [List.length_map] at a1 ⊢
      have A4 := Lib.hid a4; have D4 := Lib.hid d4
      have hle : (l.length : Int) ≤ 9223372036854775807 := by omega
      clear a1 a2 a3 a4 d1 d2 d3 d4
      go_enter Try.func12, Try.ntmps12
      go_wp2
      go_loopw [5] (fun i wr => ∃ k : Nat, k ≤ l.length ∧ i = .int .i64 k ∧ ∃ n, wr = w.drewN n) (fun i _ => l.length - (intOf i).toNat)
      case atStart => exact ⟨0, Nat.zero_le _, rfl, 0, rfl⟩
      case round =>
        obtain ⟨k, hk, rfl, n, rfl⟩ := hrel
        by_cases hlt : k < l.length
        · have hx : (l.map bV)[k]? = some (.int .u8 (l[k].toNat : Int)) := by rw [List.getElem?_map, List.getElem?_eq_getElem hlt]; rfl
          have ca := A4.out k _ hx
          have cb := D4.out k _ hx
          clear hx
          have hi : (k : Int) < (l.length : Int) := by omega
          have hi0 : (0 : Int) ≤ (k : Int) := by omega
          obtain ⟨c, hc⟩ : ∃ c : Int, c = (l[k].toNat : Int) := ⟨_, rfl⟩
          rw [← hc] at ca cb
          have hbe : (c != c) = false := by simp
          clear hc
          go_wp2
          go_quiet (fail)
          go_wp2
          go_roundw
          case rel => exact ⟨k + 1, by omega, by go_num, _, rfl⟩
          case measure => simp [intOf]; omega
        · go_wp2
          go_ret
          exact ⟨rfl, n, rfl⟩


def TruePost (w : World) (e : Ending) (w' : World) : Prop := e = .returned (.bool true) ∧ BW w w'
theorem bytes_b {w : World} {v1 v2 : Value} {l : List UInt8} (h1 : Src w v1 (l.map bV)) (h2 : Src w v2 (l.map bV)) : Calls Try.prog 12 #[v1, v2] w (TruePost w) := by
  refine (bytes_true h1 h2).mono ?_
  rintro e w' ⟨he, n, rfl⟩
  exact ⟨he, drewN_below w n⟩

end Go.Proofs.Ytaaeaaahllicbaa
