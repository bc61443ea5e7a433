/- The program's Kind. -/
import Derived.Test.YtaaeaaahllicbaaFrPA
namespace Go.Proofs.Ytaaeaaahllicbaa
open Go.RowKit Go.Maps Crc

def KindPostB (w : World) (k : Option UInt8) (e : Ending) (w' : World) : Prop := BW w w' ∧ ((∃ x : UInt8, k = some x ∧ e = .returned (.tuple #[bV x, .bool true])) ∨ (k = none ∧ e = .returned (.tuple #[.int .u8 0, .bool false])))
theorem kind_same {w : World} {k : Option UInt8} {e : Ending} {w' : World} (h : KindPost w k e w') : KindPostB w k e w' := by
  obtain ⟨rfl, h⟩ := h
  exact ⟨BW.refl _, h⟩
set_option maxHeartbeats 2000000 in
set_option maxRecDepth 100000 in
theorem kind_w {w : World} {v : Value} {bs : List UInt8} (h : Src w v (bs.map bV)) (hb : (bs.length : Int) ≤ 140737488351232) : Calls Try.prog 19 #[v] w (KindPost w (kindP bs)) := by
  obtain ⟨ao, cap, rfl⟩ := h.len
  rw [List.length_map] at h ⊢
  by_cases h4 : bs.length < 4
  · have HNO := Lib.hid (kindP_short bs h4)
    obtain ⟨n, hn⟩ : ∃ n, n = bs.length := ⟨_, rfl⟩
    rw [← hn] at h4 hb ⊢
    have hd : decide (n ≤ 3) = true := decide_eq_true (by omega)
    have hd' : decide ((n : Int) ≤ 3) = true := decide_eq_true (by omega)
    clear h h4 hn
    go_enter Try.func19, Try.ntmps19
    go_wp2
    go_ret2
    exact ⟨rfl, .inr ⟨HNO.out, rfl⟩⟩
  · obtain ⟨x0, x1, x2, x3, r, rfl⟩ := four_of bs h4
    have hcap : (x0 :: x1 :: x2 :: x3 :: r).length ≤ cap := by
      rcases h with ⟨ao', c', e, e2, h5, h6⟩ | ⟨b', off', c', hv, h1, h2, h3, h4⟩
      · simp at e2
      · injection hv with _ e1 e2; subst e2; rw [List.length_map] at h1; omega
    obtain ⟨b0, o0, rfl, c0⟩ := h.get (i := 0) (u := bV x0) rfl
    obtain ⟨b', o', e', c3⟩ := h.get (i := 3) (u := bV x3) rfl
    cases e'
    have hm := h.mid (i := 0) (j := 3) (by simp) (by omega)
    rw [Nat.add_zero] at hm c0
    have k3 : (convert 23 9 (.slice (some ⟨b0, o0, none⟩) 3 cap)).run Try.prog w = .ok (.string ⟨#[x0, x1, x2]⟩) w := src_string (bs := [x0, x1, x2]) hm
    unfold bV at c3
    obtain ⟨n, hn⟩ : ∃ n, n = (x0 :: x1 :: x2 :: x3 :: r).length := ⟨_, rfl⟩
    rw [← hn] at h4 hb hcap ⊢
    have hd : decide (n ≤ 3) = false := decide_eq_false (by omega)
    have hd' : decide ((n : Int) ≤ 3) = false := decide_eq_false (by omega)
    have hn4 : (3 : Int) < (n : Int) := by omega
    have hcap3 : (3 : Int) ≤ (cap : Int) := by omega
    clear h h4 hn c0 hm hcap
    by_cases ex : x0 = 76 ∧ x1 = 84 ∧ x2 = 1
    · obtain ⟨rfl, rfl, rfl⟩ := ex
      go_enter Try.func19, Try.ntmps19
      go_wp2
      go_ret2
      exact ⟨rfl, .inl ⟨x3, by rfl, rfl⟩⟩
    · have HNO : Hid (kindP (x0 :: x1 :: x2 :: x3 :: r) = none) := by unfold Hid; rw [kindP_cons, if_neg ex]
      go_enter Try.func19, Try.ntmps19
      go_wp2
      all_goals first | (exfalso; rename_i hh; exact ex (by simpa using hh)) | (go_ret2; exact ⟨rfl, .inr ⟨HNO.out, rfl⟩⟩)
theorem kind_any {w : World} {v : Value} {bs : List UInt8} (h : Src w v (bs.map bV)) (hb : (bs.length : Int) ≤ 140737488351232) : Calls Try.prog 19 #[v] w (KindPostB w (kindP bs)) := (kind_w h hb).mono fun _ _ => kind_same
end Go.Proofs.Ytaaeaaahllicbaa
