/- The document's Put. -/
import Derived.Test.YtdoliejihinpkaaRefV
namespace Go.Proofs.Ytdoliejihinpkaa
open Go.RowKit Go.Maps

theorem putP_next {l : List Int} {i j : Nat} {X : List UInt8} (hi : i < l.length) (hj : j = 128 * i) (h : X = putP (l.take j)) (hjl : j < l.length) : X ++ blockP ((l.drop j).take 128) = putP (l.take (j + 128)) := by
  have e : l.take (j + 128) = l.take j ++ (l.drop j).take 128 := by rw [List.take_add]
  have hne : (l.drop j).take 128 ≠ [] := by
    intro h0
    have := congrArg List.length h0
    rw [List.length_take, List.length_drop] at this
    simp at this; omega
  rw [e, putP_append i _ _ (by rw [List.length_take]; omega), ← h, putP_one hne (by rw [List.length_take]; omega)]

set_option maxRecDepth 100000 in
set_option maxHeartbeats 4000000 in
theorem refPut_any {w : World} {v : Value} {l : List Int} (h : Src w v (l.map iV)) (hl : I64s l) (hlen : l.length ≤ 2000) : Calls Try.prog 26 #[v] w (BytesPost w (putP l)) := by
  obtain ⟨ao, cap, rfl⟩ := h.len
  rw [List.length_map] at h ⊢
  have H := Lib.hid h
  have HL := Lib.hid hl
  obtain ⟨n, hn⟩ : ∃ n, n = l.length := ⟨_, rfl⟩
  rw [← hn] at H hlen ⊢
  have hle : (n : Int) ≤ 2000 := by omega
  have HN := Lib.hid hn
  clear h hl hn
  go_enter Try.func26, Try.ntmps26
  go_wp2
  go_loopg [3, 4] ((n + 127) / 128) (fun g s3 s4 wx => ∃ (j i : Nat) (X : List UInt8), i = 128 * j ∧ (n - i + 127) / 128 = g ∧ s4 = .int .i64 (i : Int) ∧ wx.ownsRow w.heap.size 5 1 s3 X.length (X.map bV) ∧ X = putP (l.take i) ∧ BW w wx)
  case atStart => exact ⟨0, 0, [], rfl, rfl, rfl, World.ownsRow_nil _ _ _ _, by rw [List.take_zero, putP_nil], BW.refl w⟩
  case round =>
    obtain ⟨j, i, X, hij, hig, rfl, hrow, hX, hbx⟩ := hrel
    have HROW := Lib.hid hrow
    have HBX := Lib.hid hbx
    have HX := Lib.hid hX
    have HIJ := Lib.hid hij
    clear hrow hbx hX hij
    cases gk with
    | zero =>
      have hge : (n : Int) ≤ (i : Int) := by omega
      have hd0 : decide (i < n) = false := decide_eq_false (by omega)
      have HFIN : Hid (X = putP l) := by unfold Hid; rw [HX.out, List.take_of_length_le (by have := HN.out; omega)]
      have hX := HFIN.out
      subst hX
      clear hig
      obtain ⟨o3, n3, c3, rfl⟩ := row_form HROW.out
      go_wp2
      go_ret
      exact ⟨_, rfl, HROW.out, HBX.out⟩
    | succ g =>
      have hi : (i : Int) < (n : Int) := by omega
      have hi0 : (0 : Int) ≤ (i : Int) := by omega
      have hil : i < l.length := by have := HN.out; omega
      obtain ⟨b0, o0, rfl, hc0⟩ := (H.out.below HBX.out).get (i := i) (u := .int .i64 l[i]) (by rw [List.getElem?_map, List.getElem?_eq_getElem hil]; rfl)
      have hcap : (n : Int) ≤ (cap : Int) := by
        rcases H.out with ⟨_, _, hv, hx, _⟩ | ⟨b, off, c, hv, h1, h2, h3, h4⟩
        · have := congrArg List.length hx; simp at this; subst this; simp at hil
        · injection hv with _ _ e; subst e; rw [List.length_map, ← HN.out] at h1; omega
      have HIG := Lib.hid hig
      clear hc0 hil hig
      obtain ⟨o3, n3, c3, rfl⟩ := row_form HROW.out
      by_cases hlt : n < i + 128
      · have hd : decide ((n : Int) < (i : Int) + 128) = true := decide_eq_true (by omega)
        have hdn : decide (n < i + 128) = true := decide_eq_true hlt
        have he1 : i < n := by omega
        have hen : n ≤ n := by omega
        have hs : (0 : Int) ≤ (n : Int) := by omega
        have HPART := Lib.hid ((H.out.below HBX.out).part (i := i) (j := n) (by rw [List.length_map, ← HN.out]; exact hen) he1)
        have HBLK : Hid (Src wr (.slice (some ⟨b0, o0 + i, none⟩) (n - i) (cap - i)) (((l.drop i).take 128).map iV)) := by
          unfold Hid
          have h1 := HPART.out
          have e1 : ((l.map iV).drop i).take (n - i) = ((l.drop i).take 128).map iV := by
            rw [List.map_take, List.map_drop, List.take_eq_take_iff, List.length_drop, List.length_map, ← HN.out]; omega
          rw [e1] at h1
          have hsub : n - i = (n - i) := by omega
          rw [hsub] at h1; exact h1
        have HONE := Lib.hid (refOne_any HBLK.out (by intro h0; have := congrArg List.length h0; rw [List.length_take, List.length_drop, ← HN.out] at this; simp at this; omega) (fun x hx => HL.out x (List.mem_of_mem_drop (List.mem_of_mem_take hx))) (by rw [List.length_take]; omega))
        have HEN : Hid ((n : Nat) = n) := rfl
        clear hen he1 HBLK HPART
        go_wp2_with fail
        refine HONE.out.mono ?_
        rintro e w2 ⟨v2, rfl, ho2, hb2⟩
        have HO2 := Lib.hid (Src.of_row ho2)
        have HB2 := Lib.hid (HBX.out.trans hb2)
        have HROW2 := Lib.hid (row_keep HROW.out fun a n c e => hb2.block _ (row_lt HROW.out e))
        obtain ⟨o2, n2, c2, rfl⟩ := row_form ho2
        have HNX := Lib.hid (putP_next (l := l) (i := j) (j := i) (X := X) (by have := HIJ.out; have := HN.out; omega) HIJ.out HX.out (by have := HN.out; omega))
        clear ho2 hb2
        go_wp2_with (at_builtin; refine append_bytes rfl (.tmp 26) (.tmp 27) rfl w.heap.size _ X.length X rfl HROW2.out _ rfl (blockP ((l.drop i).take 128)) HO2.out ?_ ?_ ?_)
        · have h1 := congrArg List.length HNX.out
          rw [List.length_append] at h1
          have h2 := put_most (l.take (i + 128)).length (l.take (i + 128)) rfl (fun x hx => HL.out x (List.mem_of_mem_take hx))
          have h3 : (l.take (i + 128)).length ≤ 2000 := by rw [List.length_take, ← HN.out]; omega
          omega
        · exact HB2.out.size
        intro v4 w4 ho4 hg4
        have HO4 : Hid (w4.ownsRow w.heap.size 5 1 v4 (putP (l.take (i + 128))).length ((putP (l.take (i + 128))).map bV)) := by
          unfold Hid
          rw [← HNX.out, List.length_append, List.map_append]; simpa using ho4
        have HB4 := Lib.hid (bw_grown HB2.out hg4 (row_own HROW2.out))
        clear ho4 hg4
        go_wp2
        go_roundg g
        case measure => omega
        case rel => exact ⟨j + 1, i + 128, _, by have := HIJ.out; omega, by have := HIG.out; omega, by first | rfl | simp, HO4.out, rfl, HB4.out⟩
      · have hd : decide ((n : Int) < (i : Int) + 128) = false := decide_eq_false (by omega)
        have hdn : decide (n < i + 128) = false := decide_eq_false hlt
        have he1 : i < (i + 128) := by omega
        have hen : (i + 128) ≤ n := by omega
        have hcap2 : (i : Int) + 128 ≤ (cap : Int) := by omega
        have HPART := Lib.hid ((H.out.below HBX.out).part (i := i) (j := (i + 128)) (by rw [List.length_map, ← HN.out]; exact hen) he1)
        have HBLK : Hid (Src wr (.slice (some ⟨b0, o0 + i, none⟩) 128 (cap - i)) (((l.drop i).take 128).map iV)) := by
          unfold Hid
          have h1 := HPART.out
          have e1 : ((l.map iV).drop i).take ((i + 128) - i) = ((l.drop i).take 128).map iV := by
            rw [List.map_take, List.map_drop, List.take_eq_take_iff, List.length_drop, List.length_map, ← HN.out]; omega
          rw [e1] at h1
          have hsub : (i + 128) - i = 128 := by omega
          rw [hsub] at h1; exact h1
        have HONE := Lib.hid (refOne_any HBLK.out (by intro h0; have := congrArg List.length h0; rw [List.length_take, List.length_drop, ← HN.out] at this; simp at this; omega) (fun x hx => HL.out x (List.mem_of_mem_drop (List.mem_of_mem_take hx))) (by rw [List.length_take]; omega))
        have HEN : Hid (((i + 128) : Nat) = (i + 128)) := rfl
        clear hen he1 HBLK HPART
        go_wp2_with fail
        refine HONE.out.mono ?_
        rintro e w2 ⟨v2, rfl, ho2, hb2⟩
        have HO2 := Lib.hid (Src.of_row ho2)
        have HB2 := Lib.hid (HBX.out.trans hb2)
        have HROW2 := Lib.hid (row_keep HROW.out fun a n c e => hb2.block _ (row_lt HROW.out e))
        obtain ⟨o2, n2, c2, rfl⟩ := row_form ho2
        have HNX := Lib.hid (putP_next (l := l) (i := j) (j := i) (X := X) (by have := HIJ.out; have := HN.out; omega) HIJ.out HX.out (by have := HN.out; omega))
        clear ho2 hb2
        go_wp2_with (at_builtin; refine append_bytes rfl (.tmp 26) (.tmp 27) rfl w.heap.size _ X.length X rfl HROW2.out _ rfl (blockP ((l.drop i).take 128)) HO2.out ?_ ?_ ?_)
        · have h1 := congrArg List.length HNX.out
          rw [List.length_append] at h1
          have h2 := put_most (l.take (i + 128)).length (l.take (i + 128)) rfl (fun x hx => HL.out x (List.mem_of_mem_take hx))
          have h3 : (l.take (i + 128)).length ≤ 2000 := by rw [List.length_take, ← HN.out]; omega
          omega
        · exact HB2.out.size
        intro v4 w4 ho4 hg4
        have HO4 : Hid (w4.ownsRow w.heap.size 5 1 v4 (putP (l.take (i + 128))).length ((putP (l.take (i + 128))).map bV)) := by
          unfold Hid
          rw [← HNX.out, List.length_append, List.map_append]; simpa using ho4
        have HB4 := Lib.hid (bw_grown HB2.out hg4 (row_own HROW2.out))
        clear ho4 hg4
        go_wp2
        go_roundg g
        case measure => omega
        case rel => exact ⟨j + 1, i + 128, _, by have := HIJ.out; omega, by have := HIG.out; omega, by first | rfl | simp, HO4.out, rfl, HB4.out⟩
end Go.Proofs.Ytdoliejihinpkaa
