/- Stage 7, the laws: OrderDecimals. -/
import Derived.Test.YtghghekdheeknaaDoorOrtC
import Derived.Test.YtghghekdheeknaaDoorOrdI
namespace Go.Proofs.YtghghekdheeknaaDoor
open Go.RowKit Go.Maps Odr Go.Shelf
attribute [local go_sem] Oper.semAt_some

set_option maxRecDepth 100000 in
set_option maxHeartbeats 2000000 in
theorem refText_bad (n sc : Int) (hsc : ¬ (0 ≤ sc ∧ sc ≤ 9)) (w : World) : Calls Tryd.prog 12 #[.int .i64 n, .int .i64 sc] w (WritPost w ([], 1)) := by
  have hc : sc < 0 ∨ (0 ≤ sc ∧ 9 < sc) := by omega
  clear hsc
  rcases hc with h | ⟨h, h'⟩
  · go_enter Tryd.func12, Tryd.ntmps12
    go_wp2
    go_ret2
    exact ⟨rfl, BW.refl _⟩
  · go_enter Tryd.func12, Tryd.ntmps12
    go_wp2
    go_ret2
    exact ⟨rfl, BW.refl _⟩
set_option maxRecDepth 100000 in
set_option maxHeartbeats 2000000 in
theorem refDec_bad (s : List UInt8) (sc : Int) (hsc : ¬ (0 ≤ sc ∧ sc ≤ 9)) (w : World) : Calls Tryd.prog 10 #[textV s, .int .i64 sc] w (DecPost w (0, 1)) := by
  have hc : sc < 0 ∨ (0 ≤ sc ∧ 9 < sc) := by omega
  clear hsc
  rcases hc with h | ⟨h, h'⟩
  · go_enter Tryd.func10, Tryd.ntmps10
    go_wp2
    go_ret2
    exact ⟨rfl, BW.refl _⟩
  · go_enter Tryd.func10, Tryd.ntmps10
    go_wp2
    go_ret2
    exact ⟨rfl, BW.refl _⟩
theorem refText_any (n sc : Int) (hn : i64 n) (w : World) : Calls Tryd.prog 12 #[.int .i64 n, .int .i64 sc] w (WritPost w (textR n sc)) := by
  by_cases h : 0 ≤ sc ∧ sc ≤ 9
  · obtain ⟨k, rfl⟩ : ∃ k : Nat, sc = (k : Int) := ⟨sc.toNat, by omega⟩
    rw [show textR n (k : Int) = (textN n k, 0) by unfold textR; rw [if_pos h, Int.toNat_natCast]]
    exact refText_good n k hn.1 hn.2 (by omega) w
  · rw [show textR n sc = ([], 1) by unfold textR; rw [if_neg h]]
    exact refText_bad n sc h w
theorem refDec_any (s : List UInt8) (sc : Int) (hl : (s.length : Int) ≤ 140737488355000) (w : World) : Calls Tryd.prog 10 #[textV s, .int .i64 sc] w (DecPost w (decR s sc)) := by
  by_cases h : 0 ≤ sc ∧ sc ≤ 9
  · obtain ⟨k, rfl⟩ : ∃ k : Nat, sc = (k : Int) := ⟨sc.toNat, by omega⟩
    rw [show decR s (k : Int) = decPR (decN s k) by unfold decR decPR; rw [if_pos h, Int.toNat_natCast]; cases decN s k <;> rfl]
    rw [decN_P]
    cases hb : (s.head? == some 45)
    · rw [if_neg (by decide)]; exact refDec_plain s k (by omega) hl hb w
    · rw [if_pos rfl]; exact refDec_minus s k (by omega) hl hb w
  · rw [show decR s sc = (0, 1) by unfold decR; rw [if_neg h]]
    exact refDec_bad s sc h w
set_option maxRecDepth 100000 in
set_option maxHeartbeats 2000000 in
theorem decimals_any (s : List UInt8) (n sc : Int) (hs : (s.length : Int) ≤ 140737488351232) (hn : i64 n) (_hsc : i64 sc) (w : World) (hE : Env w) : Calls Tryd.prog 3 #[textV s, .int .i64 n, .int .i64 sc] w (TrueB w) := by
  obtain ⟨a, ha⟩ : ∃ a, a = (decR s sc).1 := ⟨_, rfl⟩
  obtain ⟨e1, he1⟩ : ∃ e, e = (decR s sc).2 := ⟨_, rfl⟩
  obtain ⟨t, ht⟩ : ∃ t, t = ByteArray.mk (textR n sc).1.toArray := ⟨_, rfl⟩
  obtain ⟨g, hg⟩ : ∃ g, g = (textR n sc).2 := ⟨_, rfl⟩
  have vt : textV (textR n sc).1 = .string t := by rw [ht]; rfl
  obtain ⟨sv, hsv⟩ : ∃ sv, sv = textV s := ⟨_, rfl⟩
  have D1 : Hid (∀ W, Env W → Calls Tryd.prog 9 #[sv, .int .i64 sc] W fun e w' => e = .returned (.tuple #[.int .i64 a, .int .i64 e1]) ∧ BW W w') := fun W h => by
    rw [ha, he1, hsv]; exact decimal_any s sc (by omega) W h
  have D2 : Hid (∀ W, Calls Tryd.prog 10 #[sv, .int .i64 sc] W fun e w' => e = .returned (.tuple #[.int .i64 a, .int .i64 e1]) ∧ BW W w') := fun W => by
    rw [ha, he1, hsv]; exact refDec_any s sc (by omega) W
  have T1 : Hid (∀ W, Env W → Calls Tryd.prog 11 #[.int .i64 n, .int .i64 sc] W fun e w' => e = .returned (.tuple #[.string t, .int .i64 g]) ∧ BW W w') := fun W h => by
    rw [hg, ← vt]; exact text_any n sc hn.1 hn.2 W h
  have T2 : Hid (∀ W, Calls Tryd.prog 12 #[.int .i64 n, .int .i64 sc] W fun e w' => e = .returned (.tuple #[.string t, .int .i64 g]) ∧ BW W w') := fun W => by
    rw [hg, ← vt]; exact refText_any n sc hn W
  have HE := Lib.hid hE
  rw [← hsv]
  clear ha he1 ht hg vt hsv hE hs hn _hsc
  go_enter Tryd.func3, Tryd.ntmps3
  go_wp2_with fail
  refine (D1.out _ HE.out).mono ?_
  rintro e W2 ⟨rfl, h2⟩
  have H2 := Lib.hid h2
  clear h2 D1
  go_wp2_with fail
  refine (D2.out _).mono ?_
  rintro e W3 ⟨rfl, h3⟩
  have H3 := Lib.hid (H2.out.trans h3)
  clear h3 H2 D2
  go_wp2_with fail
  refine (T1.out _ (HE.out.bw H3.out)).mono ?_
  rintro e W4 ⟨rfl, h4⟩
  have H4 := Lib.hid (H3.out.trans h4)
  clear h4 H3 T1
  go_wp2_with fail
  refine (T2.out _).mono ?_
  rintro e W5 ⟨rfl, h5⟩
  have H5 := Lib.hid (H4.out.trans h5)
  clear h5 H4 T2
  have HA := Lib.hid (awake_any W5 (HE.out.bw H5.out))
  have b1 : (a == a) = true := beq_self_eq_true a
  have b2 : (e1 == e1) = true := beq_self_eq_true e1
  have b3 : (t.toList == t.toList) = true := beq_self_eq_true _
  have b4 : (g == g) = true := beq_self_eq_true g
  go_wp2_with fail
  refine HA.out.mono ?_
  rintro e W6 ⟨rfl, h6⟩
  have H6 := Lib.hid (H5.out.trans h6)
  clear h6 HA
  go_wp2
  go_ret
  exact ⟨ret_bool (by simp), H6.out⟩
end Go.Proofs.YtghghekdheeknaaDoor
