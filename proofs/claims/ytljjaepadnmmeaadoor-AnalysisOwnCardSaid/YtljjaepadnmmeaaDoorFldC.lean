/- The document's Next. -/
import Derived.Test.YtljjaepadnmmeaaDoorFldB
import Derived.Deep.RegionHeld3
import Derived.Deep.CutRange
namespace Go.Proofs.YtljjaepadnmmeaaDoor
open Go.RowKit Go.Maps Fld

def nextAt (l : List UInt8) (at' : Int) : Nat × Nat := if at' < 0 ∨ (l.length : Int) ≤ at' then (0, 0) else nextL (l.drop at'.toNat)
def NextPost (w : World) (p : Nat × Nat) (e : Ending) (w' : World) : Prop := e = .returned (.tuple #[.int .i32 (p.1 : Int), .int .i64 (p.2 : Int)]) ∧ BW w w'
def textV (l : List UInt8) : Value := .string ⟨l.toArray⟩
theorem text_size (l : List UInt8) : (ByteArray.mk l.toArray).size = l.length := by simp [ByteArray.size]
theorem refNext_out {l : List UInt8} {at' : Int} (h : at' < 0 ∨ (l.length : Int) ≤ at') (_ : (l.length : Int) ≤ 1000000000000000) (w : World) : Calls Tryd.prog 67 #[textV l, .int .i64 at'] w (NextPost w (0, 0)) := by
  unfold textV
  have hs := text_size l
  obtain ⟨s, hs2⟩ : ∃ s, s = ByteArray.mk l.toArray := ⟨_, rfl⟩
  rw [← hs2] at hs ⊢
  rw [← hs] at h
  clear hs hs2
  by_cases h0 : at' < 0
  · have d : decide (at' < 0) = true := decide_eq_true h0
    go_enter Tryd.func67, Tryd.ntmps67
    go_wp2
    go_ret2
    exact ⟨rfl, BW.refl _⟩
  · have d : decide (at' < 0) = false := decide_eq_false h0
    have d2 : decide ((s.size : Int) ≤ at') = true := decide_eq_true (by omega)
    clear h
    go_enter Tryd.func67, Tryd.ntmps67
    go_wp2
    go_ret2
    exact ⟨rfl, BW.refl _⟩
theorem gath_lt (r : Nat) : ∀ (t : List UInt8), gath r t < (r + 1) * 64 ^ t.length := by
  intro t
  induction t generalizing r with
  | nil => simp [gath]
  | cons c t ih =>
    have h := ih (r * 64 + c.toNat % 64)
    have e : gath r (c :: t) = gath (r * 64 + c.toNat % 64) t := rfl
    rw [e, List.length_cons, Nat.pow_succ]
    have h2 : (r * 64 + c.toNat % 64 + 1) * 64 ^ t.length ≤ ((r + 1) * 64) * 64 ^ t.length := Nat.mul_le_mul_right _ (by omega)
    rw [Nat.mul_assoc, Nat.mul_comm 64] at h2
    omega
theorem gath_snoc (r : Nat) (t : List UInt8) (c : UInt8) : gath r (t ++ [c]) = gath r t * 64 + c.toNat % 64 := by unfold gath; rw [List.foldl_append]; rfl
theorem and_63 {x : Nat} (h : x < 256) : bits .and .u8 (x : Int) 63 = ((x % 64 : Nat) : Int) := by
  rw [show (63 : Int) = ((63 : Nat) : Int) from rfl, u8_and_nat _ _ h (by decide)]
  congr 1
  exact Nat.and_two_pow_sub_one_eq_mod x 6
theorem next_low {l : List UInt8} {k : Nat} (h : k < l.length) (hx : (l[k]).toNat < 128) : nextL (l.drop k) = ((l[k]).toNat, 1) := by
  rw [List.drop_eq_getElem_cons h]
  simp only [nextL, if_pos hx]
theorem next_none {l : List UInt8} {k : Nat} (h : k < l.length) (hx : ¬ (l[k]).toNat < 128) (hn : leadN (l[k]).toNat = 0) : nextL (l.drop k) = (65533, 1) := by
  rw [List.drop_eq_getElem_cons h]
  simp only [nextL, if_neg hx, hn]
  rw [if_neg (fun hh => by have := hh.1; omega)]
theorem next_cut {l : List UInt8} {k : Nat} (h : k < l.length) (hx : ¬ (l[k]).toNat < 128) (hn : l.length < k + leadN (l[k]).toNat) : nextL (l.drop k) = (65533, 1) := by
  rw [List.drop_eq_getElem_cons h]
  simp only [nextL, if_neg hx]
  rw [if_neg (fun hh => by have := hh.2.1; rw [List.length_cons, List.length_drop] at this; omega)]
theorem next_many {l : List UInt8} {k n : Nat} (h : k < l.length) (hx : ¬ (l[k]).toNat < 128) (hn : leadN (l[k]).toNat = n) (h2 : 2 ≤ n) (hl : k + n ≤ l.length) {r : Nat} (hr : gath (highN (l[k]).toNat) ((l.drop (k + 1)).take (n - 1)) = r) :
    nextL (l.drop k) = if isRune (r : Int) = true ∧ formP r = (l.drop k).take n then (r, n) else (65533, 1) := by
  subst hr
  have e := List.drop_eq_getElem_cons h
  rw [e]
  simp only [nextL, if_neg hx, hn]
  generalize gath (highN (l[k]).toNat) ((l.drop (k + 1)).take (n - 1)) = r
  by_cases hh : isRune (r : Int) = true ∧ formP r = (l[k] :: l.drop (k + 1)).take n
  · rw [if_pos hh, if_pos ⟨h2, by rw [List.length_cons, List.length_drop]; omega, hh.1, hh.2⟩]
  · rw [if_neg hh, if_neg (fun hq => hh ⟨hq.2.2.1, hq.2.2.2⟩)]

/-- one operation of a drawn region, taken first; its slot spelled -/
theorem takeT {P : Program} {md : Region.Mode} {ops : Array Oper} {Q : Exit → Act → World → Prop} {i d : Nat} {oi : Oper} {v : Value} {fuel : Nat} {listed : Array Bool} {a : Act} {w : World} (hi : ops[i]? = some oi) (hd : oi.dst = some d)
    (hs : Region.noSelect ops = true) (hf : Region.free md ops listed i = true) (hr : (Region.ready md ops listed).contains i = true) (hQ : ∀ c a w, Q (.panic c) (a.put oi.dst v) w → Q (.panic c) a w)
    (hw : Region.wanted oi (yielded ops a.tmps) = true) (hy : ∀ w, (execOp a.eval oi).run P w = .ok (.value v) w)
    (h : wpAnyH P md ops Q (fun _ => True) fuel (listed.setIfInBounds i true) { tmps := a.tmps.setIfInBounds d v, defers := a.defers } w) : wpAnyH P md ops Q (fun _ => True) (fuel + 1) listed a w := by
  refine wpAnyH_take hi hs hf hr hQ (Or.inl ⟨hw, fun w _ => hy w⟩) trivial ?_
  rw [hd]; exact h
set_option maxHeartbeats 8000000 in
set_option maxRecDepth 100000 in
theorem refNext_in {l : List UInt8} {k : Nat} (h : k < l.length) (hl : (l.length : Int) ≤ 1000000000000000) (w : World) : Calls Tryd.prog 67 #[textV l, .int .i64 (k : Int)] w (NextPost w (nextL (l.drop k))) := by
  unfold textV
  have hs := text_size l
  obtain ⟨s, hs2⟩ : ∃ s, s = ByteArray.mk l.toArray := ⟨_, rfl⟩
  rw [← hs2] at hs ⊢
  have hks : k < s.size := by omega
  have hki : (k : Int) < (s.size : Int) := by omega
  have hsi : (s.size : Int) ≤ 1000000000000000 := by omega
  have hk0 : 0 ≤ (k : Int) := by omega
  have d0 : decide ((k : Int) < 0) = false := decide_eq_false (by omega)
  have d2 : decide ((s.size : Int) ≤ (k : Int)) = false := decide_eq_false (by omega)
  have d2' : decide (s.size ≤ k) = false := decide_eq_false (by omega)
  obtain ⟨x, hx⟩ : ∃ x : Nat, x = (s[k]'hks).toNat := ⟨_, rfl⟩
  have hxi : ((s[k]'hks).toNat : Int) = (x : Int) := by rw [hx]
  have HK := Lib.hid h
  have HX : Hid (x = (l[k]'HK.out).toNat) := by unfold Hid; rw [hx]; subst hs2; rfl
  have hx256 : x < 256 := by rw [hx]; exact UInt8.toNat_lt _
  have HS := Lib.hid hs
  have HS2 := Lib.hid hs2
  have hx0 : 0 ≤ (x : Int) := by omega
  clear hx hs hs2 h
  by_cases h1 : x < 128
  · have d1 : decide ((x : Int) < 128) = true := decide_eq_true (by omega)
    have HN : Hid (nextL (l.drop k) = (x, 1)) := by unfold Hid; rw [next_low HK.out (by rw [← HX.out]; exact h1), HX.out]
    have hwx : IntKind.i32.wrap (x : Int) = (x : Int) := by rw [IntKind.wrap_i32]; omega
    clear h1
    go_enter Tryd.func67, Tryd.ntmps67
    go_wp2
    go_ret2
    rw [HN.out]
    exact ⟨rfl, BW.refl _⟩
  have d1 : decide ((x : Int) < 128) = false := decide_eq_false (by omega)
  have HX1 : Hid (¬ (l[k]'HK.out).toNat < 128) := by unfold Hid; rw [← HX.out]; exact h1
  by_cases hno : leadN x = 0
  · have HN : Hid (nextL (l.drop k) = (65533, 1)) := next_none HK.out HX1.out (by rw [← HX.out]; exact hno)
    have hcl : x < 192 ∨ 248 ≤ x := by
      unfold leadN at hno
      split at hno
      · omega
      · split at hno
        · omega
        · split at hno <;> omega
    rcases hcl with hc | hc
    · have e1 : decide (192 ≤ (x : Int)) = false := decide_eq_false (by omega)
      have e2 : decide (224 ≤ (x : Int)) = false := decide_eq_false (by omega)
      have e3 : decide (240 ≤ (x : Int)) = false := decide_eq_false (by omega)
      clear h1 hno hc
      go_enter Tryd.func67, Tryd.ntmps67
      go_wp2
      go_ret2
      rw [HN.out]
      exact ⟨rfl, BW.refl _⟩
    · have e1 : decide (192 ≤ (x : Int)) = true := decide_eq_true (by omega)
      have e1' : decide ((x : Int) < 224) = false := decide_eq_false (by omega)
      have e2 : decide (224 ≤ (x : Int)) = true := decide_eq_true (by omega)
      have e2' : decide ((x : Int) < 240) = false := decide_eq_false (by omega)
      have e3 : decide (240 ≤ (x : Int)) = true := decide_eq_true (by omega)
      have e3' : decide ((x : Int) < 248) = false := decide_eq_false (by omega)
      clear h1 hno hc
      go_enter Tryd.func67, Tryd.ntmps67
      go_wp2
      go_ret2
      rw [HN.out]
      exact ⟨rfl, BW.refl _⟩
  -- 2 bytes
  by_cases hc2 : 192 ≤ x ∧ x < 224
  · have HLD : Hid (leadN (l[k]'HK.out).toNat = 2) := by unfold Hid; rw [← HX.out]; unfold leadN; rw [if_pos (by omega)]
    obtain ⟨r0, hr0⟩ : ∃ r0, r0 = x - 192 := ⟨_, rfl⟩
    have HHI : Hid (highN (l[k]'HK.out).toNat = r0) := by unfold Hid; rw [← HX.out]; unfold highN; rw [if_pos (by omega), hr0]
    have q0 : decide (192 ≤ (x : Int)) = true := decide_eq_true (by omega)
    have q1 : decide ((x : Int) < 224) = true := decide_eq_true (by omega)
    have hsub : (x : Int) - 192 = (r0 : Int) := by omega
    have hr0b : r0 < 32 := by omega
    have hr00 : 0 ≤ (r0 : Int) := by omega
    have hwr : IntKind.i32.wrap (r0 : Int) = (r0 : Int) := by rw [IntKind.wrap_i32]; omega
    have hwu : IntKind.u8.wrap (r0 : Int) = (r0 : Int) := by rw [IntKind.wrap_u8']; omega
    by_cases hshort : s.size < k + 2
    · have d3 : decide ((s.size : Int) - (k : Int) < 2) = true := decide_eq_true (by omega)
      have HN : Hid (nextL (l.drop k) = (65533, 1)) := next_cut HK.out HX1.out (by rw [HLD.out, ← HS.out]; exact hshort)
      clear h1 hno hc2 hr0 hshort
      go_enter Tryd.func67, Tryd.ntmps67
      go_wp2
      go_ret2
      rw [HN.out]
      exact ⟨rfl, BW.refl _⟩
    have d3 : decide ((s.size : Int) - (k : Int) < 2) = false := decide_eq_false (by omega)
    have hkn : k + 2 ≤ s.size := by omega
    have hkni : (k : Int) + 2 ≤ (s.size : Int) := by omega
    have HGB : Hid (∀ j, j ≤ 2 - 1 → gath r0 ((l.drop (k + 1)).take j) < 2097152) := fun j hj => by
      have h1 := gath_lt r0 ((l.drop (k + 1)).take j)
      have h2 : 64 ^ ((l.drop (k + 1)).take j).length ≤ 64 ^ (2 - 1) := Nat.pow_le_pow_right (by decide) (by rw [List.length_take]; omega)
      have h3 : (r0 + 1) * 64 ^ ((l.drop (k + 1)).take j).length ≤ 32 * 64 ^ (2 - 1) := Nat.mul_le_mul (by omega) h2
      have h4 : 32 * 64 ^ (2 - 1) ≤ 2097152 := by decide
      omega
    have HKN := Lib.hid hkn
    clear h1 hno hc2 hr0 hshort hkn
    go_enter Tryd.func67, Tryd.ntmps67
    go_wp2
    go_loopg [8, 9] 1 (fun g s8 s9 wx => ∃ (j r : Nat), j + g = 1 ∧ s9 = .int .i64 ((j + 1 : Nat) : Int) ∧ s8 = .int .i32 (r : Int) ∧ r = gath r0 ((l.drop (k + 1)).take j) ∧ w = wx)
    case atStart => exact ⟨0, r0, by omega, rfl, rfl, rfl, rfl⟩
    case round =>
      obtain ⟨j, r, hjg, rfl, rfl, hr, rfl⟩ := hrel
      have hrb : r < 2097152 := by rw [hr]; exact HGB.out j (by omega)
      have hr00' : 0 ≤ (r : Int) := by omega
      have HR := Lib.hid hr
      have HJG := Lib.hid hjg
      obtain ⟨i, hi⟩ : ∃ i, i = j + 1 := ⟨_, rfl⟩
      rw [← hi]
      have HI := Lib.hid hi
      clear hr
      cases gk with
      | zero =>
        have hd0 : decide ((i : Int) < 2) = false := decide_eq_false (by omega)
        have hii : i = 2 := by omega
        have HRF : Hid (gath (highN (l[k]'HK.out).toNat) ((l.drop (k + 1)).take (2 - 1)) = r) := by
          unfold Hid; rw [HHI.out, HR.out, show j = 1 by omega]
        have HRN := Lib.hid (fun W => refRune_any (r : Int) W)
        have HNX := Lib.hid (next_many (n := 2) HK.out HX1.out HLD.out (by decide) (by have := HKN.out; have := HS.out; omega) HRF.out)
        clear hjg hi hii
        obtain ⟨t2, ht2⟩ : ∃ t2, t2 = k + 2 := ⟨_, rfl⟩
        have ht2i : (k : Int) + 2 = (t2 : Int) := by omega
        have hkt2 : (k : Int) ≤ (t2 : Int) := by omega
        have hwt2 : IntKind.i64.wrap (t2 : Int) = (t2 : Int) := IntWalk.i64_in _ (by omega)
        have ht20 : 0 ≤ (t2 : Int) := by omega
        have ht2s : (t2 : Int) ≤ (s.size : Int) := by omega
        have HCMP : Hid ((s.extract k t2).toList = (l.drop k).take 2) := by
          unfold Hid
          rw [HS2.out, ByteArray.extract_mk, ByteArray.toList_mk, ht2, show k + 2 - k = 2 by omega]
        have hri : (r : Int) < 2097152 := by omega
        have HD := Lib.hid (bw_drew (BW.refl w) 1)
        by_cases hru : isRune (r : Int) = true
        · have HRU := Lib.hid hru
          obtain ⟨fr, hfr⟩ : ∃ fr, fr = formP r := ⟨_, rfl⟩
          have HFM := Lib.hid (fun W => refForm_any r (isRune_nat.1 hru).1 W)
          rw [← hfr] at HFM
          by_cases hfm : fr = (l.drop k).take 2
          · have HN : Hid (nextL (l.drop k) = (r, 2)) := by unfold Hid; rw [HNX.out, if_pos ⟨hru, by rw [← hfr]; exact hfm⟩]
            have hstr : (fr == (s.extract k t2).toList) = true := by rw [hfm, HCMP.out]; exact beq_self_eq_true _
            clear hru hfm hfr ht2 hrb hr0b hx256
            go_wp2
            refine wp_region_noPanic ?_
            refine wp_region_held_drew (S := fun _ => True) (by kernel_rfl) trivial (fun _ => ?_)
            refine takeT (i := 0) (oi := _) (d := 77) (v := ?_) rfl (by rfl) (by kernel_rfl) (by kernel_rfl) (by kernel_rfl) (fun _ _ _ h => h) (by rfl) ?_ ?_
            rotate_left
            · intro w; go_simp; try with_reducible rfl
            simp only [List.setIfInBounds_toArray, List.set_cons_zero, List.set_cons_succ]
            refine wpAnyH_ready (rs := [1]) (by kernel_rfl) (by simp) ?_
            refine AllReadyH.cons (o := _) rfl (fun K hK => ?_) AllReadyH.nil
            go_simp
            go_at_call 84
            refine (HRN.out _).mono ?_
            rintro e w1 ⟨rfl, rfl⟩
            rw [HRU.out]
            dsimp only
            refine hK.out _ _ trivial (fun _ => ?_)
            clear hK K
            try simp only [Act.put, List.setIfInBounds_toArray, List.set_cons_zero, List.set_cons_succ]
            refine takeT (i := 2) (oi := _) (d := 79) (v := ?_) rfl (by rfl) (by kernel_rfl) (by kernel_rfl) (by kernel_rfl) (fun _ _ _ h => h) (by rfl) ?_ ?_
            rotate_left
            · intro w; go_simp; try with_reducible rfl
            simp only [List.setIfInBounds_toArray, List.set_cons_zero, List.set_cons_succ]
            refine takeT (i := 3) (oi := _) (d := 80) (v := ?_) rfl (by rfl) (by kernel_rfl) (by kernel_rfl) (by kernel_rfl) (fun _ _ _ h => h) (by rfl) ?_ ?_
            rotate_left
            · intro w; go_simp; try with_reducible rfl
            simp only [List.setIfInBounds_toArray, List.set_cons_zero, List.set_cons_succ]
            refine takeT (i := 4) (oi := _) (d := 81) (v := ?_) rfl (by rfl) (by kernel_rfl) (by kernel_rfl) (by kernel_rfl) (fun _ _ _ h => h) (by rfl) ?_ ?_
            rotate_left
            · intro w; go_simp; try with_reducible rfl
            simp only [List.setIfInBounds_toArray, List.set_cons_zero, List.set_cons_succ]
            refine takeT (i := 7) (oi := _) (d := 84) (v := ?_) rfl (by rfl) (by kernel_rfl) (by kernel_rfl) (by kernel_rfl) (fun _ _ _ h => h) (by rfl) ?_ ?_
            rotate_left
            · intro w; go_simp; try with_reducible rfl
            simp only [List.setIfInBounds_toArray, List.set_cons_zero, List.set_cons_succ]
            refine takeT (i := 8) (oi := _) (d := 85) (v := ?_) rfl (by rfl) (by kernel_rfl) (by kernel_rfl) (by kernel_rfl) (fun _ _ _ h => h) (by rfl) ?_ ?_
            rotate_left
            · intro w; go_simp; try with_reducible rfl
            simp only [List.setIfInBounds_toArray, List.set_cons_zero, List.set_cons_succ]
            refine takeT (i := 9) (oi := _) (d := 86) (v := ?_) rfl (by rfl) (by kernel_rfl) (by kernel_rfl) (by kernel_rfl) (fun _ _ _ h => h) (by rfl) ?_ ?_
            rotate_left
            · intro w; go_simp; try with_reducible rfl
            simp only [List.setIfInBounds_toArray, List.set_cons_zero, List.set_cons_succ]
            refine takeT (i := 10) (oi := _) (d := 87) (v := ?_) rfl (by rfl) (by kernel_rfl) (by kernel_rfl) (by kernel_rfl) (fun _ _ _ h => h) (by rfl) ?_ ?_
            rotate_left
            · intro w; go_simp; try with_reducible rfl
            simp only [List.setIfInBounds_toArray, List.set_cons_zero, List.set_cons_succ]
            refine takeT (i := 11) (oi := _) (d := 88) (v := ?_) rfl (by rfl) (by kernel_rfl) (by kernel_rfl) (by kernel_rfl) (fun _ _ _ h => h) (by rfl) ?_ ?_
            rotate_left
            · intro w; go_simp; try with_reducible rfl
            simp only [List.setIfInBounds_toArray, List.set_cons_zero, List.set_cons_succ]
            refine takeT (i := 12) (oi := _) (d := 89) (v := ?_) rfl (by rfl) (by kernel_rfl) (by kernel_rfl) (by kernel_rfl) (fun _ _ _ h => h) (by rfl) ?_ ?_
            rotate_left
            · intro w; go_simp; try with_reducible rfl
            simp only [List.setIfInBounds_toArray, List.set_cons_zero, List.set_cons_succ]
            refine wpAnyH_ready (rs := [5]) (by kernel_rfl) (by simp) ?_
            refine AllReadyH.cons (o := _) rfl (fun K hK => ?_) AllReadyH.nil
            go_simp
            go_at_call 71
            refine (HFM.out _).mono ?_
            rintro e w1 ⟨v1, rfl, ho1, hb1⟩
            obtain ⟨ao1, cp1, hv1⟩ := (Src.of_row ho1).len
            subst hv1
            have k1 := src_string (Src.of_row ho1)
            rw [List.length_map] at k1 ⊢
            generalize fr.length = ln1 at k1 ⊢
            have HB1 := Lib.hid (HD.out.trans hb1)
            clear ho1 hb1
            dsimp only
            refine hK.out _ _ trivial (fun _ => ?_)
            clear hK K
            try simp only [Act.put, List.setIfInBounds_toArray, List.set_cons_zero, List.set_cons_succ]
            refine wpAnyH_ready (rs := [6]) (by kernel_rfl) (by simp) ?_
            refine AllReadyH.cons (o := _) rfl (fun K hK => ?_) AllReadyH.nil
            go_simp
            refine hK.out _ _ trivial (fun _ => ?_)
            clear hK K
            try simp only [Act.put, List.setIfInBounds_toArray, List.set_cons_zero, List.set_cons_succ]
            refine takeT (i := 13) (oi := _) (d := 90) (v := ?_) rfl (by rfl) (by kernel_rfl) (by kernel_rfl) (by kernel_rfl) (fun _ _ _ h => h) (by rfl) ?_ ?_
            rotate_left
            · intro w; go_simp; try with_reducible rfl
            simp only [List.setIfInBounds_toArray, List.set_cons_zero, List.set_cons_succ]
            refine takeT (i := 14) (oi := _) (d := 91) (v := ?_) rfl (by rfl) (by kernel_rfl) (by kernel_rfl) (by kernel_rfl) (fun _ _ _ h => h) (by rfl) ?_ ?_
            rotate_left
            · intro w; go_simp; try with_reducible rfl
            simp only [List.setIfInBounds_toArray, List.set_cons_zero, List.set_cons_succ]
            refine wpAnyH_done (by kernel_rfl) ?_ _
            refine NoPanic.normal ?_
            all_goals
              go_wp2
              go_ret2
              rw [HN.out]
              exact ⟨rfl, HB1.out⟩
          · have HN : Hid (nextL (l.drop k) = (65533, 1)) := by unfold Hid; rw [HNX.out, if_neg (fun hq => hfm (by rw [hfr]; exact hq.2))]
            have hstr : (fr == (s.extract k t2).toList) = false := by rw [HCMP.out]; exact beq_eq_false_iff_ne.2 hfm
            clear hru hfm hfr ht2 hrb hr0b hx256
            go_wp2
            refine wp_region_noPanic ?_
            refine wp_region_held_drew (S := fun _ => True) (by kernel_rfl) trivial (fun _ => ?_)
            refine takeT (i := 0) (oi := _) (d := 77) (v := ?_) rfl (by rfl) (by kernel_rfl) (by kernel_rfl) (by kernel_rfl) (fun _ _ _ h => h) (by rfl) ?_ ?_
            rotate_left
            · intro w; go_simp; try with_reducible rfl
            simp only [List.setIfInBounds_toArray, List.set_cons_zero, List.set_cons_succ]
            refine wpAnyH_ready (rs := [1]) (by kernel_rfl) (by simp) ?_
            refine AllReadyH.cons (o := _) rfl (fun K hK => ?_) AllReadyH.nil
            go_simp
            go_at_call 84
            refine (HRN.out _).mono ?_
            rintro e w1 ⟨rfl, rfl⟩
            rw [HRU.out]
            dsimp only
            refine hK.out _ _ trivial (fun _ => ?_)
            clear hK K
            try simp only [Act.put, List.setIfInBounds_toArray, List.set_cons_zero, List.set_cons_succ]
            refine takeT (i := 2) (oi := _) (d := 79) (v := ?_) rfl (by rfl) (by kernel_rfl) (by kernel_rfl) (by kernel_rfl) (fun _ _ _ h => h) (by rfl) ?_ ?_
            rotate_left
            · intro w; go_simp; try with_reducible rfl
            simp only [List.setIfInBounds_toArray, List.set_cons_zero, List.set_cons_succ]
            refine takeT (i := 3) (oi := _) (d := 80) (v := ?_) rfl (by rfl) (by kernel_rfl) (by kernel_rfl) (by kernel_rfl) (fun _ _ _ h => h) (by rfl) ?_ ?_
            rotate_left
            · intro w; go_simp; try with_reducible rfl
            simp only [List.setIfInBounds_toArray, List.set_cons_zero, List.set_cons_succ]
            refine takeT (i := 4) (oi := _) (d := 81) (v := ?_) rfl (by rfl) (by kernel_rfl) (by kernel_rfl) (by kernel_rfl) (fun _ _ _ h => h) (by rfl) ?_ ?_
            rotate_left
            · intro w; go_simp; try with_reducible rfl
            simp only [List.setIfInBounds_toArray, List.set_cons_zero, List.set_cons_succ]
            refine takeT (i := 7) (oi := _) (d := 84) (v := ?_) rfl (by rfl) (by kernel_rfl) (by kernel_rfl) (by kernel_rfl) (fun _ _ _ h => h) (by rfl) ?_ ?_
            rotate_left
            · intro w; go_simp; try with_reducible rfl
            simp only [List.setIfInBounds_toArray, List.set_cons_zero, List.set_cons_succ]
            refine takeT (i := 8) (oi := _) (d := 85) (v := ?_) rfl (by rfl) (by kernel_rfl) (by kernel_rfl) (by kernel_rfl) (fun _ _ _ h => h) (by rfl) ?_ ?_
            rotate_left
            · intro w; go_simp; try with_reducible rfl
            simp only [List.setIfInBounds_toArray, List.set_cons_zero, List.set_cons_succ]
            refine takeT (i := 9) (oi := _) (d := 86) (v := ?_) rfl (by rfl) (by kernel_rfl) (by kernel_rfl) (by kernel_rfl) (fun _ _ _ h => h) (by rfl) ?_ ?_
            rotate_left
            · intro w; go_simp; try with_reducible rfl
            simp only [List.setIfInBounds_toArray, List.set_cons_zero, List.set_cons_succ]
            refine takeT (i := 10) (oi := _) (d := 87) (v := ?_) rfl (by rfl) (by kernel_rfl) (by kernel_rfl) (by kernel_rfl) (fun _ _ _ h => h) (by rfl) ?_ ?_
            rotate_left
            · intro w; go_simp; try with_reducible rfl
            simp only [List.setIfInBounds_toArray, List.set_cons_zero, List.set_cons_succ]
            refine takeT (i := 11) (oi := _) (d := 88) (v := ?_) rfl (by rfl) (by kernel_rfl) (by kernel_rfl) (by kernel_rfl) (fun _ _ _ h => h) (by rfl) ?_ ?_
            rotate_left
            · intro w; go_simp; try with_reducible rfl
            simp only [List.setIfInBounds_toArray, List.set_cons_zero, List.set_cons_succ]
            refine takeT (i := 12) (oi := _) (d := 89) (v := ?_) rfl (by rfl) (by kernel_rfl) (by kernel_rfl) (by kernel_rfl) (fun _ _ _ h => h) (by rfl) ?_ ?_
            rotate_left
            · intro w; go_simp; try with_reducible rfl
            simp only [List.setIfInBounds_toArray, List.set_cons_zero, List.set_cons_succ]
            refine wpAnyH_ready (rs := [5]) (by kernel_rfl) (by simp) ?_
            refine AllReadyH.cons (o := _) rfl (fun K hK => ?_) AllReadyH.nil
            go_simp
            go_at_call 71
            refine (HFM.out _).mono ?_
            rintro e w1 ⟨v1, rfl, ho1, hb1⟩
            obtain ⟨ao1, cp1, hv1⟩ := (Src.of_row ho1).len
            subst hv1
            have k1 := src_string (Src.of_row ho1)
            rw [List.length_map] at k1 ⊢
            generalize fr.length = ln1 at k1 ⊢
            have HB1 := Lib.hid (HD.out.trans hb1)
            clear ho1 hb1
            dsimp only
            refine hK.out _ _ trivial (fun _ => ?_)
            clear hK K
            try simp only [Act.put, List.setIfInBounds_toArray, List.set_cons_zero, List.set_cons_succ]
            refine wpAnyH_ready (rs := [6]) (by kernel_rfl) (by simp) ?_
            refine AllReadyH.cons (o := _) rfl (fun K hK => ?_) AllReadyH.nil
            go_simp
            refine hK.out _ _ trivial (fun _ => ?_)
            clear hK K
            try simp only [Act.put, List.setIfInBounds_toArray, List.set_cons_zero, List.set_cons_succ]
            refine takeT (i := 13) (oi := _) (d := 90) (v := ?_) rfl (by rfl) (by kernel_rfl) (by kernel_rfl) (by kernel_rfl) (fun _ _ _ h => h) (by rfl) ?_ ?_
            rotate_left
            · intro w; go_simp; try with_reducible rfl
            simp only [List.setIfInBounds_toArray, List.set_cons_zero, List.set_cons_succ]
            refine takeT (i := 14) (oi := _) (d := 91) (v := ?_) rfl (by rfl) (by kernel_rfl) (by kernel_rfl) (by kernel_rfl) (fun _ _ _ h => h) (by rfl) ?_ ?_
            rotate_left
            · intro w; go_simp; try with_reducible rfl
            simp only [List.setIfInBounds_toArray, List.set_cons_zero, List.set_cons_succ]
            refine wpAnyH_done (by kernel_rfl) ?_ _
            refine NoPanic.normal ?_
            all_goals
              go_wp2
              go_ret2
              rw [HN.out]
              exact ⟨rfl, HB1.out⟩
        · have hru : isRune (r : Int) = false := by simpa using hru
          have HRU := Lib.hid hru
          have HN : Hid (nextL (l.drop k) = (65533, 1)) := by unfold Hid; rw [HNX.out, if_neg (fun hq => by rw [hru] at hq; cases hq.1)]
          have HRNF : Hid (∀ W, Calls Tryd.prog 84 #[.int .i32 (r : Int)] W fun e w' => e = .returned (.bool false) ∧ w' = W) := fun W => (HRN.out W).mono fun e w' hh => ⟨by rw [hh.1, HRU.out], hh.2.symm⟩
          clear hru ht2 hrb hr0b hx256
          go_wp2
          go_quiet ((go_at_call 84; exact Calls.quiet_of_same (HRNF.out _)))
          go_wp2
          go_ret2
          rw [HN.out]
          exact ⟨rfl, bw_drew (BW.refl w) _⟩
      | succ g =>
        have hd0 : decide ((i : Int) < 2) = true := decide_eq_true (by omega)
        have hin : (i : Int) < 2 := by omega
        have hi0 : 0 ≤ (i : Int) := by omega
        obtain ⟨t, ht⟩ : ∃ t, t = k + i := ⟨_, rfl⟩
        have hti : (k : Int) + (i : Int) = (t : Int) := by omega
        have hkis : t < s.size := by have := HKN.out; omega
        have htsi : (t : Int) < (s.size : Int) := by omega
        have ht0 : 0 ≤ (t : Int) := by omega
        obtain ⟨y, hy⟩ : ∃ y : Nat, y = (s[t]'hkis).toNat := ⟨_, rfl⟩
        have hyi : ((s[t]'hkis).toNat : Int) = (y : Int) := by rw [hy]
        have hy256 : y < 256 := by rw [hy]; exact UInt8.toNat_lt _
        have hand := and_63 hy256
        obtain ⟨z, hz⟩ : ∃ z, z = y % 64 := ⟨_, rfl⟩
        rw [← hz] at hand
        have hz64 : z < 64 := by omega
        have hz0 : 0 ≤ (z : Int) := by omega
        have hzi : (z : Int) < 64 := by omega
        have hwz : IntKind.i32.wrap (z : Int) = (z : Int) := by rw [IntKind.wrap_i32]; omega
        have hri : (r : Int) < 2097152 := by omega
        have HNR : Hid (r * 64 + z = gath r0 ((l.drop (k + 1)).take (j + 1))) := by
          have hq : j < (l.drop (k + 1)).length := by rw [List.length_drop]; have := HKN.out; have := HS.out; omega
          have hc : (l.drop (k + 1))[j]'hq = l[t]'(by have := HS.out; omega) := by
            rw [List.getElem_drop]; congr 1; omega
          unfold Hid
          rw [List.take_succ_eq_append_getElem hq, gath_snoc, ← HR.out, hz, hc, hy]
          have hss := HS2.out
          subst hss
          rfl
        clear hjg hi hy hz hy256 hz64 hrb hr0b hx256 hxi ht
        go_wp2
        go_roundg g
        case measure => omega
        case rel => exact ⟨j + 1, r * 64 + z, by have := HJG.out; omega, by rw [HI.out]; go_num, by go_num, HNR.out, rfl⟩
  -- 3 bytes
  by_cases hc3 : 224 ≤ x ∧ x < 240
  · have HLD : Hid (leadN (l[k]'HK.out).toNat = 3) := by unfold Hid; rw [← HX.out]; unfold leadN; rw [if_neg (by omega), if_pos (by omega)]
    obtain ⟨r0, hr0⟩ : ∃ r0, r0 = x - 224 := ⟨_, rfl⟩
    have HHI : Hid (highN (l[k]'HK.out).toNat = r0) := by unfold Hid; rw [← HX.out]; unfold highN; rw [if_neg (by omega), if_pos (by omega), hr0]
    have q0 : decide (192 ≤ (x : Int)) = true := decide_eq_true (by omega)
    have q1 : decide ((x : Int) < 224) = false := decide_eq_false (by omega)
    have q2 : decide (224 ≤ (x : Int)) = true := decide_eq_true (by omega)
    have q3 : decide ((x : Int) < 240) = true := decide_eq_true (by omega)
    have hsub : (x : Int) - 224 = (r0 : Int) := by omega
    have hr0b : r0 < 16 := by omega
    have hr00 : 0 ≤ (r0 : Int) := by omega
    have hwr : IntKind.i32.wrap (r0 : Int) = (r0 : Int) := by rw [IntKind.wrap_i32]; omega
    have hwu : IntKind.u8.wrap (r0 : Int) = (r0 : Int) := by rw [IntKind.wrap_u8']; omega
    by_cases hshort : s.size < k + 3
    · have d3 : decide ((s.size : Int) - (k : Int) < 3) = true := decide_eq_true (by omega)
      have HN : Hid (nextL (l.drop k) = (65533, 1)) := next_cut HK.out HX1.out (by rw [HLD.out, ← HS.out]; exact hshort)
      clear h1 hno hc2 hc3 hr0 hshort
      go_enter Tryd.func67, Tryd.ntmps67
      go_wp2
      go_ret2
      rw [HN.out]
      exact ⟨rfl, BW.refl _⟩
    have d3 : decide ((s.size : Int) - (k : Int) < 3) = false := decide_eq_false (by omega)
    have hkn : k + 3 ≤ s.size := by omega
    have hkni : (k : Int) + 3 ≤ (s.size : Int) := by omega
    have HGB : Hid (∀ j, j ≤ 3 - 1 → gath r0 ((l.drop (k + 1)).take j) < 2097152) := fun j hj => by
      have h1 := gath_lt r0 ((l.drop (k + 1)).take j)
      have h2 : 64 ^ ((l.drop (k + 1)).take j).length ≤ 64 ^ (3 - 1) := Nat.pow_le_pow_right (by decide) (by rw [List.length_take]; omega)
      have h3 : (r0 + 1) * 64 ^ ((l.drop (k + 1)).take j).length ≤ 16 * 64 ^ (3 - 1) := Nat.mul_le_mul (by omega) h2
      have h4 : 16 * 64 ^ (3 - 1) ≤ 2097152 := by decide
      omega
    have HKN := Lib.hid hkn
    clear h1 hno hc2 hc3 hr0 hshort hkn
    go_enter Tryd.func67, Tryd.ntmps67
    go_wp2
    go_loopg [8, 9] 2 (fun g s8 s9 wx => ∃ (j r : Nat), j + g = 2 ∧ s9 = .int .i64 ((j + 1 : Nat) : Int) ∧ s8 = .int .i32 (r : Int) ∧ r = gath r0 ((l.drop (k + 1)).take j) ∧ w = wx)
    case atStart => exact ⟨0, r0, by omega, rfl, rfl, rfl, rfl⟩
    case round =>
      obtain ⟨j, r, hjg, rfl, rfl, hr, rfl⟩ := hrel
      have hrb : r < 2097152 := by rw [hr]; exact HGB.out j (by omega)
      have hr00' : 0 ≤ (r : Int) := by omega
      have HR := Lib.hid hr
      have HJG := Lib.hid hjg
      obtain ⟨i, hi⟩ : ∃ i, i = j + 1 := ⟨_, rfl⟩
      rw [← hi]
      have HI := Lib.hid hi
      clear hr
      cases gk with
      | zero =>
        have hd0 : decide ((i : Int) < 3) = false := decide_eq_false (by omega)
        have hii : i = 3 := by omega
        have HRF : Hid (gath (highN (l[k]'HK.out).toNat) ((l.drop (k + 1)).take (3 - 1)) = r) := by
          unfold Hid; rw [HHI.out, HR.out, show j = 2 by omega]
        have HRN := Lib.hid (fun W => refRune_any (r : Int) W)
        have HNX := Lib.hid (next_many (n := 3) HK.out HX1.out HLD.out (by decide) (by have := HKN.out; have := HS.out; omega) HRF.out)
        clear hjg hi hii
        obtain ⟨t2, ht2⟩ : ∃ t2, t2 = k + 3 := ⟨_, rfl⟩
        have ht2i : (k : Int) + 3 = (t2 : Int) := by omega
        have hkt2 : (k : Int) ≤ (t2 : Int) := by omega
        have hwt2 : IntKind.i64.wrap (t2 : Int) = (t2 : Int) := IntWalk.i64_in _ (by omega)
        have ht20 : 0 ≤ (t2 : Int) := by omega
        have ht2s : (t2 : Int) ≤ (s.size : Int) := by omega
        have HCMP : Hid ((s.extract k t2).toList = (l.drop k).take 3) := by
          unfold Hid
          rw [HS2.out, ByteArray.extract_mk, ByteArray.toList_mk, ht2, show k + 3 - k = 3 by omega]
        have hri : (r : Int) < 2097152 := by omega
        have HD := Lib.hid (bw_drew (BW.refl w) 1)
        by_cases hru : isRune (r : Int) = true
        · have HRU := Lib.hid hru
          obtain ⟨fr, hfr⟩ : ∃ fr, fr = formP r := ⟨_, rfl⟩
          have HFM := Lib.hid (fun W => refForm_any r (isRune_nat.1 hru).1 W)
          rw [← hfr] at HFM
          by_cases hfm : fr = (l.drop k).take 3
          · have HN : Hid (nextL (l.drop k) = (r, 3)) := by unfold Hid; rw [HNX.out, if_pos ⟨hru, by rw [← hfr]; exact hfm⟩]
            have hstr : (fr == (s.extract k t2).toList) = true := by rw [hfm, HCMP.out]; exact beq_self_eq_true _
            clear hru hfm hfr ht2 hrb hr0b hx256
            go_wp2
            refine wp_region_noPanic ?_
            refine wp_region_held_drew (S := fun _ => True) (by kernel_rfl) trivial (fun _ => ?_)
            refine takeT (i := 0) (oi := _) (d := 77) (v := ?_) rfl (by rfl) (by kernel_rfl) (by kernel_rfl) (by kernel_rfl) (fun _ _ _ h => h) (by rfl) ?_ ?_
            rotate_left
            · intro w; go_simp; try with_reducible rfl
            simp only [List.setIfInBounds_toArray, List.set_cons_zero, List.set_cons_succ]
            refine wpAnyH_ready (rs := [1]) (by kernel_rfl) (by simp) ?_
            refine AllReadyH.cons (o := _) rfl (fun K hK => ?_) AllReadyH.nil
            go_simp
            go_at_call 84
            refine (HRN.out _).mono ?_
            rintro e w1 ⟨rfl, rfl⟩
            rw [HRU.out]
            dsimp only
            refine hK.out _ _ trivial (fun _ => ?_)
            clear hK K
            try simp only [Act.put, List.setIfInBounds_toArray, List.set_cons_zero, List.set_cons_succ]
            refine takeT (i := 2) (oi := _) (d := 79) (v := ?_) rfl (by rfl) (by kernel_rfl) (by kernel_rfl) (by kernel_rfl) (fun _ _ _ h => h) (by rfl) ?_ ?_
            rotate_left
            · intro w; go_simp; try with_reducible rfl
            simp only [List.setIfInBounds_toArray, List.set_cons_zero, List.set_cons_succ]
            refine takeT (i := 3) (oi := _) (d := 80) (v := ?_) rfl (by rfl) (by kernel_rfl) (by kernel_rfl) (by kernel_rfl) (fun _ _ _ h => h) (by rfl) ?_ ?_
            rotate_left
            · intro w; go_simp; try with_reducible rfl
            simp only [List.setIfInBounds_toArray, List.set_cons_zero, List.set_cons_succ]
            refine takeT (i := 4) (oi := _) (d := 81) (v := ?_) rfl (by rfl) (by kernel_rfl) (by kernel_rfl) (by kernel_rfl) (fun _ _ _ h => h) (by rfl) ?_ ?_
            rotate_left
            · intro w; go_simp; try with_reducible rfl
            simp only [List.setIfInBounds_toArray, List.set_cons_zero, List.set_cons_succ]
            refine takeT (i := 7) (oi := _) (d := 84) (v := ?_) rfl (by rfl) (by kernel_rfl) (by kernel_rfl) (by kernel_rfl) (fun _ _ _ h => h) (by rfl) ?_ ?_
            rotate_left
            · intro w; go_simp; try with_reducible rfl
            simp only [List.setIfInBounds_toArray, List.set_cons_zero, List.set_cons_succ]
            refine takeT (i := 8) (oi := _) (d := 85) (v := ?_) rfl (by rfl) (by kernel_rfl) (by kernel_rfl) (by kernel_rfl) (fun _ _ _ h => h) (by rfl) ?_ ?_
            rotate_left
            · intro w; go_simp; try with_reducible rfl
            simp only [List.setIfInBounds_toArray, List.set_cons_zero, List.set_cons_succ]
            refine takeT (i := 9) (oi := _) (d := 86) (v := ?_) rfl (by rfl) (by kernel_rfl) (by kernel_rfl) (by kernel_rfl) (fun _ _ _ h => h) (by rfl) ?_ ?_
            rotate_left
            · intro w; go_simp; try with_reducible rfl
            simp only [List.setIfInBounds_toArray, List.set_cons_zero, List.set_cons_succ]
            refine takeT (i := 10) (oi := _) (d := 87) (v := ?_) rfl (by rfl) (by kernel_rfl) (by kernel_rfl) (by kernel_rfl) (fun _ _ _ h => h) (by rfl) ?_ ?_
            rotate_left
            · intro w; go_simp; try with_reducible rfl
            simp only [List.setIfInBounds_toArray, List.set_cons_zero, List.set_cons_succ]
            refine takeT (i := 11) (oi := _) (d := 88) (v := ?_) rfl (by rfl) (by kernel_rfl) (by kernel_rfl) (by kernel_rfl) (fun _ _ _ h => h) (by rfl) ?_ ?_
            rotate_left
            · intro w; go_simp; try with_reducible rfl
            simp only [List.setIfInBounds_toArray, List.set_cons_zero, List.set_cons_succ]
            refine takeT (i := 12) (oi := _) (d := 89) (v := ?_) rfl (by rfl) (by kernel_rfl) (by kernel_rfl) (by kernel_rfl) (fun _ _ _ h => h) (by rfl) ?_ ?_
            rotate_left
            · intro w; go_simp; try with_reducible rfl
            simp only [List.setIfInBounds_toArray, List.set_cons_zero, List.set_cons_succ]
            refine wpAnyH_ready (rs := [5]) (by kernel_rfl) (by simp) ?_
            refine AllReadyH.cons (o := _) rfl (fun K hK => ?_) AllReadyH.nil
            go_simp
            go_at_call 71
            refine (HFM.out _).mono ?_
            rintro e w1 ⟨v1, rfl, ho1, hb1⟩
            obtain ⟨ao1, cp1, hv1⟩ := (Src.of_row ho1).len
            subst hv1
            have k1 := src_string (Src.of_row ho1)
            rw [List.length_map] at k1 ⊢
            generalize fr.length = ln1 at k1 ⊢
            have HB1 := Lib.hid (HD.out.trans hb1)
            clear ho1 hb1
            dsimp only
            refine hK.out _ _ trivial (fun _ => ?_)
            clear hK K
            try simp only [Act.put, List.setIfInBounds_toArray, List.set_cons_zero, List.set_cons_succ]
            refine wpAnyH_ready (rs := [6]) (by kernel_rfl) (by simp) ?_
            refine AllReadyH.cons (o := _) rfl (fun K hK => ?_) AllReadyH.nil
            go_simp
            refine hK.out _ _ trivial (fun _ => ?_)
            clear hK K
            try simp only [Act.put, List.setIfInBounds_toArray, List.set_cons_zero, List.set_cons_succ]
            refine takeT (i := 13) (oi := _) (d := 90) (v := ?_) rfl (by rfl) (by kernel_rfl) (by kernel_rfl) (by kernel_rfl) (fun _ _ _ h => h) (by rfl) ?_ ?_
            rotate_left
            · intro w; go_simp; try with_reducible rfl
            simp only [List.setIfInBounds_toArray, List.set_cons_zero, List.set_cons_succ]
            refine takeT (i := 14) (oi := _) (d := 91) (v := ?_) rfl (by rfl) (by kernel_rfl) (by kernel_rfl) (by kernel_rfl) (fun _ _ _ h => h) (by rfl) ?_ ?_
            rotate_left
            · intro w; go_simp; try with_reducible rfl
            simp only [List.setIfInBounds_toArray, List.set_cons_zero, List.set_cons_succ]
            refine wpAnyH_done (by kernel_rfl) ?_ _
            refine NoPanic.normal ?_
            all_goals
              go_wp2
              go_ret2
              rw [HN.out]
              exact ⟨rfl, HB1.out⟩
          · have HN : Hid (nextL (l.drop k) = (65533, 1)) := by unfold Hid; rw [HNX.out, if_neg (fun hq => hfm (by rw [hfr]; exact hq.2))]
            have hstr : (fr == (s.extract k t2).toList) = false := by rw [HCMP.out]; exact beq_eq_false_iff_ne.2 hfm
            clear hru hfm hfr ht2 hrb hr0b hx256
            go_wp2
            refine wp_region_noPanic ?_
            refine wp_region_held_drew (S := fun _ => True) (by kernel_rfl) trivial (fun _ => ?_)
            refine takeT (i := 0) (oi := _) (d := 77) (v := ?_) rfl (by rfl) (by kernel_rfl) (by kernel_rfl) (by kernel_rfl) (fun _ _ _ h => h) (by rfl) ?_ ?_
            rotate_left
            · intro w; go_simp; try with_reducible rfl
            simp only [List.setIfInBounds_toArray, List.set_cons_zero, List.set_cons_succ]
            refine wpAnyH_ready (rs := [1]) (by kernel_rfl) (by simp) ?_
            refine AllReadyH.cons (o := _) rfl (fun K hK => ?_) AllReadyH.nil
            go_simp
            go_at_call 84
            refine (HRN.out _).mono ?_
            rintro e w1 ⟨rfl, rfl⟩
            rw [HRU.out]
            dsimp only
            refine hK.out _ _ trivial (fun _ => ?_)
            clear hK K
            try simp only [Act.put, List.setIfInBounds_toArray, List.set_cons_zero, List.set_cons_succ]
            refine takeT (i := 2) (oi := _) (d := 79) (v := ?_) rfl (by rfl) (by kernel_rfl) (by kernel_rfl) (by kernel_rfl) (fun _ _ _ h => h) (by rfl) ?_ ?_
            rotate_left
            · intro w; go_simp; try with_reducible rfl
            simp only [List.setIfInBounds_toArray, List.set_cons_zero, List.set_cons_succ]
            refine takeT (i := 3) (oi := _) (d := 80) (v := ?_) rfl (by rfl) (by kernel_rfl) (by kernel_rfl) (by kernel_rfl) (fun _ _ _ h => h) (by rfl) ?_ ?_
            rotate_left
            · intro w; go_simp; try with_reducible rfl
            simp only [List.setIfInBounds_toArray, List.set_cons_zero, List.set_cons_succ]
            refine takeT (i := 4) (oi := _) (d := 81) (v := ?_) rfl (by rfl) (by kernel_rfl) (by kernel_rfl) (by kernel_rfl) (fun _ _ _ h => h) (by rfl) ?_ ?_
            rotate_left
            · intro w; go_simp; try with_reducible rfl
            simp only [List.setIfInBounds_toArray, List.set_cons_zero, List.set_cons_succ]
            refine takeT (i := 7) (oi := _) (d := 84) (v := ?_) rfl (by rfl) (by kernel_rfl) (by kernel_rfl) (by kernel_rfl) (fun _ _ _ h => h) (by rfl) ?_ ?_
            rotate_left
            · intro w; go_simp; try with_reducible rfl
            simp only [List.setIfInBounds_toArray, List.set_cons_zero, List.set_cons_succ]
            refine takeT (i := 8) (oi := _) (d := 85) (v := ?_) rfl (by rfl) (by kernel_rfl) (by kernel_rfl) (by kernel_rfl) (fun _ _ _ h => h) (by rfl) ?_ ?_
            rotate_left
            · intro w; go_simp; try with_reducible rfl
            simp only [List.setIfInBounds_toArray, List.set_cons_zero, List.set_cons_succ]
            refine takeT (i := 9) (oi := _) (d := 86) (v := ?_) rfl (by rfl) (by kernel_rfl) (by kernel_rfl) (by kernel_rfl) (fun _ _ _ h => h) (by rfl) ?_ ?_
            rotate_left
            · intro w; go_simp; try with_reducible rfl
            simp only [List.setIfInBounds_toArray, List.set_cons_zero, List.set_cons_succ]
            refine takeT (i := 10) (oi := _) (d := 87) (v := ?_) rfl (by rfl) (by kernel_rfl) (by kernel_rfl) (by kernel_rfl) (fun _ _ _ h => h) (by rfl) ?_ ?_
            rotate_left
            · intro w; go_simp; try with_reducible rfl
            simp only [List.setIfInBounds_toArray, List.set_cons_zero, List.set_cons_succ]
            refine takeT (i := 11) (oi := _) (d := 88) (v := ?_) rfl (by rfl) (by kernel_rfl) (by kernel_rfl) (by kernel_rfl) (fun _ _ _ h => h) (by rfl) ?_ ?_
            rotate_left
            · intro w; go_simp; try with_reducible rfl
            simp only [List.setIfInBounds_toArray, List.set_cons_zero, List.set_cons_succ]
            refine takeT (i := 12) (oi := _) (d := 89) (v := ?_) rfl (by rfl) (by kernel_rfl) (by kernel_rfl) (by kernel_rfl) (fun _ _ _ h => h) (by rfl) ?_ ?_
            rotate_left
            · intro w; go_simp; try with_reducible rfl
            simp only [List.setIfInBounds_toArray, List.set_cons_zero, List.set_cons_succ]
            refine wpAnyH_ready (rs := [5]) (by kernel_rfl) (by simp) ?_
            refine AllReadyH.cons (o := _) rfl (fun K hK => ?_) AllReadyH.nil
            go_simp
            go_at_call 71
            refine (HFM.out _).mono ?_
            rintro e w1 ⟨v1, rfl, ho1, hb1⟩
            obtain ⟨ao1, cp1, hv1⟩ := (Src.of_row ho1).len
            subst hv1
            have k1 := src_string (Src.of_row ho1)
            rw [List.length_map] at k1 ⊢
            generalize fr.length = ln1 at k1 ⊢
            have HB1 := Lib.hid (HD.out.trans hb1)
            clear ho1 hb1
            dsimp only
            refine hK.out _ _ trivial (fun _ => ?_)
            clear hK K
            try simp only [Act.put, List.setIfInBounds_toArray, List.set_cons_zero, List.set_cons_succ]
            refine wpAnyH_ready (rs := [6]) (by kernel_rfl) (by simp) ?_
            refine AllReadyH.cons (o := _) rfl (fun K hK => ?_) AllReadyH.nil
            go_simp
            refine hK.out _ _ trivial (fun _ => ?_)
            clear hK K
            try simp only [Act.put, List.setIfInBounds_toArray, List.set_cons_zero, List.set_cons_succ]
            refine takeT (i := 13) (oi := _) (d := 90) (v := ?_) rfl (by rfl) (by kernel_rfl) (by kernel_rfl) (by kernel_rfl) (fun _ _ _ h => h) (by rfl) ?_ ?_
            rotate_left
            · intro w; go_simp; try with_reducible rfl
            simp only [List.setIfInBounds_toArray, List.set_cons_zero, List.set_cons_succ]
            refine takeT (i := 14) (oi := _) (d := 91) (v := ?_) rfl (by rfl) (by kernel_rfl) (by kernel_rfl) (by kernel_rfl) (fun _ _ _ h => h) (by rfl) ?_ ?_
            rotate_left
            · intro w; go_simp; try with_reducible rfl
            simp only [List.setIfInBounds_toArray, List.set_cons_zero, List.set_cons_succ]
            refine wpAnyH_done (by kernel_rfl) ?_ _
            refine NoPanic.normal ?_
            all_goals
              go_wp2
              go_ret2
              rw [HN.out]
              exact ⟨rfl, HB1.out⟩
        · have hru : isRune (r : Int) = false := by simpa using hru
          have HRU := Lib.hid hru
          have HN : Hid (nextL (l.drop k) = (65533, 1)) := by unfold Hid; rw [HNX.out, if_neg (fun hq => by rw [hru] at hq; cases hq.1)]
          have HRNF : Hid (∀ W, Calls Tryd.prog 84 #[.int .i32 (r : Int)] W fun e w' => e = .returned (.bool false) ∧ w' = W) := fun W => (HRN.out W).mono fun e w' hh => ⟨by rw [hh.1, HRU.out], hh.2.symm⟩
          clear hru ht2 hrb hr0b hx256
          go_wp2
          go_quiet ((go_at_call 84; exact Calls.quiet_of_same (HRNF.out _)))
          go_wp2
          go_ret2
          rw [HN.out]
          exact ⟨rfl, bw_drew (BW.refl w) _⟩
      | succ g =>
        have hd0 : decide ((i : Int) < 3) = true := decide_eq_true (by omega)
        have hin : (i : Int) < 3 := by omega
        have hi0 : 0 ≤ (i : Int) := by omega
        obtain ⟨t, ht⟩ : ∃ t, t = k + i := ⟨_, rfl⟩
        have hti : (k : Int) + (i : Int) = (t : Int) := by omega
        have hkis : t < s.size := by have := HKN.out; omega
        have htsi : (t : Int) < (s.size : Int) := by omega
        have ht0 : 0 ≤ (t : Int) := by omega
        obtain ⟨y, hy⟩ : ∃ y : Nat, y = (s[t]'hkis).toNat := ⟨_, rfl⟩
        have hyi : ((s[t]'hkis).toNat : Int) = (y : Int) := by rw [hy]
        have hy256 : y < 256 := by rw [hy]; exact UInt8.toNat_lt _
        have hand := and_63 hy256
        obtain ⟨z, hz⟩ : ∃ z, z = y % 64 := ⟨_, rfl⟩
        rw [← hz] at hand
        have hz64 : z < 64 := by omega
        have hz0 : 0 ≤ (z : Int) := by omega
        have hzi : (z : Int) < 64 := by omega
        have hwz : IntKind.i32.wrap (z : Int) = (z : Int) := by rw [IntKind.wrap_i32]; omega
        have hri : (r : Int) < 2097152 := by omega
        have HNR : Hid (r * 64 + z = gath r0 ((l.drop (k + 1)).take (j + 1))) := by
          have hq : j < (l.drop (k + 1)).length := by rw [List.length_drop]; have := HKN.out; have := HS.out; omega
          have hc : (l.drop (k + 1))[j]'hq = l[t]'(by have := HS.out; omega) := by
            rw [List.getElem_drop]; congr 1; omega
          unfold Hid
          rw [List.take_succ_eq_append_getElem hq, gath_snoc, ← HR.out, hz, hc, hy]
          have hss := HS2.out
          subst hss
          rfl
        clear hjg hi hy hz hy256 hz64 hrb hr0b hx256 hxi ht
        go_wp2
        go_roundg g
        case measure => omega
        case rel => exact ⟨j + 1, r * 64 + z, by have := HJG.out; omega, by rw [HI.out]; go_num, by go_num, HNR.out, rfl⟩
  -- 4 bytes
  by_cases hc4 : 240 ≤ x ∧ x < 248
  · have HLD : Hid (leadN (l[k]'HK.out).toNat = 4) := by unfold Hid; rw [← HX.out]; unfold leadN; rw [if_neg (by omega), if_neg (by omega), if_pos (by omega)]
    obtain ⟨r0, hr0⟩ : ∃ r0, r0 = x - 240 := ⟨_, rfl⟩
    have HHI : Hid (highN (l[k]'HK.out).toNat = r0) := by unfold Hid; rw [← HX.out]; unfold highN; rw [if_neg (by omega), if_neg (by omega), hr0]
    have q0 : decide (192 ≤ (x : Int)) = true := decide_eq_true (by omega)
    have q1 : decide ((x : Int) < 224) = false := decide_eq_false (by omega)
    have q2 : decide (224 ≤ (x : Int)) = true := decide_eq_true (by omega)
    have q3 : decide ((x : Int) < 240) = false := decide_eq_false (by omega)
    have q4 : decide (240 ≤ (x : Int)) = true := decide_eq_true (by omega)
    have q5 : decide ((x : Int) < 248) = true := decide_eq_true (by omega)
    have hsub : (x : Int) - 240 = (r0 : Int) := by omega
    have hr0b : r0 < 8 := by omega
    have hr00 : 0 ≤ (r0 : Int) := by omega
    have hwr : IntKind.i32.wrap (r0 : Int) = (r0 : Int) := by rw [IntKind.wrap_i32]; omega
    have hwu : IntKind.u8.wrap (r0 : Int) = (r0 : Int) := by rw [IntKind.wrap_u8']; omega
    by_cases hshort : s.size < k + 4
    · have d3 : decide ((s.size : Int) - (k : Int) < 4) = true := decide_eq_true (by omega)
      have HN : Hid (nextL (l.drop k) = (65533, 1)) := next_cut HK.out HX1.out (by rw [HLD.out, ← HS.out]; exact hshort)
      clear h1 hno hc2 hc3 hc4 hr0 hshort
      go_enter Tryd.func67, Tryd.ntmps67
      go_wp2
      go_ret2
      rw [HN.out]
      exact ⟨rfl, BW.refl _⟩
    have d3 : decide ((s.size : Int) - (k : Int) < 4) = false := decide_eq_false (by omega)
    have hkn : k + 4 ≤ s.size := by omega
    have hkni : (k : Int) + 4 ≤ (s.size : Int) := by omega
    have HGB : Hid (∀ j, j ≤ 4 - 1 → gath r0 ((l.drop (k + 1)).take j) < 2097152) := fun j hj => by
      have h1 := gath_lt r0 ((l.drop (k + 1)).take j)
      have h2 : 64 ^ ((l.drop (k + 1)).take j).length ≤ 64 ^ (4 - 1) := Nat.pow_le_pow_right (by decide) (by rw [List.length_take]; omega)
      have h3 : (r0 + 1) * 64 ^ ((l.drop (k + 1)).take j).length ≤ 8 * 64 ^ (4 - 1) := Nat.mul_le_mul (by omega) h2
      have h4 : 8 * 64 ^ (4 - 1) ≤ 2097152 := by decide
      omega
    have HKN := Lib.hid hkn
    clear h1 hno hc2 hc3 hc4 hr0 hshort hkn
    go_enter Tryd.func67, Tryd.ntmps67
    go_wp2
    go_loopg [8, 9] 3 (fun g s8 s9 wx => ∃ (j r : Nat), j + g = 3 ∧ s9 = .int .i64 ((j + 1 : Nat) : Int) ∧ s8 = .int .i32 (r : Int) ∧ r = gath r0 ((l.drop (k + 1)).take j) ∧ w = wx)
    case atStart => exact ⟨0, r0, by omega, rfl, rfl, rfl, rfl⟩
    case round =>
      obtain ⟨j, r, hjg, rfl, rfl, hr, rfl⟩ := hrel
      have hrb : r < 2097152 := by rw [hr]; exact HGB.out j (by omega)
      have hr00' : 0 ≤ (r : Int) := by omega
      have HR := Lib.hid hr
      have HJG := Lib.hid hjg
      obtain ⟨i, hi⟩ : ∃ i, i = j + 1 := ⟨_, rfl⟩
      rw [← hi]
      have HI := Lib.hid hi
      clear hr
      cases gk with
      | zero =>
        have hd0 : decide ((i : Int) < 4) = false := decide_eq_false (by omega)
        have hii : i = 4 := by omega
        have HRF : Hid (gath (highN (l[k]'HK.out).toNat) ((l.drop (k + 1)).take (4 - 1)) = r) := by
          unfold Hid; rw [HHI.out, HR.out, show j = 3 by omega]
        have HRN := Lib.hid (fun W => refRune_any (r : Int) W)
        have HNX := Lib.hid (next_many (n := 4) HK.out HX1.out HLD.out (by decide) (by have := HKN.out; have := HS.out; omega) HRF.out)
        clear hjg hi hii
        obtain ⟨t2, ht2⟩ : ∃ t2, t2 = k + 4 := ⟨_, rfl⟩
        have ht2i : (k : Int) + 4 = (t2 : Int) := by omega
        have hkt2 : (k : Int) ≤ (t2 : Int) := by omega
        have hwt2 : IntKind.i64.wrap (t2 : Int) = (t2 : Int) := IntWalk.i64_in _ (by omega)
        have ht20 : 0 ≤ (t2 : Int) := by omega
        have ht2s : (t2 : Int) ≤ (s.size : Int) := by omega
        have HCMP : Hid ((s.extract k t2).toList = (l.drop k).take 4) := by
          unfold Hid
          rw [HS2.out, ByteArray.extract_mk, ByteArray.toList_mk, ht2, show k + 4 - k = 4 by omega]
        have hri : (r : Int) < 2097152 := by omega
        have HD := Lib.hid (bw_drew (BW.refl w) 1)
        by_cases hru : isRune (r : Int) = true
        · have HRU := Lib.hid hru
          obtain ⟨fr, hfr⟩ : ∃ fr, fr = formP r := ⟨_, rfl⟩
          have HFM := Lib.hid (fun W => refForm_any r (isRune_nat.1 hru).1 W)
          rw [← hfr] at HFM
          by_cases hfm : fr = (l.drop k).take 4
          · have HN : Hid (nextL (l.drop k) = (r, 4)) := by unfold Hid; rw [HNX.out, if_pos ⟨hru, by rw [← hfr]; exact hfm⟩]
            have hstr : (fr == (s.extract k t2).toList) = true := by rw [hfm, HCMP.out]; exact beq_self_eq_true _
            clear hru hfm hfr ht2 hrb hr0b hx256
            go_wp2
            refine wp_region_noPanic ?_
            refine wp_region_held_drew (S := fun _ => True) (by kernel_rfl) trivial (fun _ => ?_)
            refine takeT (i := 0) (oi := _) (d := 77) (v := ?_) rfl (by rfl) (by kernel_rfl) (by kernel_rfl) (by kernel_rfl) (fun _ _ _ h => h) (by rfl) ?_ ?_
            rotate_left
            · intro w; go_simp; try with_reducible rfl
            simp only [List.setIfInBounds_toArray, List.set_cons_zero, List.set_cons_succ]
            refine wpAnyH_ready (rs := [1]) (by kernel_rfl) (by simp) ?_
            refine AllReadyH.cons (o := _) rfl (fun K hK => ?_) AllReadyH.nil
            go_simp
            go_at_call 84
            refine (HRN.out _).mono ?_
            rintro e w1 ⟨rfl, rfl⟩
            rw [HRU.out]
            dsimp only
            refine hK.out _ _ trivial (fun _ => ?_)
            clear hK K
            try simp only [Act.put, List.setIfInBounds_toArray, List.set_cons_zero, List.set_cons_succ]
            refine takeT (i := 2) (oi := _) (d := 79) (v := ?_) rfl (by rfl) (by kernel_rfl) (by kernel_rfl) (by kernel_rfl) (fun _ _ _ h => h) (by rfl) ?_ ?_
            rotate_left
            · intro w; go_simp; try with_reducible rfl
            simp only [List.setIfInBounds_toArray, List.set_cons_zero, List.set_cons_succ]
            refine takeT (i := 3) (oi := _) (d := 80) (v := ?_) rfl (by rfl) (by kernel_rfl) (by kernel_rfl) (by kernel_rfl) (fun _ _ _ h => h) (by rfl) ?_ ?_
            rotate_left
            · intro w; go_simp; try with_reducible rfl
            simp only [List.setIfInBounds_toArray, List.set_cons_zero, List.set_cons_succ]
            refine takeT (i := 4) (oi := _) (d := 81) (v := ?_) rfl (by rfl) (by kernel_rfl) (by kernel_rfl) (by kernel_rfl) (fun _ _ _ h => h) (by rfl) ?_ ?_
            rotate_left
            · intro w; go_simp; try with_reducible rfl
            simp only [List.setIfInBounds_toArray, List.set_cons_zero, List.set_cons_succ]
            refine takeT (i := 7) (oi := _) (d := 84) (v := ?_) rfl (by rfl) (by kernel_rfl) (by kernel_rfl) (by kernel_rfl) (fun _ _ _ h => h) (by rfl) ?_ ?_
            rotate_left
            · intro w; go_simp; try with_reducible rfl
            simp only [List.setIfInBounds_toArray, List.set_cons_zero, List.set_cons_succ]
            refine takeT (i := 8) (oi := _) (d := 85) (v := ?_) rfl (by rfl) (by kernel_rfl) (by kernel_rfl) (by kernel_rfl) (fun _ _ _ h => h) (by rfl) ?_ ?_
            rotate_left
            · intro w; go_simp; try with_reducible rfl
            simp only [List.setIfInBounds_toArray, List.set_cons_zero, List.set_cons_succ]
            refine takeT (i := 9) (oi := _) (d := 86) (v := ?_) rfl (by rfl) (by kernel_rfl) (by kernel_rfl) (by kernel_rfl) (fun _ _ _ h => h) (by rfl) ?_ ?_
            rotate_left
            · intro w; go_simp; try with_reducible rfl
            simp only [List.setIfInBounds_toArray, List.set_cons_zero, List.set_cons_succ]
            refine takeT (i := 10) (oi := _) (d := 87) (v := ?_) rfl (by rfl) (by kernel_rfl) (by kernel_rfl) (by kernel_rfl) (fun _ _ _ h => h) (by rfl) ?_ ?_
            rotate_left
            · intro w; go_simp; try with_reducible rfl
            simp only [List.setIfInBounds_toArray, List.set_cons_zero, List.set_cons_succ]
            refine takeT (i := 11) (oi := _) (d := 88) (v := ?_) rfl (by rfl) (by kernel_rfl) (by kernel_rfl) (by kernel_rfl) (fun _ _ _ h => h) (by rfl) ?_ ?_
            rotate_left
            · intro w; go_simp; try with_reducible rfl
            simp only [List.setIfInBounds_toArray, List.set_cons_zero, List.set_cons_succ]
            refine takeT (i := 12) (oi := _) (d := 89) (v := ?_) rfl (by rfl) (by kernel_rfl) (by kernel_rfl) (by kernel_rfl) (fun _ _ _ h => h) (by rfl) ?_ ?_
            rotate_left
            · intro w; go_simp; try with_reducible rfl
            simp only [List.setIfInBounds_toArray, List.set_cons_zero, List.set_cons_succ]
            refine wpAnyH_ready (rs := [5]) (by kernel_rfl) (by simp) ?_
            refine AllReadyH.cons (o := _) rfl (fun K hK => ?_) AllReadyH.nil
            go_simp
            go_at_call 71
            refine (HFM.out _).mono ?_
            rintro e w1 ⟨v1, rfl, ho1, hb1⟩
            obtain ⟨ao1, cp1, hv1⟩ := (Src.of_row ho1).len
            subst hv1
            have k1 := src_string (Src.of_row ho1)
            rw [List.length_map] at k1 ⊢
            generalize fr.length = ln1 at k1 ⊢
            have HB1 := Lib.hid (HD.out.trans hb1)
            clear ho1 hb1
            dsimp only
            refine hK.out _ _ trivial (fun _ => ?_)
            clear hK K
            try simp only [Act.put, List.setIfInBounds_toArray, List.set_cons_zero, List.set_cons_succ]
            refine wpAnyH_ready (rs := [6]) (by kernel_rfl) (by simp) ?_
            refine AllReadyH.cons (o := _) rfl (fun K hK => ?_) AllReadyH.nil
            go_simp
            refine hK.out _ _ trivial (fun _ => ?_)
            clear hK K
            try simp only [Act.put, List.setIfInBounds_toArray, List.set_cons_zero, List.set_cons_succ]
            refine takeT (i := 13) (oi := _) (d := 90) (v := ?_) rfl (by rfl) (by kernel_rfl) (by kernel_rfl) (by kernel_rfl) (fun _ _ _ h => h) (by rfl) ?_ ?_
            rotate_left
            · intro w; go_simp; try with_reducible rfl
            simp only [List.setIfInBounds_toArray, List.set_cons_zero, List.set_cons_succ]
            refine takeT (i := 14) (oi := _) (d := 91) (v := ?_) rfl (by rfl) (by kernel_rfl) (by kernel_rfl) (by kernel_rfl) (fun _ _ _ h => h) (by rfl) ?_ ?_
            rotate_left
            · intro w; go_simp; try with_reducible rfl
            simp only [List.setIfInBounds_toArray, List.set_cons_zero, List.set_cons_succ]
            refine wpAnyH_done (by kernel_rfl) ?_ _
            refine NoPanic.normal ?_
            all_goals
              go_wp2
              go_ret2
              rw [HN.out]
              exact ⟨rfl, HB1.out⟩
          · have HN : Hid (nextL (l.drop k) = (65533, 1)) := by unfold Hid; rw [HNX.out, if_neg (fun hq => hfm (by rw [hfr]; exact hq.2))]
            have hstr : (fr == (s.extract k t2).toList) = false := by rw [HCMP.out]; exact beq_eq_false_iff_ne.2 hfm
            clear hru hfm hfr ht2 hrb hr0b hx256
            go_wp2
            refine wp_region_noPanic ?_
            refine wp_region_held_drew (S := fun _ => True) (by kernel_rfl) trivial (fun _ => ?_)
            refine takeT (i := 0) (oi := _) (d := 77) (v := ?_) rfl (by rfl) (by kernel_rfl) (by kernel_rfl) (by kernel_rfl) (fun _ _ _ h => h) (by rfl) ?_ ?_
            rotate_left
            · intro w; go_simp; try with_reducible rfl
            simp only [List.setIfInBounds_toArray, List.set_cons_zero, List.set_cons_succ]
            refine wpAnyH_ready (rs := [1]) (by kernel_rfl) (by simp) ?_
            refine AllReadyH.cons (o := _) rfl (fun K hK => ?_) AllReadyH.nil
            go_simp
            go_at_call 84
            refine (HRN.out _).mono ?_
            rintro e w1 ⟨rfl, rfl⟩
            rw [HRU.out]
            dsimp only
            refine hK.out _ _ trivial (fun _ => ?_)
            clear hK K
            try simp only [Act.put, List.setIfInBounds_toArray, List.set_cons_zero, List.set_cons_succ]
            refine takeT (i := 2) (oi := _) (d := 79) (v := ?_) rfl (by rfl) (by kernel_rfl) (by kernel_rfl) (by kernel_rfl) (fun _ _ _ h => h) (by rfl) ?_ ?_
            rotate_left
            · intro w; go_simp; try with_reducible rfl
            simp only [List.setIfInBounds_toArray, List.set_cons_zero, List.set_cons_succ]
            refine takeT (i := 3) (oi := _) (d := 80) (v := ?_) rfl (by rfl) (by kernel_rfl) (by kernel_rfl) (by kernel_rfl) (fun _ _ _ h => h) (by rfl) ?_ ?_
            rotate_left
            · intro w; go_simp; try with_reducible rfl
            simp only [List.setIfInBounds_toArray, List.set_cons_zero, List.set_cons_succ]
            refine takeT (i := 4) (oi := _) (d := 81) (v := ?_) rfl (by rfl) (by kernel_rfl) (by kernel_rfl) (by kernel_rfl) (fun _ _ _ h => h) (by rfl) ?_ ?_
            rotate_left
            · intro w; go_simp; try with_reducible rfl
            simp only [List.setIfInBounds_toArray, List.set_cons_zero, List.set_cons_succ]
            refine takeT (i := 7) (oi := _) (d := 84) (v := ?_) rfl (by rfl) (by kernel_rfl) (by kernel_rfl) (by kernel_rfl) (fun _ _ _ h => h) (by rfl) ?_ ?_
            rotate_left
            · intro w; go_simp; try with_reducible rfl
            simp only [List.setIfInBounds_toArray, List.set_cons_zero, List.set_cons_succ]
            refine takeT (i := 8) (oi := _) (d := 85) (v := ?_) rfl (by rfl) (by kernel_rfl) (by kernel_rfl) (by kernel_rfl) (fun _ _ _ h => h) (by rfl) ?_ ?_
            rotate_left
            · intro w; go_simp; try with_reducible rfl
            simp only [List.setIfInBounds_toArray, List.set_cons_zero, List.set_cons_succ]
            refine takeT (i := 9) (oi := _) (d := 86) (v := ?_) rfl (by rfl) (by kernel_rfl) (by kernel_rfl) (by kernel_rfl) (fun _ _ _ h => h) (by rfl) ?_ ?_
            rotate_left
            · intro w; go_simp; try with_reducible rfl
            simp only [List.setIfInBounds_toArray, List.set_cons_zero, List.set_cons_succ]
            refine takeT (i := 10) (oi := _) (d := 87) (v := ?_) rfl (by rfl) (by kernel_rfl) (by kernel_rfl) (by kernel_rfl) (fun _ _ _ h => h) (by rfl) ?_ ?_
            rotate_left
            · intro w; go_simp; try with_reducible rfl
            simp only [List.setIfInBounds_toArray, List.set_cons_zero, List.set_cons_succ]
            refine takeT (i := 11) (oi := _) (d := 88) (v := ?_) rfl (by rfl) (by kernel_rfl) (by kernel_rfl) (by kernel_rfl) (fun _ _ _ h => h) (by rfl) ?_ ?_
            rotate_left
            · intro w; go_simp; try with_reducible rfl
            simp only [List.setIfInBounds_toArray, List.set_cons_zero, List.set_cons_succ]
            refine takeT (i := 12) (oi := _) (d := 89) (v := ?_) rfl (by rfl) (by kernel_rfl) (by kernel_rfl) (by kernel_rfl) (fun _ _ _ h => h) (by rfl) ?_ ?_
            rotate_left
            · intro w; go_simp; try with_reducible rfl
            simp only [List.setIfInBounds_toArray, List.set_cons_zero, List.set_cons_succ]
            refine wpAnyH_ready (rs := [5]) (by kernel_rfl) (by simp) ?_
            refine AllReadyH.cons (o := _) rfl (fun K hK => ?_) AllReadyH.nil
            go_simp
            go_at_call 71
            refine (HFM.out _).mono ?_
            rintro e w1 ⟨v1, rfl, ho1, hb1⟩
            obtain ⟨ao1, cp1, hv1⟩ := (Src.of_row ho1).len
            subst hv1
            have k1 := src_string (Src.of_row ho1)
            rw [List.length_map] at k1 ⊢
            generalize fr.length = ln1 at k1 ⊢
            have HB1 := Lib.hid (HD.out.trans hb1)
            clear ho1 hb1
            dsimp only
            refine hK.out _ _ trivial (fun _ => ?_)
            clear hK K
            try simp only [Act.put, List.setIfInBounds_toArray, List.set_cons_zero, List.set_cons_succ]
            refine wpAnyH_ready (rs := [6]) (by kernel_rfl) (by simp) ?_
            refine AllReadyH.cons (o := _) rfl (fun K hK => ?_) AllReadyH.nil
            go_simp
            refine hK.out _ _ trivial (fun _ => ?_)
            clear hK K
            try simp only [Act.put, List.setIfInBounds_toArray, List.set_cons_zero, List.set_cons_succ]
            refine takeT (i := 13) (oi := _) (d := 90) (v := ?_) rfl (by rfl) (by kernel_rfl) (by kernel_rfl) (by kernel_rfl) (fun _ _ _ h => h) (by rfl) ?_ ?_
            rotate_left
            · intro w; go_simp; try with_reducible rfl
            simp only [List.setIfInBounds_toArray, List.set_cons_zero, List.set_cons_succ]
            refine takeT (i := 14) (oi := _) (d := 91) (v := ?_) rfl (by rfl) (by kernel_rfl) (by kernel_rfl) (by kernel_rfl) (fun _ _ _ h => h) (by rfl) ?_ ?_
            rotate_left
            · intro w; go_simp; try with_reducible rfl
            simp only [List.setIfInBounds_toArray, List.set_cons_zero, List.set_cons_succ]
            refine wpAnyH_done (by kernel_rfl) ?_ _
            refine NoPanic.normal ?_
            all_goals
              go_wp2
              go_ret2
              rw [HN.out]
              exact ⟨rfl, HB1.out⟩
        · have hru : isRune (r : Int) = false := by simpa using hru
          have HRU := Lib.hid hru
          have HN : Hid (nextL (l.drop k) = (65533, 1)) := by unfold Hid; rw [HNX.out, if_neg (fun hq => by rw [hru] at hq; cases hq.1)]
          have HRNF : Hid (∀ W, Calls Tryd.prog 84 #[.int .i32 (r : Int)] W fun e w' => e = .returned (.bool false) ∧ w' = W) := fun W => (HRN.out W).mono fun e w' hh => ⟨by rw [hh.1, HRU.out], hh.2.symm⟩
          clear hru ht2 hrb hr0b hx256
          go_wp2
          go_quiet ((go_at_call 84; exact Calls.quiet_of_same (HRNF.out _)))
          go_wp2
          go_ret2
          rw [HN.out]
          exact ⟨rfl, bw_drew (BW.refl w) _⟩
      | succ g =>
        have hd0 : decide ((i : Int) < 4) = true := decide_eq_true (by omega)
        have hin : (i : Int) < 4 := by omega
        have hi0 : 0 ≤ (i : Int) := by omega
        obtain ⟨t, ht⟩ : ∃ t, t = k + i := ⟨_, rfl⟩
        have hti : (k : Int) + (i : Int) = (t : Int) := by omega
        have hkis : t < s.size := by have := HKN.out; omega
        have htsi : (t : Int) < (s.size : Int) := by omega
        have ht0 : 0 ≤ (t : Int) := by omega
        obtain ⟨y, hy⟩ : ∃ y : Nat, y = (s[t]'hkis).toNat := ⟨_, rfl⟩
        have hyi : ((s[t]'hkis).toNat : Int) = (y : Int) := by rw [hy]
        have hy256 : y < 256 := by rw [hy]; exact UInt8.toNat_lt _
        have hand := and_63 hy256
        obtain ⟨z, hz⟩ : ∃ z, z = y % 64 := ⟨_, rfl⟩
        rw [← hz] at hand
        have hz64 : z < 64 := by omega
        have hz0 : 0 ≤ (z : Int) := by omega
        have hzi : (z : Int) < 64 := by omega
        have hwz : IntKind.i32.wrap (z : Int) = (z : Int) := by rw [IntKind.wrap_i32]; omega
        have hri : (r : Int) < 2097152 := by omega
        have HNR : Hid (r * 64 + z = gath r0 ((l.drop (k + 1)).take (j + 1))) := by
          have hq : j < (l.drop (k + 1)).length := by rw [List.length_drop]; have := HKN.out; have := HS.out; omega
          have hc : (l.drop (k + 1))[j]'hq = l[t]'(by have := HS.out; omega) := by
            rw [List.getElem_drop]; congr 1; omega
          unfold Hid
          rw [List.take_succ_eq_append_getElem hq, gath_snoc, ← HR.out, hz, hc, hy]
          have hss := HS2.out
          subst hss
          rfl
        clear hjg hi hy hz hy256 hz64 hrb hr0b hx256 hxi ht
        go_wp2
        go_roundg g
        case measure => omega
        case rel => exact ⟨j + 1, r * 64 + z, by have := HJG.out; omega, by rw [HI.out]; go_num, by go_num, HNR.out, rfl⟩
  refine absurd ?_ hno
  unfold leadN
  rw [if_neg hc2, if_neg hc3, if_neg hc4]
end Go.Proofs.YtljjaepadnmmeaaDoor
