/- Stage 7, the program: keys as values; Right, Compare. -/
import Derived.Test.YtghghekdheeknaaDoorOrdL
import Derived.StillTailTactics
import Derived.Deep.QuietTactic
namespace Go.Proofs.YtghghekdheeknaaDoor
open Go.RowKit Go.Maps Odr Go.Shelf
attribute [local go_sem] Oper.semAt_some

theorem text_list (l : List UInt8) : (ByteArray.mk l.toArray).toList = l := by
  rw [ByteArray.toList_eq]
def keyV (k : PKey) : Value := .agg #[.int .i64 k.kind, .int .i64 k.num, textV k.text]
def rightB (k : PKey) : Bool := decide (k.kind = 0 ∧ k.num = 0 ∧ k.text = []) || decide (k.kind = 1 ∧ k.text = []) || decide (k.kind = 2 ∧ k.num = 0)
theorem rightB_iff (k : PKey) : rightB k = true ↔ rightK k := by unfold rightB rightK; simp [or_assoc]
def SameInt (x : Int) (w : World) (e : Ending) (w' : World) : Prop := e = .returned (.int .i64 x) ∧ w' = w
def BwVal (v : Value) (w : World) (e : Ending) (w' : World) : Prop := e = .returned v ∧ BW w w'
theorem isNaN64_any (x : Int) (w : World) : Calls Tryd.prog 64 #[.int .i64 x] w fun e w' => e = .returned (.bool false) ∧ w = w' := by
  go_enter Tryd.func64, Tryd.ntmps64
  go_wp2
  go_ret
  exact ⟨by simp, rfl⟩
theorem cmpInt64_any (x y : Int) (w : World) : Calls Tryd.prog 47 #[.int .i64 x, .int .i64 y] w fun e w' => e = .returned (.int .i64 (Lib.compareInt x y)) ∧ w' = w := by
  go_enter Tryd.func47, Tryd.ntmps47
  go_wp2_with (go_at_call 64; refine (isNaN64_any _ _).mono ?_; rintro e w' ⟨rfl, rfl⟩)
  all_goals (go_ret; refine ⟨?_, rfl⟩; unfold Lib.compareInt; (repeat' split) <;> first | rfl | (exfalso; omega))
/-- the first that is not 0 -/
def orL : List Int → Int
  | [] => 0
  | x :: l => if x = 0 then orL l else x
theorem orL_drop {l : List Int} {i : Nat} (h : i < l.length) : orL (l.drop i) = if l[i] = 0 then orL (l.drop (i + 1)) else l[i] := by
  rw [List.drop_eq_getElem_cons h, orL]
theorem cmpK_or (a b : PKey) : orL [Lib.compareInt a.kind b.kind, Lib.compareInt a.num b.num, cmpT a.text b.text] = cmpK a b := by
  unfold orL orL orL cmpK Lib.compareInt
  by_cases h1 : a.kind < b.kind
  · simp [h1]
  · by_cases h2 : b.kind < a.kind
    · simp [h1, h2]
    · by_cases h3 : a.num < b.num
      · simp [h1, h2, h3]
      · by_cases h4 : b.num < a.num
        · simp [h1, h2, h3, h4]
        · simp [h1, h2, h3, h4]
          intro h; rw [h]; rfl
theorem orL_zeros : ∀ (l : List Int) (i : Nat), (∀ j (h : j < l.length), j < i → l[j] = 0) → orL l = orL (l.drop i)
  | [], i, _ => by simp
  | x :: l, 0, _ => rfl
  | x :: l, i + 1, h => by
    have h0 : x = 0 := h 0 (by simp) (by omega)
    rw [orL, if_pos h0, List.drop_succ_cons]
    exact orL_zeros l i fun j hj hi => h (j + 1) (by simpa using hj) (by omega)
set_option maxRecDepth 100000 in
set_option maxHeartbeats 4000000 in
theorem or_any (b n : Nat) (xs : List Int) (hn : xs.length = n) (hn2 : (n : Int) ≤ 1000) (w : World) (hc : ∀ j (h : j < xs.length), w.cell? ⟨b, j, none⟩ = some (.int .i64 xs[j])) :
    Calls Tryd.prog 45 #[.slice (some ⟨b, 0, none⟩) n n] w (SameInt (orL xs) w) := by
  have HC := Lib.hid hc; have HN := Lib.hid hn
  clear hc hn
  go_enter Tryd.func45, Tryd.ntmps45
  go_wp2
  go_loopw [8] (fun s8 wr => ∃ (i : Nat), wr = w ∧ i ≤ n ∧ s8 = .int .i64 (i : Int) ∧ ∀ j (h : j < xs.length), j < i → xs[j] = 0) (fun s8 _ => n - (intOf s8).toNat)
  case atStart => exact ⟨0, rfl, Nat.zero_le _, rfl, fun j _ h => by omega⟩
  case round =>
    obtain ⟨i, rfl, hi, rfl, hz⟩ := hrel
    have HZ := Lib.hid hz
    clear hz
    by_cases hlt : i < n
    · have hlti : (i : Int) < (n : Int) := by omega
      have hi0 : 0 ≤ (i : Int) := by omega
      have h1 : i < xs.length := by rw [HN.out]; exact hlt
      have c0 := HC.out i h1
      obtain ⟨x, hx⟩ : ∃ x, x = xs[i] := ⟨_, rfl⟩
      rw [← hx] at c0
      have HX := Lib.hid hx
      have HLT := Lib.hid hlt
      clear hx hlt hi
      by_cases h0 : x = 0
      · have HALL : Hid (∀ j (h : j < xs.length), j < i + 1 → xs[j] = 0) := fun j g hj => by
          by_cases e : j < i
          · exact HZ.out j g e
          · obtain rfl : j = i := by omega
            rw [← HX.out, h0]
        subst h0
        clear HX h1
        go_wp2
        go_roundw
        case rel => exact ⟨i + 1, by first | rfl | trivial, HLT.out, by first | rfl | go_num, HALL.out⟩
        case measure => simp [intOf]; have := HLT.out; omega
      · have hne : (x == 0) = false := by simpa using h0
        have hne2 : (x != 0) = true := by simpa using h0
        have HR : Hid (x = orL xs) := by
          unfold Hid
          rw [orL_zeros xs i HZ.out, orL_drop h1, if_neg (by rw [← HX.out]; exact h0)]; exact HX.out
        clear HX h1 h0
        go_wp2
        go_ret
        exact ⟨ret_int HR.out, rfl⟩
    · have hlti : (n : Int) ≤ (i : Int) := by omega
      have HR : Hid ((0 : Int) = orL xs) := by
        unfold Hid
        rw [orL_zeros xs i HZ.out, List.drop_eq_nil_of_le (by rw [HN.out]; omega)]; rfl
      clear hlt hi
      go_wp2
      go_ret
      exact ⟨ret_int HR.out, rfl⟩
def keyBlk (k : PKey) : Obj := .cells #[.int .i64 k.kind, .int .i64 k.num, textV k.text] 45 (0, 0)
set_option maxRecDepth 100000 in
set_option maxHeartbeats 4000000 in
theorem right_any (k : PKey) (w : World) : Calls Tryd.prog 23 #[keyV k] w (BwVal (.bool (rightB k)) w) := by
  obtain ⟨kk, kn, kt⟩ := k
  obtain ⟨tx, htx⟩ : ∃ tx, tx = ByteArray.mk kt.toArray := ⟨_, rfl⟩
  have HT : Hid (tx.toList = kt) := by unfold Hid; rw [htx]; exact text_list kt
  unfold keyV textV
  dsimp only
  rw [← htx]
  clear htx
  go_enter Tryd.func23, Tryd.ntmps23
  go_wp2
  all_goals (go_ret; refine ⟨ret_bool ?_, bw_alloc _ _⟩; unfold rightB; rw [← HT.out]; clear HT; simp_all <;> first | done | (cases tx.toList <;> simp; done) | (by_cases e : kn = 0 <;> simp [e]))
set_option maxRecDepth 100000 in
set_option maxHeartbeats 4000000 in
theorem compare_any (a b : PKey) (w : World) : Calls Tryd.prog 25 #[keyV a, keyV b] w (BwVal (.int .i64 (cmpK a b)) w) := by
  obtain ⟨ak, an, ta⟩ := a
  obtain ⟨bk, bn, tb⟩ := b
  have HS := Lib.hid (fun W => strCompare_any ta tb W)
  obtain ⟨ca, hca⟩ : ∃ ca, ca = cmpT ta tb := ⟨_, rfl⟩
  rw [← hca] at HS
  obtain ⟨tx, htx⟩ : ∃ tx, textV ta = .string tx := ⟨_, rfl⟩
  obtain ⟨ty, hty⟩ : ∃ tx, textV tb = .string tx := ⟨_, rfl⟩
  have HK : Hid (orL [Lib.compareInt ak bk, Lib.compareInt an bn, ca] = cmpK ⟨ak, an, ta⟩ ⟨bk, bn, tb⟩) := by
    unfold Hid; rw [hca]; exact cmpK_or ⟨ak, an, ta⟩ ⟨bk, bn, tb⟩
  unfold keyV
  dsimp only
  rw [htx, hty] at HS ⊢
  clear hca htx hty
  go_enter Tryd.func25, Tryd.ntmps25
  go_upto_region 1 with (fail)
  generalize hX : Lib.compareInt ak bk = x1 at HK
  generalize hY : Lib.compareInt an bn = x2 at HK
  have HXC : Hid (∀ W, Calls Tryd.prog 46 #[.int .i64 ak, .int .i64 bk] W fun e w' => e = .returned (.int .i64 x1) ∧ w' = W) := fun W => by rw [← hX]; exact cmpInt_any ak bk W
  have HYC : Hid (∀ W, Calls Tryd.prog 47 #[.int .i64 an, .int .i64 bn] W fun e w' => e = .returned (.int .i64 x2) ∧ w' = W) := fun W => by rw [← hY]; exact cmpInt64_any an bn W
  clear hX hY
  obtain ⟨W1, hW1⟩ : ∃ W1, W1 = (w.alloc (.cells #[.int .i64 ak, .int .i64 an, .string tx] 45)).alloc (.cells #[.int .i64 bk, .int .i64 bn, .string ty] 45) := ⟨_, rfl⟩
  rw [← hW1]
  obtain ⟨N, hN⟩ : ∃ N, N = w.heap.size := ⟨_, rfl⟩
  have hA : W1.heap[N]? = some (.cells #[.int .i64 ak, .int .i64 an, .string tx] 45) := by rw [hW1, hN]; exact (Below.heap_alloc _ _ _ (by simp)).trans (heap_new _ _)
  have hB : W1.heap[N + 1]? = some (.cells #[.int .i64 bk, .int .i64 bn, .string ty] 45) := by
    rw [hW1, hN]; have := heap_new (w.alloc (.cells #[.int .i64 ak, .int .i64 an, .string tx] 45)) (.cells #[.int .i64 bk, .int .i64 bn, .string ty] 45); rwa [World.size_alloc] at this
  have HBW : Hid (BW w W1) := by unfold Hid; rw [hW1]; exact (bw_alloc w _).alloc _
  rw [← hN]
  have d0 : W1.cell? ⟨N, 0, none⟩ = some (.int .i64 ak) := cell_of hA rfl
  have d1 : W1.cell? ⟨N, 1, none⟩ = some (.int .i64 an) := cell_of hA rfl
  have d2 : W1.cell? ⟨N, 2, none⟩ = some (.string tx) := cell_of hA rfl
  have e0 : W1.cell? ⟨N + 1, 0, none⟩ = some (.int .i64 bk) := cell_of hB rfl
  have e1 : W1.cell? ⟨N + 1, 1, none⟩ = some (.int .i64 bn) := cell_of hB rfl
  have e2 : W1.cell? ⟨N + 1, 2, none⟩ = some (.string ty) := cell_of hB rfl
  clear hW1 hN hA hB
  refine wp_region_still_tail 15 (by kernel_rfl) (by kernel_rfl) ?_
  simp only [List.take_succ_cons, List.take_zero, List.drop_succ_cons, List.drop_zero]
  repeat still_step
  still_call (HXC.out _)
  repeat still_step
  still_call (HYC.out _)
  repeat still_step
  still_call (HS.out _)
  refine wpStill_nil ?_
  change wpList _ _ _ _ _ W1.drew
  have HB1 : Hid (BW w W1.drew) := (HBW.out).drew
  generalize W1.drew = W2 at HB1 ⊢
  clear d0 d1 d2 e0 e1 e2 HXC HYC HS
  have HC2 : Hid (∀ j (h : j < [x1, x2, ca].length), (W2.alloc (.cells #[.int .i64 x1, .int .i64 x2, .int .i64 ca] 3)).cell? ⟨W2.heap.size, j, none⟩ = some (.int .i64 [x1, x2, ca][j])) := fun j h => by
    refine cell_of (heap_new W2 _) ?_
    match j, h with
    | 0, _ => rfl
    | 1, _ => rfl
    | 2, _ => rfl
  go_wp2_with (go_at_call 45; refine (or_any W2.heap.size 3 [x1, x2, ca] rfl (by decide) _ HC2.out).mono ?_; rintro e w' ⟨rfl, rfl⟩)
  go_ret
  exact ⟨ret_int HK.out, HB1.out.alloc _⟩
end Go.Proofs.YtghghekdheeknaaDoor
