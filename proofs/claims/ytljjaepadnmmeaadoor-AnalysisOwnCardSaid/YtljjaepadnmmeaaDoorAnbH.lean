/- Stage 6, the program: the iterator over grams. -/
import Derived.Test.YtljjaepadnmmeaaDoorAnbG
import Derived.RangeFuncNested
import Derived.RangeFuncBound
import Derived.RangeFuncCalls
import Derived.RangeFuncLeaves
import Derived.RangeFuncBox
import Derived.Shelf.Abstract
import Derived.Shelf.RegionOpen
import Derived.OwnWalkIn
import Derived.TacticsInMore
import Derived.LoopNIn
import Derived.LoopIn
import Derived.WalkSmall
namespace Go.Proofs.YtljjaepadnmmeaaDoor
open Go.RowKit Go.Maps Fld Ana Go.Shelf
attribute [local go_sem] Oper.semAt_some

theorem bw_drewn {w w' : World} (h : BW w w') : BW w w'.drew := ⟨h.os, h.tape, h.output, h.size, h.block⟩
theorem bw_grow {W W' : World} (h : BW W W') : W.grownBy W' none := ⟨h.os, h.tape, h.output, h.size, fun k hk _ => h.block k hk⟩
/-- a gram's two places, within a text of so many bytes -/
abbrev GX (L : Nat) := { p : Nat × Nat // p.1 ≤ p.2 ∧ p.2 ≤ L }
def valG {L : Nat} (xs : List (GX L)) : List (Nat × Nat) := xs.map (·.1)
def encG {L : Nat} (x : GX L) : Array Value := #[.int .i64 (x.1.1 : Int), .int .i64 (x.1.2 : Int)]
def gramAt (l : List UInt8) (n j : Nat) : Nat × Nat := (atM l j, atM l (j + n))
def gramsB (l : List UInt8) (n : Nat) : List (Nat × Nat) := (List.range ((cutsL l).length - n + 1)).map (gramAt l n)
/-- what the rounds keep for it -/
def GK (w0 : World) (Bt : Nat) (v : Value) (W W' : World) : Prop := (W.cell? ⟨Bt, 0, none⟩ = some v → W'.cell? ⟨Bt, 0, none⟩ = some v) ∧ (BW w0 W → BW w0 W')
theorem GK.refl (w0 : World) (Bt : Nat) (v : Value) (W : World) : GK w0 Bt v W W := ⟨id, id⟩
theorem GK.trans {w0 : World} {Bt : Nat} {v : Value} {A B C : World} (h : GK w0 Bt v A B) (k : GK w0 Bt v B C) : GK w0 Bt v A C := ⟨fun x => k.1 (h.1 x), fun x => k.2 (h.2 x)⟩
theorem GK.books {w0 : World} {Bt : Nat} {v : Value} {N : Nat} (hN : w0.heap.size ≤ N) (W : World) (l : Nat) (o o' : Obj) (hl : N ≤ l) (h : W.heap[l]? = some o) (hc : o.isCells = false) : GK w0 Bt v W (W.putObj l o') := by
  refine ⟨fun hv => ?_, fun hb => ?_⟩
  · obtain ⟨o2, h2, h3⟩ := cells_of_cell hv
    have hne : Bt ≠ l := fun e => by
      simp only at h2
      rw [e, h] at h2; cases h2; rw [hc] at h3; cases h3
    exact (World.cell?_of_block (w := W) (a := ⟨Bt, 0, none⟩) (World.putObj_heap_other hne)).trans hv
  · exact RowKit.Below.grown hb (grownBy_putObj' W l o') hb.size (fun k e => by cases e; omega)
theorem atM_zero (l : List UInt8) : atM l 0 = 0 := by unfold atM atL; simp [atC]
theorem gram_more {l : List UInt8} {n j : Nat} (h : j + n < (cutsL l).length) : atM l (j + n) < l.length := by
  unfold atM; rw [Nat.min_eq_left (by omega)]
  have := at_lt h (Nat.le_refl _); rw [at_end] at this; exact this
theorem gram_last {l : List UInt8} {n j : Nat} (h : ¬ j + n < (cutsL l).length) : atM l (j + n) = l.length := by
  unfold atM; rw [Nat.min_eq_right (by omega), at_end]
theorem atM_lt {l : List UInt8} {j : Nat} (h : j < (cutsL l).length) : atM l j < atM l (j + 1) := by
  unfold atM; rw [Nat.min_eq_left (by omega), Nat.min_eq_left (by omega)]; exact at_lt (by omega) (by omega)
theorem takeS {P : Program} {md : Region.Mode} {S : World → Prop} {ops : Array Oper} {Q : Exit → Act → World → Prop} {i d : Nat} {oi : Oper} {v : Value} {fuel : Nat} {listed : Array Bool} {a : Act} {w : World} (hi : ops[i]? = some oi) (hd : oi.dst = some d)
    (hs : Region.noSelect ops = true) (hf : Region.free md ops listed i = true) (hr : (Region.ready md ops listed).contains i = true) (hQ : ∀ c a w, Q (.panic c) (a.put oi.dst v) w → Q (.panic c) a w)
    (hw : Region.wanted oi (yielded ops a.tmps) = true) (hy : ∀ w, S w → (execOp a.eval oi).run P w = .ok (.value v) w) (hS : S w)
    (h : wpAnyH P md ops Q S fuel (listed.setIfInBounds i true) { tmps := a.tmps.setIfInBounds d v, defers := a.defers } w) : wpAnyH P md ops Q S (fuel + 1) listed a w := by
  refine wpAnyH_take hi hs hf hr hQ (Or.inl ⟨hw, fun w hw => hy w hw⟩) hS ?_
  rw [hd]; exact h
set_option maxRecDepth 100000 in
set_option maxHeartbeats 4000000 in
theorem grams1_in (l : List UInt8) (hl : (l.length : Int) ≤ 1000000000000000) (n : Nat) (hn : n ≤ 100) (m ly Bt Bn : Nat) (hm : 1 ≤ m) (w0 W : World) (J Jx : List (GX l.length) → World → Prop) (hJ : AbidesFrom W.heap.size J)
    (hY : ∀ pre x W, J pre W → pre.length < (cutsL l).length - n + 1 → YieldAt Fence.wide (m - 1) Tryd.prog ly (encG x) W fun e W' =>
      (e = .returned (.bool true) ∧ J (pre ++ [x]) W' ∧ GK w0 Bt (textV l) W W') ∨ (e = .returned (.bool false) ∧ Jx (pre ++ [x]) W'))
    (hN : NextOk w0) (hb0 : BW w0 W) (hBt : W.cell? ⟨Bt, 0, none⟩ = some (textV l)) (hBn : W.cell? ⟨Bn, 0, none⟩ = some (.int .i64 (n : Int))) (h0 : J [] W) :
    CallsIn Fence.wide m Tryd.prog 75 #[.func (.yield ly) #[] #[], .pointer (some ⟨Bt, 0, none⟩), .pointer (some ⟨Bn, 0, none⟩)] W fun e W' => (∃ v, e = .returned v) ∧
      ((∃ xs, valG xs = gramsB l n ∧ J xs W') ∨ (∃ pre, valG pre <+: gramsB l n ∧ Jx pre W')) := by
  obtain ⟨tx, htx⟩ : ∃ tx, tx = ByteArray.mk l.toArray := ⟨_, rfl⟩
  have hts : tx.size = l.length := by rw [htx]; exact text_size l
  have hTv : textV l = .string tx := by rw [htx]; rfl
  have HTS := Lib.hid hts
  have HTV := Lib.hid hTv
  have HBH := Lib.hid (fun (X : World) (hX : BW w0 X) (i k : Nat) (hk : k ≤ 100) => behind_any l hl i k hk X (hN.bw hX))
  have HY := Lib.hid hY; have HJ := Lib.hid hJ; have HB0 := Lib.hid hb0; have H0 := Lib.hid h0; have HNN := Lib.hid hn
  rw [hTv] at HBH HY hBt
  have HBT := Lib.hid hBt
  have HL := Lib.hid hl
  obtain ⟨c, hc⟩ : ∃ c, c = (cutsL l).length := ⟨_, rfl⟩
  rw [← hc] at HY
  have HCC := Lib.hid hc
  have HCN := Lib.hid (HBH.out W hb0 0 n hn)
  rw [atM_zero, Nat.zero_add] at HCN
  have HAL := Lib.hid (fun i => atM_le l i)
  clear hTv hts htx hY hJ hb0 h0 hN hn hc hl
  refine callsIn_of_wp Tryd.func75 rfl trivial ?_ rfl
  simp only [Tryd.ntmps75, List.size_toArray, List.length_cons, List.length_nil, Nat.reduceAdd, Nat.reduceSub, Array.replicate_succ, Array.replicate_zero, List.push_toArray, List.append_toArray, List.nil_append, List.cons_append]
  gi_wp2
  refine ⟨trivial, ?_⟩
  refine (callsIn_wide.2 HCN.out).mono ?_
  rintro e w1 ⟨rfl, hq⟩
  have HQ1 := Lib.hid hq
  clear hq HCN hBn hBt
  gi_wp2
  gi_loopw [4, 5] (fun s4 s5 wr => ∃ (j : Nat) (pre : List (GX l.length)), j ≤ c - n ∧ pre.length = j ∧ valG pre = (List.range j).map (gramAt l n) ∧ s4 = .int .i64 (atM l j : Int) ∧ s5 = .int .i64 (atM l (j + n) : Int) ∧ J pre wr ∧ BW w0 wr ∧ wr.cell? ⟨Bt, 0, none⟩ = some (.string tx)) (fun s4 _ wr => l.length + 1 - (intOf s4).toNat)
  case atStart => exact ⟨0, [], Nat.zero_le _, rfl, rfl, by rw [atM_zero]; rfl, by rw [Nat.zero_add], HJ.out _ _ _ none H0.out (bw_grow HQ1.out) (fun r e => by cases e), HB0.out.trans HQ1.out, (HQ1.out.cell (p := ⟨Bt, 0, none⟩) (cell_lt HBT.out)).trans HBT.out⟩
  case round =>
    obtain ⟨j, pre, hj, hpl, hpv, rfl, rfl, hJs, hb, hct⟩ := hrel
    have HC := Lib.hid hct; have HB := Lib.hid hb
    obtain ⟨x, hx⟩ : ∃ x : GX l.length, x = ⟨(atM l j, atM l (j + n)), atM_mono (Nat.le_add_right _ _), atM_le l _⟩ := ⟨_, rfl⟩
    have HXE : Hid (encG x = #[.int .i64 (atM l j : Int), .int .i64 (atM l (j + n) : Int)]) := by unfold Hid; rw [hx]; rfl
    have HPV : Hid (valG (pre ++ [x]) = (List.range (j + 1)).map (gramAt l n)) := by
      unfold Hid valG; rw [List.range_succ, List.map_append, List.map_append, ← hpv, hx]; rfl
    have hY1 : Hid (∀ W, J pre W → YieldAt Fence.wide (m - 1) Tryd.prog ly #[.int .i64 (atM l j : Int), .int .i64 (atM l (j + n) : Int)] W fun e W' =>
        (e = .returned (.bool true) ∧ J (pre ++ [x]) W' ∧ GK w0 Bt (.string tx) W W') ∨ (e = .returned (.bool false) ∧ Jx (pre ++ [x]) W')) := fun W hW => by
      have h := HY.out pre x W hW (by omega)
      rw [HXE.out] at h; exact h
    have HPL : Hid ((pre ++ [x]).length = j + 1) := by unfold Hid; rw [List.length_append, hpl]; rfl
    have HPRE : Hid (valG (pre ++ [x]) <+: gramsB l n) := by
      unfold Hid; rw [HPV.out]; unfold gramsB
      rw [← HCC.out]
      refine List.IsPrefix.map _ ⟨(List.range (c - n - j)).map (j + 1 + ·), ?_⟩
      rw [← List.range_add]; congr 1; omega
    obtain ⟨f, hf⟩ : ∃ f, f = atM l j := ⟨_, rfl⟩
    obtain ⟨t, ht⟩ : ∃ t, t = atM l (j + n) := ⟨_, rfl⟩
    rw [← hf, ← ht] at hY1
    rw [← hf, ← ht]
    have HJN := Lib.hid hj
    have HF := Lib.hid hf; have HT := Lib.hid ht
    obtain ⟨fn, tmps, assign, body, hy, hR⟩ := hY1.out wr hJs
    clear hx hpv hpl hY1 hf ht hj hct hb hJs HXE
    gi_wp2
    refine hR.mono ?_
    rintro e2 W3 (⟨rfl, hJ3, hk3⟩ | ⟨rfl, hJx3⟩)
    · have HJ3 := Lib.hid hJ3
      have hc3 := hk3.1 HC.out
      have HB3 := Lib.hid (hk3.2 HB.out)
      have HC3 := Lib.hid hc3
      clear hJ3 hk3
      by_cases hmore : j + n < c
      · have htl : (t : Int) < (tx.size : Int) := by have := HT.out; have := gram_more (n := n) (by rw [← HCC.out]; exact hmore); have := HTS.out; omega
        have d1 : decide ((t : Int) < (tx.size : Int)) = true := decide_eq_true htl
        have HBF : Hid (∀ X, BW w0 X → Calls Tryd.prog 65 #[.string tx, .int .i64 (f : Int), .int .i64 1] X fun e w' => e = .returned (.int .i64 (atM l (j + 1) : Int)) ∧ BW X w') := fun X hX => by
          rw [HF.out]; exact HBH.out X hX j 1 (by decide)
        have HBT2 : Hid (∀ X, BW w0 X → Calls Tryd.prog 65 #[.string tx, .int .i64 (t : Int), .int .i64 1] X fun e w' => e = .returned (.int .i64 (atM l (j + n + 1) : Int)) ∧ BW X w') := fun X hX => by
          rw [HT.out]; exact HBH.out X hX (j + n) 1 (by decide)
        have HMO := Lib.hid hmore
        clear hmore
        gi_wp2
        refine (wpIn_wide (n := m)).2 ?_
        refine wp_region_noPanic ?_
        have HBX : Hid (BW w0 W3.drew) := bw_drewn HB3.out
        have HQX : Hid (BW W3 W3.drew) := bw_drewn (BW.refl W3)
        refine wp_region_held_drew (S := fun X => X.cell? ⟨Bt, 0, none⟩ = some (.string tx)) (by kernel_rfl) hc3 (fun hS => ?_)
        refine takeS (i := 0) (oi := _) (d := 19) (v := .string tx) rfl (by rfl) (by kernel_rfl) (by kernel_rfl) (by kernel_rfl) (fun _ _ _ h => h) (by rfl) ?_ hS ?_
        · intro X hX; go_simp; try with_reducible rfl
        simp only [List.setIfInBounds_toArray, List.set_cons_zero, List.set_cons_succ]
        refine takeS (i := 1) (oi := _) (d := 20) (v := .int .i64 (f : Int)) rfl (by rfl) (by kernel_rfl) (by kernel_rfl) (by kernel_rfl) (fun _ _ _ h => h) (by rfl) ?_ hS ?_
        · intro X hX; go_simp; try with_reducible rfl
        simp only [List.setIfInBounds_toArray, List.set_cons_zero, List.set_cons_succ]
        refine takeS (i := 3) (oi := _) (d := 22) (v := .string tx) rfl (by rfl) (by kernel_rfl) (by kernel_rfl) (by kernel_rfl) (fun _ _ _ h => h) (by rfl) ?_ hS ?_
        · intro X hX; go_simp; try with_reducible rfl
        simp only [List.setIfInBounds_toArray, List.set_cons_zero, List.set_cons_succ]
        refine takeS (i := 4) (oi := _) (d := 23) (v := .int .i64 (t : Int)) rfl (by rfl) (by kernel_rfl) (by kernel_rfl) (by kernel_rfl) (fun _ _ _ h => h) (by rfl) ?_ hS ?_
        · intro X hX; go_simp; try with_reducible rfl
        simp only [List.setIfInBounds_toArray, List.set_cons_zero, List.set_cons_succ]
        refine wpAnyH_ready (rs := [2]) (by kernel_rfl) (by simp) ?_
        refine AllReadyH.cons (o := _) rfl (fun K hK => ?_) AllReadyH.nil
        go_simp
        go_at_call 65
        refine (HBF.out _ HBX.out).mono ?_
        rintro e X1 ⟨rfl, hq1⟩
        have HBX := Lib.hid (HBX.out.trans hq1)
        have HQX := Lib.hid (HQX.out.trans hq1)
        have hS := ((hq1.cell (p := ⟨Bt, 0, none⟩) (cell_lt hS)).trans hS)
        clear hq1
        dsimp only
        refine hK.out _ _ hS (fun _ => ?_)
        clear hK K
        try simp only [Act.put, List.setIfInBounds_toArray, List.set_cons_zero, List.set_cons_succ]
        refine wpAnyH_ready (rs := [5]) (by kernel_rfl) (by simp) ?_
        refine AllReadyH.cons (o := _) rfl (fun K hK => ?_) AllReadyH.nil
        go_simp
        go_at_call 65
        refine (HBT2.out _ HBX.out).mono ?_
        rintro e X1 ⟨rfl, hq1⟩
        have HBX := Lib.hid (HBX.out.trans hq1)
        have HQX := Lib.hid (HQX.out.trans hq1)
        have hS := ((hq1.cell (p := ⟨Bt, 0, none⟩) (cell_lt hS)).trans hS)
        clear hq1
        dsimp only
        refine hK.out _ _ hS (fun _ => ?_)
        clear hK K
        try simp only [Act.put, List.setIfInBounds_toArray, List.set_cons_zero, List.set_cons_succ]
        refine wpAnyH_ready (rs := [6]) (by kernel_rfl) (by simp) ?_
        refine AllReadyH.cons (o := _) rfl (fun K hK => ?_) AllReadyH.nil
        go_simp
        refine hK.out _ _ hS (fun _ => ?_)
        clear hK K
        try simp only [Act.put, List.setIfInBounds_toArray, List.set_cons_zero, List.set_cons_succ]
        refine wpAnyH_ready (rs := [7]) (by kernel_rfl) (by simp) ?_
        refine AllReadyH.cons (o := _) rfl (fun K hK => ?_) AllReadyH.nil
        go_simp
        refine hK.out _ _ hS (fun _ => ?_)
        clear hK K
        try simp only [Act.put, List.setIfInBounds_toArray, List.set_cons_zero, List.set_cons_succ]
        refine wpAnyH_done (by kernel_rfl) ?_ _
        refine NoPanic.normal ?_
        go_wp2
        go_roundw
        case rel => exact ⟨j + 1, pre ++ [x], by have := HMO.out; omega, HPL.out, HPV.out, rfl, by rw [show j + 1 + n = j + n + 1 by omega], HJ.out _ _ _ none HJ3.out (bw_grow HQX.out) (fun r e => by cases e), HBX.out, hS⟩
        case measure =>
          simp [intOf]
          have h1 := atM_lt (l := l) (j := j) (by have := HMO.out; rw [← HCC.out]; omega)
          have h2 := HAL.out j
          have h3 := HF.out
          omega
      · have htl : (tx.size : Int) ≤ (t : Int) := by have := HT.out; have := gram_last (n := n) (by rw [← HCC.out]; exact hmore); have := HTS.out; omega
        have d1 : decide ((t : Int) < (tx.size : Int)) = false := decide_eq_false (by omega)
        have HEND : Hid (valG (pre ++ [x]) = gramsB l n) := by
          unfold Hid; rw [HPV.out]; unfold gramsB; rw [← HCC.out, show c - n + 1 = j + 1 by have := HJN.out; omega]
        clear hmore
        gi_wp2
        go_end0
        exact ⟨⟨_, rfl⟩, .inl ⟨_, HEND.out, HJ3.out⟩⟩
    · have HJX := Lib.hid hJx3
      clear hJx3
      gi_wp2
      go_end0
      exact ⟨⟨_, rfl⟩, .inr ⟨_, HPRE.out, HJX.out⟩⟩
end Go.Proofs.YtljjaepadnmmeaaDoor
