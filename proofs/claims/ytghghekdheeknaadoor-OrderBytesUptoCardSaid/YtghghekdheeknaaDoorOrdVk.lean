/- Stage 7, the program: a key read. -/
import Derived.Test.YtghghekdheeknaaDoorOrdVu
namespace Go.Proofs.YtghghekdheeknaaDoor
open Go.RowKit Go.Maps Odr Go.Shelf
attribute [local go_sem] Oper.semAt_some

def KeyPost (b : Nat) (w : World) (r : Option (PKey × List UInt8)) (e : Ending) (w' : World) : Prop :=
  match r with
  | some p => e = .returned (.tuple #[keyV p.1, .bool true]) ∧ Mv b w p.2 w'
  | none => (∃ k : PKey, e = .returned (.tuple #[keyV k, .bool false])) ∧ ∃ l, Mv b w l w'
/-- the result's three cells, and the reader's state -/
structure KyI (w : World) (b : Nat) (l : List UInt8) (W : World) : Prop where
  mv : Mv b w l W
  res : ∃ x y z, W.heap[w.heap.size]? = some (.cells #[x, y, z] 45 (0, 0))
theorem KyI.on {w W W' : World} {b : Nat} {l r : List UInt8} (h : KyI w b l W) (h2 : Mv b W r W') : KyI w b r W' := by
  obtain ⟨x, y, z, hr⟩ := h.res
  refine ⟨h.mv.trans h2, x, y, z, (h2.mv.block w.heap.size (lt_of_heap hr) (fun e => ?_)).trans hr⟩
  have := h.mv.lt; omega
theorem KyI.frozen {w W : World} {b : Nat} {l : List UInt8} (h : KyI w b l W) (i : Nat) : W.frozen? ⟨w.heap.size, i, none⟩ = false := by
  obtain ⟨x, y, z, hr⟩ := h.res
  exact unfrozen_of hr
theorem KyI.drew {w W : World} {b : Nat} {l : List UInt8} (h : KyI w b l W) : KyI w b l W.drew := ⟨⟨h.mv.mv.drew, h.mv.blk, h.mv.lt⟩, h.res⟩
def put3 (W : World) (N : Nat) (x y z : Value) : World := ((W.setCell ⟨N, 0, none⟩ x).setCell ⟨N, 1, none⟩ y).setCell ⟨N, 2, none⟩ z
theorem KyI.put {w W : World} {b : Nat} {l : List UInt8} (h : KyI w b l W) (x y z : Value) : Mv b w l (put3 W w.heap.size x y z) ∧ (put3 W w.heap.size x y z).heap[w.heap.size]? = some (.cells #[x, y, z] 45 (0, 0)) := by
  obtain ⟨x0, y0, z0, hr⟩ := h.res
  have hne : b ≠ w.heap.size := by have := h.mv.lt; omega
  have hN : ∀ {V : World} {u : Value} {i : Nat}, Mv b w l V → Mv b w l (V.setCell ⟨w.heap.size, i, none⟩ u) := fun {V u i} hv =>
    ⟨hv.mv.setCell (fun h2 => absurd h2 (Nat.lt_irrefl _)) _, (Below.heap_setCell _ _ _ _ hne).trans hv.blk, hv.lt⟩
  refine ⟨hN (hN (hN h.mv)), ?_⟩
  unfold put3
  rw [heap_set (heap_set (heap_set hr x) y) z]; rfl
set_option maxRecDepth 100000 in
set_option maxHeartbeats 2000000 in
theorem key_any {b : Nat} {l : List UInt8} {w : World} (hb : w.heap[b]? = some (rdr l)) (hl : (l.length : Int) ≤ 140737488355000) : Calls Tryd.prog 43 #[.pointer (some ⟨b, 0, none⟩)] w (KeyPost b w (readK l)) := by
  have hb0 := lt_of_heap hb
  have HST : Hid (KyI w b l (w.alloc (.cells #[.int .i64 0, .int .i64 0, .string ⟨#[]⟩] 45))) := ⟨(Mv.begin hb).alloc _, _, _, _, heap_new w _⟩
  have HL := Lib.hid hl
  clear hb hl
  rcases (show l = [] ∨ ∃ c t, l = c :: t by cases l with | nil => exact .inl rfl | cons c t => exact .inr ⟨c, t, rfl⟩) with rfl | ⟨c, t, rfl⟩
  · clear HL
    have HT : Hid (∀ W, KyI w b [] W → Calls Tryd.prog 49 #[.pointer (some ⟨b, 0, none⟩), .int .i64 1, .func (.func 60) #[] #[]] W fun e W' => e = .returned (.string ⟨#[]⟩) ∧ Mv b W [] W') := fun W h => take_each (m := 1) (Mv.begin h.mv.blk) (by decide) (by decide)
    go_enter Tryd.func43, Tryd.ntmps43
    go_wp2_with fail
    generalize w.alloc _ = W1 at HST ⊢
    refine (HT.out _ HST.out).mono ?_
    rintro e W2 ⟨rfl, h2⟩
    have K2 := Lib.hid (HST.out.on h2)
    have f0 := K2.out.frozen 0
    have f1 := K2.out.frozen 1
    have f2 := K2.out.frozen 2
    obtain ⟨x, y, z, hr⟩ := K2.out.res
    have q0 : W2.cell? ⟨w.heap.size, 0, none⟩ = some x := cell_of hr rfl
    have q1 : W2.cell? ⟨w.heap.size, 1, none⟩ = some y := cell_of hr rfl
    have q2 : W2.cell? ⟨w.heap.size, 2, none⟩ = some z := cell_of hr rfl
    clear h2 HT HST hr
    go_wp2
    obtain ⟨p1, p2⟩ := K2.out.put (.int .i64 0) (.int .i64 0) (.string ⟨#[]⟩)
    unfold put3 at p1 p2
    generalize ((W2.setCell _ _).setCell _ _).setCell _ _ = W3 at p1 p2 ⊢
    have d0 : W3.cell? ⟨w.heap.size, 0, none⟩ = some (.int .i64 0) := cell_of p2 rfl
    have d1 : W3.cell? ⟨w.heap.size, 1, none⟩ = some (.int .i64 0) := cell_of p2 rfl
    have d2 : W3.cell? ⟨w.heap.size, 2, none⟩ = some (.string ⟨#[]⟩) := cell_of p2 rfl
    exact bodyPost_ret (v := .tuple #[.agg #[.int .i64 0, .int .i64 0, .string ⟨#[]⟩], .bool false]) (by simp [results, Tryd.results43, go_sem, d0, d1, d2]) rfl ⟨⟨⟨0, 0, []⟩, rfl⟩, _, p1⟩
  · -- THE CASES
    by_cases c0 : c = 0
    · subst c0
      have HR : Hid (readK (0 :: t) = some (⟨0, 0, []⟩, t)) := rfl
      have HT : Hid (∀ W, KyI w b (0 :: t) W → Calls Tryd.prog 49 #[.pointer (some ⟨b, 0, none⟩), .int .i64 1, .func (.func 60) #[] #[]] W fun e W' => e = .returned (.string ⟨#[0]⟩) ∧ Mv b W t W') := fun W h => take_each (m := 1) (Mv.begin h.mv.blk) (by decide) (by have := HL.out; omega)
      go_enter Tryd.func43, Tryd.ntmps43
      go_wp2_with fail
      generalize w.alloc _ = W1 at HST ⊢
      refine (HT.out _ HST.out).mono ?_
      rintro e W2 ⟨rfl, h2⟩
      have K2 := Lib.hid (HST.out.on h2)
      clear h2 HT HST
      have f0 := K2.out.frozen 0
      have f1 := K2.out.frozen 1
      have f2 := K2.out.frozen 2
      obtain ⟨x, y, z, hr⟩ := K2.out.res
      have q0 : W2.cell? ⟨w.heap.size, 0, none⟩ = some x := cell_of hr rfl
      have q1 : W2.cell? ⟨w.heap.size, 1, none⟩ = some y := cell_of hr rfl
      have q2 : W2.cell? ⟨w.heap.size, 2, none⟩ = some z := cell_of hr rfl
      clear hr
      go_wp2
      obtain ⟨p1, p2⟩ := K2.out.put (.int .i64 0) (.int .i64 0) (.string ⟨#[]⟩)
      unfold put3 at p1 p2
      generalize ((W2.setCell _ _).setCell _ _).setCell _ _ = W9 at p1 p2 ⊢
      have d0 : W9.cell? ⟨w.heap.size, 0, none⟩ = some (.int .i64 0) := cell_of p2 rfl
      have d1 : W9.cell? ⟨w.heap.size, 1, none⟩ = some (.int .i64 0) := cell_of p2 rfl
      have d2 : W9.cell? ⟨w.heap.size, 2, none⟩ = some (.string ⟨#[]⟩) := cell_of p2 rfl
      refine bodyPost_ret (v := .tuple #[.agg #[.int .i64 0, .int .i64 0, .string ⟨#[]⟩], .bool true]) (by simp [results, Tryd.results43, go_sem, d0, d1, d2]) rfl ?_
      rw [HR.out]
      exact ⟨rfl, p1⟩
    by_cases c1 : c = 1
    · subst c1
      obtain ⟨n, hn⟩ : ∃ n, n = (unbe (t.take 8) : Int) - 9223372036854775808 := ⟨_, rfl⟩
      have HNUM : Hid (∀ W, KyI w b t W → Calls Tryd.prog 61 #[.pointer (some ⟨b, 0, none⟩)] W fun e W' => e = .returned (.tuple #[.int .i64 n, .bool (decide (8 ≤ t.length))]) ∧ Mv b W (t.drop 8) W') := fun W h => by
        rw [hn]; exact number_any h.mv.blk (by have := HL.out; simp at this; omega)
      by_cases h8 : 8 ≤ t.length
      · have HR : Hid (readK (1 :: t) = some (⟨1, n, []⟩, t.drop 8)) := by
          unfold Hid
          rw [hn]; simp only [readK]
          rw [if_neg (by decide), if_pos (by decide), if_neg (by omega)]
        rw [decide_eq_true h8] at HNUM
        clear hn h8
        have HT : Hid (∀ W, KyI w b (1 :: t) W → Calls Tryd.prog 49 #[.pointer (some ⟨b, 0, none⟩), .int .i64 1, .func (.func 60) #[] #[]] W fun e W' => e = .returned (.string ⟨#[1]⟩) ∧ Mv b W t W') := fun W h => take_each (m := 1) (Mv.begin h.mv.blk) (by decide) (by have := HL.out; omega)
        go_enter Tryd.func43, Tryd.ntmps43
        go_wp2_with fail
        generalize w.alloc _ = W1 at HST ⊢
        refine (HT.out _ HST.out).mono ?_
        rintro e W2 ⟨rfl, h2⟩
        have K2 := Lib.hid (HST.out.on h2)
        clear h2 HT HST
        go_wp2_with fail
        refine (HNUM.out _ K2.out).mono ?_
        rintro e W3 ⟨rfl, h3⟩
        have K3 := Lib.hid (K2.out.on h3)
        clear h3 HNUM K2
        have f0 := K3.out.frozen 0
        have f1 := K3.out.frozen 1
        have f2 := K3.out.frozen 2
        obtain ⟨x, y, z, hr⟩ := K3.out.res
        have q0 : W3.cell? ⟨w.heap.size, 0, none⟩ = some x := cell_of hr rfl
        have q1 : W3.cell? ⟨w.heap.size, 1, none⟩ = some y := cell_of hr rfl
        have q2 : W3.cell? ⟨w.heap.size, 2, none⟩ = some z := cell_of hr rfl
        clear hr
        go_wp2
        obtain ⟨p1, p2⟩ := K3.out.put (.int .i64 1) (.int .i64 n) (.string ⟨#[]⟩)
        unfold put3 at p1 p2
        generalize ((W3.setCell _ _).setCell _ _).setCell _ _ = W9 at p1 p2 ⊢
        have d0 : W9.cell? ⟨w.heap.size, 0, none⟩ = some (.int .i64 1) := cell_of p2 rfl
        have d1 : W9.cell? ⟨w.heap.size, 1, none⟩ = some (.int .i64 n) := cell_of p2 rfl
        have d2 : W9.cell? ⟨w.heap.size, 2, none⟩ = some (.string ⟨#[]⟩) := cell_of p2 rfl
        refine bodyPost_ret (v := .tuple #[.agg #[.int .i64 1, .int .i64 n, .string ⟨#[]⟩], .bool true]) (by simp [results, Tryd.results43, go_sem, d0, d1, d2]) rfl ?_
        rw [HR.out]
        exact ⟨rfl, p1⟩
      · have HR : Hid (readK (1 :: t) = none) := by
          unfold Hid
          simp only [readK]
          rw [if_neg (by decide), if_pos (by decide), if_pos (by omega)]
        rw [decide_eq_false h8] at HNUM
        clear hn h8
        have HT : Hid (∀ W, KyI w b (1 :: t) W → Calls Tryd.prog 49 #[.pointer (some ⟨b, 0, none⟩), .int .i64 1, .func (.func 60) #[] #[]] W fun e W' => e = .returned (.string ⟨#[1]⟩) ∧ Mv b W t W') := fun W h => take_each (m := 1) (Mv.begin h.mv.blk) (by decide) (by have := HL.out; omega)
        go_enter Tryd.func43, Tryd.ntmps43
        go_wp2_with fail
        generalize w.alloc _ = W1 at HST ⊢
        refine (HT.out _ HST.out).mono ?_
        rintro e W2 ⟨rfl, h2⟩
        have K2 := Lib.hid (HST.out.on h2)
        clear h2 HT HST
        go_wp2_with fail
        refine (HNUM.out _ K2.out).mono ?_
        rintro e W3 ⟨rfl, h3⟩
        have K3 := Lib.hid (K2.out.on h3)
        clear h3 HNUM K2
        have f0 := K3.out.frozen 0
        have f1 := K3.out.frozen 1
        have f2 := K3.out.frozen 2
        obtain ⟨x, y, z, hr⟩ := K3.out.res
        have q0 : W3.cell? ⟨w.heap.size, 0, none⟩ = some x := cell_of hr rfl
        have q1 : W3.cell? ⟨w.heap.size, 1, none⟩ = some y := cell_of hr rfl
        have q2 : W3.cell? ⟨w.heap.size, 2, none⟩ = some z := cell_of hr rfl
        clear hr
        go_wp2
        obtain ⟨p1, p2⟩ := K3.out.put (.int .i64 1) (.int .i64 n) (.string ⟨#[]⟩)
        unfold put3 at p1 p2
        generalize ((W3.setCell _ _).setCell _ _).setCell _ _ = W9 at p1 p2 ⊢
        have d0 : W9.cell? ⟨w.heap.size, 0, none⟩ = some (.int .i64 1) := cell_of p2 rfl
        have d1 : W9.cell? ⟨w.heap.size, 1, none⟩ = some (.int .i64 n) := cell_of p2 rfl
        have d2 : W9.cell? ⟨w.heap.size, 2, none⟩ = some (.string ⟨#[]⟩) := cell_of p2 rfl
        refine bodyPost_ret (v := .tuple #[.agg #[.int .i64 1, .int .i64 n, .string ⟨#[]⟩], .bool false]) (by simp [results, Tryd.results43, go_sem, d0, d1, d2]) rfl ?_
        rw [HR.out]
        exact ⟨⟨⟨1, n, []⟩, rfl⟩, _, p1⟩
    by_cases c2 : c = 2
    · subst c2
      have HR0 : readK (2 :: t) = (unesc t).map fun p => (⟨2, 0, p.1⟩, p.2) := by
        simp only [readK]
        rw [if_neg (by decide), if_neg (by decide), if_pos (by decide)]
      have HTX : Hid (∀ W, KyI w b t W → Calls Tryd.prog 62 #[.pointer (some ⟨b, 0, none⟩)] W (TextPost b W (unesc t))) := fun W h => rtext_any h.mv.blk (by have := HL.out; simp at this; omega)
      cases hu : unesc t with
      | some p =>
        obtain ⟨u, r⟩ := p
        obtain ⟨tu, htu⟩ : ∃ tu, textV u = .string tu := ⟨_, rfl⟩
        have HR : Hid (readK (2 :: t) = some (⟨2, 0, u⟩, r)) := by unfold Hid; rw [HR0, hu]; rfl
        have HTX2 : Hid (∀ W, KyI w b t W → Calls Tryd.prog 62 #[.pointer (some ⟨b, 0, none⟩)] W fun e W' => e = .returned (.tuple #[.string tu, .bool true]) ∧ Mv b W r W') := fun W h => by
          have := HTX.out W h
          rw [hu] at this
          rw [← htu]; exact this
        have HTU := Lib.hid htu
        clear hu HR0 HTX htu
        have HT : Hid (∀ W, KyI w b (2 :: t) W → Calls Tryd.prog 49 #[.pointer (some ⟨b, 0, none⟩), .int .i64 1, .func (.func 60) #[] #[]] W fun e W' => e = .returned (.string ⟨#[2]⟩) ∧ Mv b W t W') := fun W h => take_each (m := 1) (Mv.begin h.mv.blk) (by decide) (by have := HL.out; omega)
        go_enter Tryd.func43, Tryd.ntmps43
        go_wp2_with fail
        generalize w.alloc _ = W1 at HST ⊢
        refine (HT.out _ HST.out).mono ?_
        rintro e W2 ⟨rfl, h2⟩
        have K2 := Lib.hid (HST.out.on h2)
        clear h2 HT HST
        go_wp2_with fail
        refine (HTX2.out _ K2.out).mono ?_
        rintro e W3 ⟨rfl, h3⟩
        have K3 := Lib.hid (K2.out.on h3)
        clear h3 HTX2 K2
        have f0 := K3.out.frozen 0
        have f1 := K3.out.frozen 1
        have f2 := K3.out.frozen 2
        obtain ⟨x, y, z, hr⟩ := K3.out.res
        have q0 : W3.cell? ⟨w.heap.size, 0, none⟩ = some x := cell_of hr rfl
        have q1 : W3.cell? ⟨w.heap.size, 1, none⟩ = some y := cell_of hr rfl
        have q2 : W3.cell? ⟨w.heap.size, 2, none⟩ = some z := cell_of hr rfl
        clear hr
        go_wp2
        obtain ⟨p1, p2⟩ := K3.out.put (.int .i64 2) (.int .i64 0) (.string tu)
        unfold put3 at p1 p2
        generalize ((W3.setCell _ _).setCell _ _).setCell _ _ = W9 at p1 p2 ⊢
        have d0 : W9.cell? ⟨w.heap.size, 0, none⟩ = some (.int .i64 2) := cell_of p2 rfl
        have d1 : W9.cell? ⟨w.heap.size, 1, none⟩ = some (.int .i64 0) := cell_of p2 rfl
        have d2 : W9.cell? ⟨w.heap.size, 2, none⟩ = some (.string tu) := cell_of p2 rfl
        refine bodyPost_ret (v := .tuple #[.agg #[.int .i64 2, .int .i64 0, .string tu], .bool true]) (by simp [results, Tryd.results43, go_sem, d0, d1, d2]) rfl ?_
        rw [HR.out]
        exact ⟨by rw [← HTU.out]; rfl, p1⟩
      | none =>
        have HR : Hid (readK (2 :: t) = none) := by unfold Hid; rw [HR0, hu]; rfl
        have HTX2 : Hid (∀ W, KyI w b t W → Calls Tryd.prog 62 #[.pointer (some ⟨b, 0, none⟩)] W fun e W' => e = .returned (.tuple #[.string ⟨#[]⟩, .bool false]) ∧ ∃ r, Mv b W r W') := fun W h => by
          have := HTX.out W h
          rw [hu] at this
          exact this
        clear hu HR0 HTX
        have HT : Hid (∀ W, KyI w b (2 :: t) W → Calls Tryd.prog 49 #[.pointer (some ⟨b, 0, none⟩), .int .i64 1, .func (.func 60) #[] #[]] W fun e W' => e = .returned (.string ⟨#[2]⟩) ∧ Mv b W t W') := fun W h => take_each (m := 1) (Mv.begin h.mv.blk) (by decide) (by have := HL.out; omega)
        go_enter Tryd.func43, Tryd.ntmps43
        go_wp2_with fail
        generalize w.alloc _ = W1 at HST ⊢
        refine (HT.out _ HST.out).mono ?_
        rintro e W2 ⟨rfl, h2⟩
        have K2 := Lib.hid (HST.out.on h2)
        clear h2 HT HST
        go_wp2_with fail
        refine (HTX2.out _ K2.out).mono ?_
        rintro e W3 ⟨rfl, r, h3⟩
        have K3 := Lib.hid (K2.out.on h3)
        clear h3 HTX2 K2
        have f0 := K3.out.frozen 0
        have f1 := K3.out.frozen 1
        have f2 := K3.out.frozen 2
        obtain ⟨x, y, z, hr⟩ := K3.out.res
        have q0 : W3.cell? ⟨w.heap.size, 0, none⟩ = some x := cell_of hr rfl
        have q1 : W3.cell? ⟨w.heap.size, 1, none⟩ = some y := cell_of hr rfl
        have q2 : W3.cell? ⟨w.heap.size, 2, none⟩ = some z := cell_of hr rfl
        clear hr
        go_wp2
        obtain ⟨p1, p2⟩ := K3.out.put (.int .i64 2) (.int .i64 0) (.string ⟨#[]⟩)
        unfold put3 at p1 p2
        generalize ((W3.setCell _ _).setCell _ _).setCell _ _ = W9 at p1 p2 ⊢
        have d0 : W9.cell? ⟨w.heap.size, 0, none⟩ = some (.int .i64 2) := cell_of p2 rfl
        have d1 : W9.cell? ⟨w.heap.size, 1, none⟩ = some (.int .i64 0) := cell_of p2 rfl
        have d2 : W9.cell? ⟨w.heap.size, 2, none⟩ = some (.string ⟨#[]⟩) := cell_of p2 rfl
        refine bodyPost_ret (v := .tuple #[.agg #[.int .i64 2, .int .i64 0, .string ⟨#[]⟩], .bool false]) (by simp [results, Tryd.results43, go_sem, d0, d1, d2]) rfl ?_
        rw [HR.out]
        exact ⟨⟨⟨2, 0, []⟩, rfl⟩, _, p1⟩
    have HR : Hid (readK (c :: t) = none) := by
      unfold Hid
      simp only [readK]
      rw [if_neg (fun h => c0 (UInt8.toNat_inj.1 (by rw [h]; rfl))), if_neg (fun h => c1 (UInt8.toNat_inj.1 (by rw [h]; rfl))), if_neg (fun h => c2 (UInt8.toNat_inj.1 (by rw [h]; rfl)))]
    obtain ⟨tc, htc⟩ : ∃ tc, tc = ByteArray.mk #[c] := ⟨_, rfl⟩
    have e1 : tc.toList = [c] := by rw [htc]; exact text_list [c]
    have n0 : (tc.toList == [0]) = false := by rw [e1]; simp [c0]
    have n1 : (tc.toList == [1]) = false := by rw [e1]; simp [c1]
    have n2 : (tc.toList == [2]) = false := by rw [e1]; simp [c2]
    have HT : Hid (∀ W, KyI w b (c :: t) W → Calls Tryd.prog 49 #[.pointer (some ⟨b, 0, none⟩), .int .i64 1, .func (.func 60) #[] #[]] W fun e W' => e = .returned (.string tc) ∧ Mv b W t W') := fun W h => by
      rw [htc]; exact take_each (m := 1) (Mv.begin h.mv.blk) (by decide) (by have := HL.out; omega)
    clear htc e1 c0 c1 c2
    go_enter Tryd.func43, Tryd.ntmps43
    go_wp2_with fail
    generalize w.alloc _ = W1 at HST ⊢
    refine (HT.out _ HST.out).mono ?_
    rintro e W2 ⟨rfl, h2⟩
    have K2 := Lib.hid (HST.out.on h2)
    clear h2 HT HST
    have f0 := K2.out.frozen 0
    have f1 := K2.out.frozen 1
    have f2 := K2.out.frozen 2
    obtain ⟨x, y, z, hr⟩ := K2.out.res
    have q0 : W2.cell? ⟨w.heap.size, 0, none⟩ = some x := cell_of hr rfl
    have q1 : W2.cell? ⟨w.heap.size, 1, none⟩ = some y := cell_of hr rfl
    have q2 : W2.cell? ⟨w.heap.size, 2, none⟩ = some z := cell_of hr rfl
    clear hr
    go_wp2
    obtain ⟨p1, p2⟩ := K2.out.put (.int .i64 0) (.int .i64 0) (.string ⟨#[]⟩)
    unfold put3 at p1 p2
    generalize ((W2.setCell _ _).setCell _ _).setCell _ _ = W9 at p1 p2 ⊢
    have d0 : W9.cell? ⟨w.heap.size, 0, none⟩ = some (.int .i64 0) := cell_of p2 rfl
    have d1 : W9.cell? ⟨w.heap.size, 1, none⟩ = some (.int .i64 0) := cell_of p2 rfl
    have d2 : W9.cell? ⟨w.heap.size, 2, none⟩ = some (.string ⟨#[]⟩) := cell_of p2 rfl
    refine bodyPost_ret (v := .tuple #[.agg #[.int .i64 0, .int .i64 0, .string ⟨#[]⟩], .bool false]) (by simp [results, Tryd.results43, go_sem, d0, d1, d2]) rfl ?_
    rw [HR.out]
    exact ⟨⟨⟨0, 0, []⟩, rfl⟩, _, p1⟩
end Go.Proofs.YtghghekdheeknaaDoor
