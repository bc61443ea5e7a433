/- Stage 7, the laws: OrderOrder. -/
import Derived.Test.YtghghekdheeknaaDoorOrdI
namespace Go.Proofs.YtghghekdheeknaaDoor
open Go.RowKit Go.Maps Odr Go.Shelf
attribute [local go_sem] Oper.semAt_some

/-- three keys, boxed one behind the other -/
structure K3 (w : World) (N : Nat) (a b c : PKey) (W : World) : Prop where
  bw : BW w W
  ba : W.heap[N]? = some (keyBlk a)
  bb : W.heap[N + 1]? = some (keyBlk b)
  bc : W.heap[N + 2]? = some (keyBlk c)
theorem K3.on {w W W' : World} {N : Nat} {a b c : PKey} (h : K3 w N a b c W) (hb : BW W W') : K3 w N a b c W' :=
  ⟨h.bw.trans hb, (hb.block _ (lt_of_heap h.ba)).trans h.ba, (hb.block _ (lt_of_heap h.bb)).trans h.bb, (hb.block _ (lt_of_heap h.bc)).trans h.bc⟩
theorem K3.begin (w : World) (a b c : PKey) : K3 w w.heap.size a b c (((w.alloc (.cells #[.int .i64 a.kind, .int .i64 a.num, textV a.text] 45)).alloc (.cells #[.int .i64 b.kind, .int .i64 b.num, textV b.text] 45)).alloc (.cells #[.int .i64 c.kind, .int .i64 c.num, textV c.text] 45)) := by
  refine ⟨((bw_alloc w _).alloc _).alloc _, ?_, ?_, ?_⟩
  · exact (Below.heap_alloc _ _ _ (by simp; omega)).trans ((Below.heap_alloc _ _ _ (by simp)).trans (heap_new w _))
  · have := heap_new (w.alloc (.cells #[.int .i64 a.kind, .int .i64 a.num, textV a.text] 45)) (.cells #[.int .i64 b.kind, .int .i64 b.num, textV b.text] 45)
    rw [World.size_alloc] at this
    exact (Below.heap_alloc _ _ _ (by simp)).trans this
  · have := heap_new ((w.alloc (.cells #[.int .i64 a.kind, .int .i64 a.num, textV a.text] 45)).alloc (.cells #[.int .i64 b.kind, .int .i64 b.num, textV b.text] 45)) (.cells #[.int .i64 c.kind, .int .i64 c.num, textV c.text] 45)
    rw [World.size_alloc, World.size_alloc] at this
    exact this
theorem key_cells {W : World} {N : Nat} {k : PKey} (h : W.heap[N]? = some (keyBlk k)) : W.cell? ⟨N, 0, none⟩ = some (.int .i64 k.kind) ∧ W.cell? ⟨N, 1, none⟩ = some (.int .i64 k.num) ∧ W.cell? ⟨N, 2, none⟩ = some (textV k.text) := ⟨cell_of h rfl, cell_of h rfl, cell_of h rfl⟩
theorem K3.cells {w W : World} {N : Nat} {a b c : PKey} (h : K3 w N a b c W) : W.cell? ⟨N, 0, none⟩ = some (.int .i64 a.kind) ∧ W.cell? ⟨N, 1, none⟩ = some (.int .i64 a.num) ∧ W.cell? ⟨N, 2, none⟩ = some (textV a.text) ∧ W.cell? ⟨N + 1, 0, none⟩ = some (.int .i64 b.kind) ∧ W.cell? ⟨N + 1, 1, none⟩ = some (.int .i64 b.num) ∧ W.cell? ⟨N + 1, 2, none⟩ = some (textV b.text) ∧ W.cell? ⟨N + 2, 0, none⟩ = some (.int .i64 c.kind) ∧ W.cell? ⟨N + 2, 1, none⟩ = some (.int .i64 c.num) ∧ W.cell? ⟨N + 2, 2, none⟩ = some (textV c.text) := by
  obtain ⟨x1, x2, x3⟩ := key_cells h.ba
  obtain ⟨y1, y2, y3⟩ := key_cells h.bb
  obtain ⟨z1, z2, z3⟩ := key_cells h.bc
  exact ⟨x1, x2, x3, y1, y2, y3, z1, z2, z3⟩
-- THE CASES
/-- OrderOrder, once it is known how the keys go -/
def OrdGoal (a b c : PKey) (w : World) : Prop := Calls Tryd.prog 8 #[.agg #[.int .i64 a.kind, .int .i64 a.num, textV a.text], .agg #[.int .i64 b.kind, .int .i64 b.num, textV b.text], .agg #[.int .i64 c.kind, .int .i64 c.num, textV c.text]] w (TrueB w)
set_option maxRecDepth 100000 in
set_option maxHeartbeats 2000000 in
theorem ord_k_up (ak an bk bn ck cn : Int) (at' bt ct : List UInt8) (x y z : Int) (w : World) (hE : Env w) (hx : cmpK ⟨ak, an, at'⟩ ⟨bk, bn, bt⟩ = x) (hy : cmpK ⟨bk, bn, bt⟩ ⟨ck, cn, ct⟩ = y) (hz : cmpK ⟨ak, an, at'⟩ ⟨ck, cn, ct⟩ = z) (hd : ¬ ak = bk) (hx1 : x = 1) (hkk : bk ≤ ak) : OrdGoal ⟨ak, an, at'⟩ ⟨bk, bn, bt⟩ ⟨ck, cn, ct⟩ w := by
  unfold OrdGoal
  have HAB := Lib.hid (fun W => compare_any ⟨ak, an, at'⟩ ⟨bk, bn, bt⟩ W)
  have HBC := Lib.hid (fun W => compare_any ⟨bk, bn, bt⟩ ⟨ck, cn, ct⟩ W)
  have HAC := Lib.hid (fun W => compare_any ⟨ak, an, at'⟩ ⟨ck, cn, ct⟩ W)
  have HBA := Lib.hid (fun W => compare_any ⟨bk, bn, bt⟩ ⟨ak, an, at'⟩ W)
  have HAA := Lib.hid (fun W => compare_any ⟨ak, an, at'⟩ ⟨ak, an, at'⟩ W)
  rw [cmpK_neg ⟨bk, bn, bt⟩ ⟨ak, an, at'⟩] at HBA
  rw [cmpK_refl ⟨ak, an, at'⟩] at HAA
  rw [hx] at HAB HBA
  rw [hy] at HBC
  rw [hz] at HAC
  have H0 := Lib.hid (K3.begin w ⟨ak, an, at'⟩ ⟨bk, bn, bt⟩ ⟨ck, cn, ct⟩)
  have HE := Lib.hid hE
  have HC : Hid (∀ W, K3 w w.heap.size ⟨ak, an, at'⟩ ⟨bk, bn, bt⟩ ⟨ck, cn, ct⟩ W → W.cell? ⟨w.heap.size, 0, none⟩ = some (.int .i64 ak) ∧ W.cell? ⟨w.heap.size, 1, none⟩ = some (.int .i64 an) ∧ W.cell? ⟨w.heap.size, 2, none⟩ = some (textV at') ∧ W.cell? ⟨w.heap.size + 1, 0, none⟩ = some (.int .i64 bk) ∧ W.cell? ⟨w.heap.size + 1, 1, none⟩ = some (.int .i64 bn) ∧ W.cell? ⟨w.heap.size + 1, 2, none⟩ = some (textV bt) ∧ W.cell? ⟨w.heap.size + 2, 0, none⟩ = some (.int .i64 ck) ∧ W.cell? ⟨w.heap.size + 2, 1, none⟩ = some (.int .i64 cn) ∧ W.cell? ⟨w.heap.size + 2, 2, none⟩ = some (textV ct)) := fun W h => h.cells
  obtain ⟨ta, hta⟩ : ∃ t, t = ByteArray.mk at'.toArray := ⟨_, rfl⟩
  obtain ⟨tb, htb⟩ : ∃ t, t = ByteArray.mk bt.toArray := ⟨_, rfl⟩
  obtain ⟨tc, htc⟩ : ∃ t, t = ByteArray.mk ct.toArray := ⟨_, rfl⟩
  have va : textV at' = .string ta := by rw [hta]; rfl
  have vb : textV bt = .string tb := by rw [htb]; rfl
  have vc : textV ct = .string tc := by rw [htc]; rfl
  have ia : ta.toList = at' := by rw [hta]; exact text_list at'
  have ib : tb.toList = bt := by rw [htb]; exact text_list bt
  subst hx1
  have hdb : (ak == bk) = false := beq_eq_false_iff_ne.2 hd
  clear hd
  unfold keyV at HAB HBC HAC HBA HAA
  dsimp only at HAB HBC HAC HBA HAA H0 ⊢
  simp only [va, vb, vc] at HAB HBC HAC HBA HAA H0 HC ⊢
  clear hx hy hz hE hta htb htc va vb vc ia ib
  go_enter Tryd.func8, Tryd.ntmps8
  go_upto_region 1 with (fail)
  generalize ((w.alloc _).alloc _).alloc _ = W1 at H0 ⊢
  obtain ⟨N, hN⟩ : ∃ N, N = w.heap.size := ⟨_, rfl⟩
  rw [← hN] at H0 HC ⊢
  obtain ⟨a0, a1, a2, b0, b1, b2, c0, c1, c2⟩ := HC.out _ H0.out
  clear hN
  go_wp2_with fail
  refine (HAB.out _).mono ?_
  rintro e W2 ⟨rfl, h2⟩
  have H2 := Lib.hid (H0.out.on h2)
  clear h2 H0 a0 a1 a2 b0 b1 b2 c0 c1 c2 HAB
  obtain ⟨a0, a1, a2, b0, b1, b2, c0, c1, c2⟩ := HC.out _ H2.out
  go_wp2_with fail
  refine (HBC.out _).mono ?_
  rintro e W3 ⟨rfl, h3⟩
  have H3 := Lib.hid (H2.out.on h3)
  clear h3 H2 a0 a1 a2 b0 b1 b2 c0 c1 c2 HBC
  obtain ⟨a0, a1, a2, b0, b1, b2, c0, c1, c2⟩ := HC.out _ H3.out
  go_wp2_with fail
  refine (HAC.out _).mono ?_
  rintro e W4 ⟨rfl, h4⟩
  have H4 := Lib.hid (H3.out.on h4)
  clear h4 H3 a0 a1 a2 b0 b1 b2 c0 c1 c2 HAC
  obtain ⟨a0, a1, a2, b0, b1, b2, c0, c1, c2⟩ := HC.out _ H4.out
  go_wp2_with fail
  refine (HBA.out _).mono ?_
  rintro e W5 ⟨rfl, h5⟩
  have H5 := Lib.hid (H4.out.on h5)
  clear h5 H4 a0 a1 a2 b0 b1 b2 c0 c1 c2 HBA
  obtain ⟨a0, a1, a2, b0, b1, b2, c0, c1, c2⟩ := HC.out _ H5.out
  go_wp2_with fail
  refine (HAA.out _).mono ?_
  rintro e W6 ⟨rfl, h6⟩
  have H6 := Lib.hid (H5.out.on h6)
  clear h6 H5 a0 a1 a2 b0 b1 b2 c0 c1 c2 HAA
  obtain ⟨a0, a1, a2, b0, b1, b2, c0, c1, c2⟩ := HC.out _ H6.out
  clear a1 a2 b1 b2 c0 c1 c2 HC
  have HAW := Lib.hid (awake_any W6 (HE.out.bw H6.out.bw))
  go_wp2_with (go_at_call 13; refine HAW.out.mono ?_; rintro e W7 ⟨rfl, h7⟩)
  all_goals
    go_ret
    exact ⟨ret_bool (by simp), H6.out.bw.trans h7⟩
set_option maxRecDepth 100000 in
set_option maxHeartbeats 2000000 in
theorem ord_k_dn1 (ak an bk bn ck cn : Int) (at' bt ct : List UInt8) (x y z : Int) (w : World) (hE : Env w) (hx : cmpK ⟨ak, an, at'⟩ ⟨bk, bn, bt⟩ = x) (hy : cmpK ⟨bk, bn, bt⟩ ⟨ck, cn, ct⟩ = y) (hz : cmpK ⟨ak, an, at'⟩ ⟨ck, cn, ct⟩ = z) (hd : ¬ ak = bk) (hx1 : x = -1) (hy1 : y = 1) : OrdGoal ⟨ak, an, at'⟩ ⟨bk, bn, bt⟩ ⟨ck, cn, ct⟩ w := by
  unfold OrdGoal
  have HAB := Lib.hid (fun W => compare_any ⟨ak, an, at'⟩ ⟨bk, bn, bt⟩ W)
  have HBC := Lib.hid (fun W => compare_any ⟨bk, bn, bt⟩ ⟨ck, cn, ct⟩ W)
  have HAC := Lib.hid (fun W => compare_any ⟨ak, an, at'⟩ ⟨ck, cn, ct⟩ W)
  have HBA := Lib.hid (fun W => compare_any ⟨bk, bn, bt⟩ ⟨ak, an, at'⟩ W)
  have HAA := Lib.hid (fun W => compare_any ⟨ak, an, at'⟩ ⟨ak, an, at'⟩ W)
  rw [cmpK_neg ⟨bk, bn, bt⟩ ⟨ak, an, at'⟩] at HBA
  rw [cmpK_refl ⟨ak, an, at'⟩] at HAA
  rw [hx] at HAB HBA
  rw [hy] at HBC
  rw [hz] at HAC
  have H0 := Lib.hid (K3.begin w ⟨ak, an, at'⟩ ⟨bk, bn, bt⟩ ⟨ck, cn, ct⟩)
  have HE := Lib.hid hE
  have HC : Hid (∀ W, K3 w w.heap.size ⟨ak, an, at'⟩ ⟨bk, bn, bt⟩ ⟨ck, cn, ct⟩ W → W.cell? ⟨w.heap.size, 0, none⟩ = some (.int .i64 ak) ∧ W.cell? ⟨w.heap.size, 1, none⟩ = some (.int .i64 an) ∧ W.cell? ⟨w.heap.size, 2, none⟩ = some (textV at') ∧ W.cell? ⟨w.heap.size + 1, 0, none⟩ = some (.int .i64 bk) ∧ W.cell? ⟨w.heap.size + 1, 1, none⟩ = some (.int .i64 bn) ∧ W.cell? ⟨w.heap.size + 1, 2, none⟩ = some (textV bt) ∧ W.cell? ⟨w.heap.size + 2, 0, none⟩ = some (.int .i64 ck) ∧ W.cell? ⟨w.heap.size + 2, 1, none⟩ = some (.int .i64 cn) ∧ W.cell? ⟨w.heap.size + 2, 2, none⟩ = some (textV ct)) := fun W h => h.cells
  obtain ⟨ta, hta⟩ : ∃ t, t = ByteArray.mk at'.toArray := ⟨_, rfl⟩
  obtain ⟨tb, htb⟩ : ∃ t, t = ByteArray.mk bt.toArray := ⟨_, rfl⟩
  obtain ⟨tc, htc⟩ : ∃ t, t = ByteArray.mk ct.toArray := ⟨_, rfl⟩
  have va : textV at' = .string ta := by rw [hta]; rfl
  have vb : textV bt = .string tb := by rw [htb]; rfl
  have vc : textV ct = .string tc := by rw [htc]; rfl
  have ia : ta.toList = at' := by rw [hta]; exact text_list at'
  have ib : tb.toList = bt := by rw [htb]; exact text_list bt
  subst hx1; subst hy1
  have hdb : (ak == bk) = false := beq_eq_false_iff_ne.2 hd
  clear hd
  unfold keyV at HAB HBC HAC HBA HAA
  dsimp only at HAB HBC HAC HBA HAA H0 ⊢
  simp only [va, vb, vc] at HAB HBC HAC HBA HAA H0 HC ⊢
  clear hx hy hz hE hta htb htc va vb vc ia ib
  go_enter Tryd.func8, Tryd.ntmps8
  go_upto_region 1 with (fail)
  generalize ((w.alloc _).alloc _).alloc _ = W1 at H0 ⊢
  obtain ⟨N, hN⟩ : ∃ N, N = w.heap.size := ⟨_, rfl⟩
  rw [← hN] at H0 HC ⊢
  obtain ⟨a0, a1, a2, b0, b1, b2, c0, c1, c2⟩ := HC.out _ H0.out
  clear hN
  go_wp2_with fail
  refine (HAB.out _).mono ?_
  rintro e W2 ⟨rfl, h2⟩
  have H2 := Lib.hid (H0.out.on h2)
  clear h2 H0 a0 a1 a2 b0 b1 b2 c0 c1 c2 HAB
  obtain ⟨a0, a1, a2, b0, b1, b2, c0, c1, c2⟩ := HC.out _ H2.out
  go_wp2_with fail
  refine (HBC.out _).mono ?_
  rintro e W3 ⟨rfl, h3⟩
  have H3 := Lib.hid (H2.out.on h3)
  clear h3 H2 a0 a1 a2 b0 b1 b2 c0 c1 c2 HBC
  obtain ⟨a0, a1, a2, b0, b1, b2, c0, c1, c2⟩ := HC.out _ H3.out
  go_wp2_with fail
  refine (HAC.out _).mono ?_
  rintro e W4 ⟨rfl, h4⟩
  have H4 := Lib.hid (H3.out.on h4)
  clear h4 H3 a0 a1 a2 b0 b1 b2 c0 c1 c2 HAC
  obtain ⟨a0, a1, a2, b0, b1, b2, c0, c1, c2⟩ := HC.out _ H4.out
  go_wp2_with fail
  refine (HBA.out _).mono ?_
  rintro e W5 ⟨rfl, h5⟩
  have H5 := Lib.hid (H4.out.on h5)
  clear h5 H4 a0 a1 a2 b0 b1 b2 c0 c1 c2 HBA
  obtain ⟨a0, a1, a2, b0, b1, b2, c0, c1, c2⟩ := HC.out _ H5.out
  go_wp2_with fail
  refine (HAA.out _).mono ?_
  rintro e W6 ⟨rfl, h6⟩
  have H6 := Lib.hid (H5.out.on h6)
  clear h6 H5 a0 a1 a2 b0 b1 b2 c0 c1 c2 HAA
  obtain ⟨a0, a1, a2, b0, b1, b2, c0, c1, c2⟩ := HC.out _ H6.out
  clear a1 a2 b1 b2 c0 c1 c2 HC
  have HAW := Lib.hid (awake_any W6 (HE.out.bw H6.out.bw))
  go_wp2_with (go_at_call 13; refine HAW.out.mono ?_; rintro e W7 ⟨rfl, h7⟩)
  all_goals
    go_ret
    exact ⟨ret_bool (by simp), H6.out.bw.trans h7⟩
set_option maxRecDepth 100000 in
set_option maxHeartbeats 2000000 in
theorem ord_k_dn0 (ak an bk bn ck cn : Int) (at' bt ct : List UInt8) (x y z : Int) (w : World) (hE : Env w) (hx : cmpK ⟨ak, an, at'⟩ ⟨bk, bn, bt⟩ = x) (hy : cmpK ⟨bk, bn, bt⟩ ⟨ck, cn, ct⟩ = y) (hz : cmpK ⟨ak, an, at'⟩ ⟨ck, cn, ct⟩ = z) (hd : ¬ ak = bk) (hx1 : x = -1) (hy1 : y ≤ 0) (hz1 : z = -1) : OrdGoal ⟨ak, an, at'⟩ ⟨bk, bn, bt⟩ ⟨ck, cn, ct⟩ w := by
  unfold OrdGoal
  have HAB := Lib.hid (fun W => compare_any ⟨ak, an, at'⟩ ⟨bk, bn, bt⟩ W)
  have HBC := Lib.hid (fun W => compare_any ⟨bk, bn, bt⟩ ⟨ck, cn, ct⟩ W)
  have HAC := Lib.hid (fun W => compare_any ⟨ak, an, at'⟩ ⟨ck, cn, ct⟩ W)
  have HBA := Lib.hid (fun W => compare_any ⟨bk, bn, bt⟩ ⟨ak, an, at'⟩ W)
  have HAA := Lib.hid (fun W => compare_any ⟨ak, an, at'⟩ ⟨ak, an, at'⟩ W)
  rw [cmpK_neg ⟨bk, bn, bt⟩ ⟨ak, an, at'⟩] at HBA
  rw [cmpK_refl ⟨ak, an, at'⟩] at HAA
  rw [hx] at HAB HBA
  rw [hy] at HBC
  rw [hz] at HAC
  have H0 := Lib.hid (K3.begin w ⟨ak, an, at'⟩ ⟨bk, bn, bt⟩ ⟨ck, cn, ct⟩)
  have HE := Lib.hid hE
  have HC : Hid (∀ W, K3 w w.heap.size ⟨ak, an, at'⟩ ⟨bk, bn, bt⟩ ⟨ck, cn, ct⟩ W → W.cell? ⟨w.heap.size, 0, none⟩ = some (.int .i64 ak) ∧ W.cell? ⟨w.heap.size, 1, none⟩ = some (.int .i64 an) ∧ W.cell? ⟨w.heap.size, 2, none⟩ = some (textV at') ∧ W.cell? ⟨w.heap.size + 1, 0, none⟩ = some (.int .i64 bk) ∧ W.cell? ⟨w.heap.size + 1, 1, none⟩ = some (.int .i64 bn) ∧ W.cell? ⟨w.heap.size + 1, 2, none⟩ = some (textV bt) ∧ W.cell? ⟨w.heap.size + 2, 0, none⟩ = some (.int .i64 ck) ∧ W.cell? ⟨w.heap.size + 2, 1, none⟩ = some (.int .i64 cn) ∧ W.cell? ⟨w.heap.size + 2, 2, none⟩ = some (textV ct)) := fun W h => h.cells
  obtain ⟨ta, hta⟩ : ∃ t, t = ByteArray.mk at'.toArray := ⟨_, rfl⟩
  obtain ⟨tb, htb⟩ : ∃ t, t = ByteArray.mk bt.toArray := ⟨_, rfl⟩
  obtain ⟨tc, htc⟩ : ∃ t, t = ByteArray.mk ct.toArray := ⟨_, rfl⟩
  have va : textV at' = .string ta := by rw [hta]; rfl
  have vb : textV bt = .string tb := by rw [htb]; rfl
  have vc : textV ct = .string tc := by rw [htc]; rfl
  have ia : ta.toList = at' := by rw [hta]; exact text_list at'
  have ib : tb.toList = bt := by rw [htb]; exact text_list bt
  subst hx1; subst hz1
  have hdb : (ak == bk) = false := beq_eq_false_iff_ne.2 hd
  clear hd
  unfold keyV at HAB HBC HAC HBA HAA
  dsimp only at HAB HBC HAC HBA HAA H0 ⊢
  simp only [va, vb, vc] at HAB HBC HAC HBA HAA H0 HC ⊢
  clear hx hy hz hE hta htb htc va vb vc ia ib
  go_enter Tryd.func8, Tryd.ntmps8
  go_upto_region 1 with (fail)
  generalize ((w.alloc _).alloc _).alloc _ = W1 at H0 ⊢
  obtain ⟨N, hN⟩ : ∃ N, N = w.heap.size := ⟨_, rfl⟩
  rw [← hN] at H0 HC ⊢
  obtain ⟨a0, a1, a2, b0, b1, b2, c0, c1, c2⟩ := HC.out _ H0.out
  clear hN
  go_wp2_with fail
  refine (HAB.out _).mono ?_
  rintro e W2 ⟨rfl, h2⟩
  have H2 := Lib.hid (H0.out.on h2)
  clear h2 H0 a0 a1 a2 b0 b1 b2 c0 c1 c2 HAB
  obtain ⟨a0, a1, a2, b0, b1, b2, c0, c1, c2⟩ := HC.out _ H2.out
  go_wp2_with fail
  refine (HBC.out _).mono ?_
  rintro e W3 ⟨rfl, h3⟩
  have H3 := Lib.hid (H2.out.on h3)
  clear h3 H2 a0 a1 a2 b0 b1 b2 c0 c1 c2 HBC
  obtain ⟨a0, a1, a2, b0, b1, b2, c0, c1, c2⟩ := HC.out _ H3.out
  go_wp2_with fail
  refine (HAC.out _).mono ?_
  rintro e W4 ⟨rfl, h4⟩
  have H4 := Lib.hid (H3.out.on h4)
  clear h4 H3 a0 a1 a2 b0 b1 b2 c0 c1 c2 HAC
  obtain ⟨a0, a1, a2, b0, b1, b2, c0, c1, c2⟩ := HC.out _ H4.out
  go_wp2_with fail
  refine (HBA.out _).mono ?_
  rintro e W5 ⟨rfl, h5⟩
  have H5 := Lib.hid (H4.out.on h5)
  clear h5 H4 a0 a1 a2 b0 b1 b2 c0 c1 c2 HBA
  obtain ⟨a0, a1, a2, b0, b1, b2, c0, c1, c2⟩ := HC.out _ H5.out
  go_wp2_with fail
  refine (HAA.out _).mono ?_
  rintro e W6 ⟨rfl, h6⟩
  have H6 := Lib.hid (H5.out.on h6)
  clear h6 H5 a0 a1 a2 b0 b1 b2 c0 c1 c2 HAA
  obtain ⟨a0, a1, a2, b0, b1, b2, c0, c1, c2⟩ := HC.out _ H6.out
  clear a1 a2 b1 b2 c0 c1 c2 HC
  have HAW := Lib.hid (awake_any W6 (HE.out.bw H6.out.bw))
  go_wp2_with (go_at_call 13; refine HAW.out.mono ?_; rintro e W7 ⟨rfl, h7⟩)
  all_goals
    go_ret
    exact ⟨ret_bool (by simp), H6.out.bw.trans h7⟩
set_option maxRecDepth 100000 in
set_option maxHeartbeats 2000000 in
theorem ord_n_up (ak an bk bn ck cn : Int) (at' bt ct : List UInt8) (x y z : Int) (w : World) (hE : Env w) (hx : cmpK ⟨ak, an, at'⟩ ⟨bk, bn, bt⟩ = x) (hy : cmpK ⟨bk, bn, bt⟩ ⟨ck, cn, ct⟩ = y) (hz : cmpK ⟨ak, an, at'⟩ ⟨ck, cn, ct⟩ = z) (hk : ak = bk) (hd : ¬ an = bn) (hx1 : x = 1) (hkk : bk ≤ ak) : OrdGoal ⟨ak, an, at'⟩ ⟨bk, bn, bt⟩ ⟨ck, cn, ct⟩ w := by
  unfold OrdGoal
  have HAB := Lib.hid (fun W => compare_any ⟨ak, an, at'⟩ ⟨bk, bn, bt⟩ W)
  have HBC := Lib.hid (fun W => compare_any ⟨bk, bn, bt⟩ ⟨ck, cn, ct⟩ W)
  have HAC := Lib.hid (fun W => compare_any ⟨ak, an, at'⟩ ⟨ck, cn, ct⟩ W)
  have HBA := Lib.hid (fun W => compare_any ⟨bk, bn, bt⟩ ⟨ak, an, at'⟩ W)
  have HAA := Lib.hid (fun W => compare_any ⟨ak, an, at'⟩ ⟨ak, an, at'⟩ W)
  rw [cmpK_neg ⟨bk, bn, bt⟩ ⟨ak, an, at'⟩] at HBA
  rw [cmpK_refl ⟨ak, an, at'⟩] at HAA
  rw [hx] at HAB HBA
  rw [hy] at HBC
  rw [hz] at HAC
  have H0 := Lib.hid (K3.begin w ⟨ak, an, at'⟩ ⟨bk, bn, bt⟩ ⟨ck, cn, ct⟩)
  have HE := Lib.hid hE
  have HC : Hid (∀ W, K3 w w.heap.size ⟨ak, an, at'⟩ ⟨bk, bn, bt⟩ ⟨ck, cn, ct⟩ W → W.cell? ⟨w.heap.size, 0, none⟩ = some (.int .i64 ak) ∧ W.cell? ⟨w.heap.size, 1, none⟩ = some (.int .i64 an) ∧ W.cell? ⟨w.heap.size, 2, none⟩ = some (textV at') ∧ W.cell? ⟨w.heap.size + 1, 0, none⟩ = some (.int .i64 bk) ∧ W.cell? ⟨w.heap.size + 1, 1, none⟩ = some (.int .i64 bn) ∧ W.cell? ⟨w.heap.size + 1, 2, none⟩ = some (textV bt) ∧ W.cell? ⟨w.heap.size + 2, 0, none⟩ = some (.int .i64 ck) ∧ W.cell? ⟨w.heap.size + 2, 1, none⟩ = some (.int .i64 cn) ∧ W.cell? ⟨w.heap.size + 2, 2, none⟩ = some (textV ct)) := fun W h => h.cells
  obtain ⟨ta, hta⟩ : ∃ t, t = ByteArray.mk at'.toArray := ⟨_, rfl⟩
  obtain ⟨tb, htb⟩ : ∃ t, t = ByteArray.mk bt.toArray := ⟨_, rfl⟩
  obtain ⟨tc, htc⟩ : ∃ t, t = ByteArray.mk ct.toArray := ⟨_, rfl⟩
  have va : textV at' = .string ta := by rw [hta]; rfl
  have vb : textV bt = .string tb := by rw [htb]; rfl
  have vc : textV ct = .string tc := by rw [htc]; rfl
  have ia : ta.toList = at' := by rw [hta]; exact text_list at'
  have ib : tb.toList = bt := by rw [htb]; exact text_list bt
  subst hx1
  have hdb : (an == bn) = false := beq_eq_false_iff_ne.2 hd
  subst hk
  clear hd
  unfold keyV at HAB HBC HAC HBA HAA
  dsimp only at HAB HBC HAC HBA HAA H0 ⊢
  simp only [va, vb, vc] at HAB HBC HAC HBA HAA H0 HC ⊢
  clear hx hy hz hE hta htb htc va vb vc ia ib
  go_enter Tryd.func8, Tryd.ntmps8
  go_upto_region 1 with (fail)
  generalize ((w.alloc _).alloc _).alloc _ = W1 at H0 ⊢
  obtain ⟨N, hN⟩ : ∃ N, N = w.heap.size := ⟨_, rfl⟩
  rw [← hN] at H0 HC ⊢
  obtain ⟨a0, a1, a2, b0, b1, b2, c0, c1, c2⟩ := HC.out _ H0.out
  clear hN
  go_wp2_with fail
  refine (HAB.out _).mono ?_
  rintro e W2 ⟨rfl, h2⟩
  have H2 := Lib.hid (H0.out.on h2)
  clear h2 H0 a0 a1 a2 b0 b1 b2 c0 c1 c2 HAB
  obtain ⟨a0, a1, a2, b0, b1, b2, c0, c1, c2⟩ := HC.out _ H2.out
  go_wp2_with fail
  refine (HBC.out _).mono ?_
  rintro e W3 ⟨rfl, h3⟩
  have H3 := Lib.hid (H2.out.on h3)
  clear h3 H2 a0 a1 a2 b0 b1 b2 c0 c1 c2 HBC
  obtain ⟨a0, a1, a2, b0, b1, b2, c0, c1, c2⟩ := HC.out _ H3.out
  go_wp2_with fail
  refine (HAC.out _).mono ?_
  rintro e W4 ⟨rfl, h4⟩
  have H4 := Lib.hid (H3.out.on h4)
  clear h4 H3 a0 a1 a2 b0 b1 b2 c0 c1 c2 HAC
  obtain ⟨a0, a1, a2, b0, b1, b2, c0, c1, c2⟩ := HC.out _ H4.out
  go_wp2_with fail
  refine (HBA.out _).mono ?_
  rintro e W5 ⟨rfl, h5⟩
  have H5 := Lib.hid (H4.out.on h5)
  clear h5 H4 a0 a1 a2 b0 b1 b2 c0 c1 c2 HBA
  obtain ⟨a0, a1, a2, b0, b1, b2, c0, c1, c2⟩ := HC.out _ H5.out
  go_wp2_with fail
  refine (HAA.out _).mono ?_
  rintro e W6 ⟨rfl, h6⟩
  have H6 := Lib.hid (H5.out.on h6)
  clear h6 H5 a0 a1 a2 b0 b1 b2 c0 c1 c2 HAA
  obtain ⟨a0, a1, a2, b0, b1, b2, c0, c1, c2⟩ := HC.out _ H6.out
  clear a1 a2 b1 b2 c0 c1 c2 HC
  have HAW := Lib.hid (awake_any W6 (HE.out.bw H6.out.bw))
  go_wp2_with (go_at_call 13; refine HAW.out.mono ?_; rintro e W7 ⟨rfl, h7⟩)
  all_goals
    go_ret
    exact ⟨ret_bool (by simp), H6.out.bw.trans h7⟩
set_option maxRecDepth 100000 in
set_option maxHeartbeats 2000000 in
theorem ord_n_dn1 (ak an bk bn ck cn : Int) (at' bt ct : List UInt8) (x y z : Int) (w : World) (hE : Env w) (hx : cmpK ⟨ak, an, at'⟩ ⟨bk, bn, bt⟩ = x) (hy : cmpK ⟨bk, bn, bt⟩ ⟨ck, cn, ct⟩ = y) (hz : cmpK ⟨ak, an, at'⟩ ⟨ck, cn, ct⟩ = z) (hk : ak = bk) (hd : ¬ an = bn) (hx1 : x = -1) (hy1 : y = 1) : OrdGoal ⟨ak, an, at'⟩ ⟨bk, bn, bt⟩ ⟨ck, cn, ct⟩ w := by
  unfold OrdGoal
  have HAB := Lib.hid (fun W => compare_any ⟨ak, an, at'⟩ ⟨bk, bn, bt⟩ W)
  have HBC := Lib.hid (fun W => compare_any ⟨bk, bn, bt⟩ ⟨ck, cn, ct⟩ W)
  have HAC := Lib.hid (fun W => compare_any ⟨ak, an, at'⟩ ⟨ck, cn, ct⟩ W)
  have HBA := Lib.hid (fun W => compare_any ⟨bk, bn, bt⟩ ⟨ak, an, at'⟩ W)
  have HAA := Lib.hid (fun W => compare_any ⟨ak, an, at'⟩ ⟨ak, an, at'⟩ W)
  rw [cmpK_neg ⟨bk, bn, bt⟩ ⟨ak, an, at'⟩] at HBA
  rw [cmpK_refl ⟨ak, an, at'⟩] at HAA
  rw [hx] at HAB HBA
  rw [hy] at HBC
  rw [hz] at HAC
  have H0 := Lib.hid (K3.begin w ⟨ak, an, at'⟩ ⟨bk, bn, bt⟩ ⟨ck, cn, ct⟩)
  have HE := Lib.hid hE
  have HC : Hid (∀ W, K3 w w.heap.size ⟨ak, an, at'⟩ ⟨bk, bn, bt⟩ ⟨ck, cn, ct⟩ W → W.cell? ⟨w.heap.size, 0, none⟩ = some (.int .i64 ak) ∧ W.cell? ⟨w.heap.size, 1, none⟩ = some (.int .i64 an) ∧ W.cell? ⟨w.heap.size, 2, none⟩ = some (textV at') ∧ W.cell? ⟨w.heap.size + 1, 0, none⟩ = some (.int .i64 bk) ∧ W.cell? ⟨w.heap.size + 1, 1, none⟩ = some (.int .i64 bn) ∧ W.cell? ⟨w.heap.size + 1, 2, none⟩ = some (textV bt) ∧ W.cell? ⟨w.heap.size + 2, 0, none⟩ = some (.int .i64 ck) ∧ W.cell? ⟨w.heap.size + 2, 1, none⟩ = some (.int .i64 cn) ∧ W.cell? ⟨w.heap.size + 2, 2, none⟩ = some (textV ct)) := fun W h => h.cells
  obtain ⟨ta, hta⟩ : ∃ t, t = ByteArray.mk at'.toArray := ⟨_, rfl⟩
  obtain ⟨tb, htb⟩ : ∃ t, t = ByteArray.mk bt.toArray := ⟨_, rfl⟩
  obtain ⟨tc, htc⟩ : ∃ t, t = ByteArray.mk ct.toArray := ⟨_, rfl⟩
  have va : textV at' = .string ta := by rw [hta]; rfl
  have vb : textV bt = .string tb := by rw [htb]; rfl
  have vc : textV ct = .string tc := by rw [htc]; rfl
  have ia : ta.toList = at' := by rw [hta]; exact text_list at'
  have ib : tb.toList = bt := by rw [htb]; exact text_list bt
  subst hx1; subst hy1
  have hdb : (an == bn) = false := beq_eq_false_iff_ne.2 hd
  subst hk
  clear hd
  unfold keyV at HAB HBC HAC HBA HAA
  dsimp only at HAB HBC HAC HBA HAA H0 ⊢
  simp only [va, vb, vc] at HAB HBC HAC HBA HAA H0 HC ⊢
  clear hx hy hz hE hta htb htc va vb vc ia ib
  go_enter Tryd.func8, Tryd.ntmps8
  go_upto_region 1 with (fail)
  generalize ((w.alloc _).alloc _).alloc _ = W1 at H0 ⊢
  obtain ⟨N, hN⟩ : ∃ N, N = w.heap.size := ⟨_, rfl⟩
  rw [← hN] at H0 HC ⊢
  obtain ⟨a0, a1, a2, b0, b1, b2, c0, c1, c2⟩ := HC.out _ H0.out
  clear hN
  go_wp2_with fail
  refine (HAB.out _).mono ?_
  rintro e W2 ⟨rfl, h2⟩
  have H2 := Lib.hid (H0.out.on h2)
  clear h2 H0 a0 a1 a2 b0 b1 b2 c0 c1 c2 HAB
  obtain ⟨a0, a1, a2, b0, b1, b2, c0, c1, c2⟩ := HC.out _ H2.out
  go_wp2_with fail
  refine (HBC.out _).mono ?_
  rintro e W3 ⟨rfl, h3⟩
  have H3 := Lib.hid (H2.out.on h3)
  clear h3 H2 a0 a1 a2 b0 b1 b2 c0 c1 c2 HBC
  obtain ⟨a0, a1, a2, b0, b1, b2, c0, c1, c2⟩ := HC.out _ H3.out
  go_wp2_with fail
  refine (HAC.out _).mono ?_
  rintro e W4 ⟨rfl, h4⟩
  have H4 := Lib.hid (H3.out.on h4)
  clear h4 H3 a0 a1 a2 b0 b1 b2 c0 c1 c2 HAC
  obtain ⟨a0, a1, a2, b0, b1, b2, c0, c1, c2⟩ := HC.out _ H4.out
  go_wp2_with fail
  refine (HBA.out _).mono ?_
  rintro e W5 ⟨rfl, h5⟩
  have H5 := Lib.hid (H4.out.on h5)
  clear h5 H4 a0 a1 a2 b0 b1 b2 c0 c1 c2 HBA
  obtain ⟨a0, a1, a2, b0, b1, b2, c0, c1, c2⟩ := HC.out _ H5.out
  go_wp2_with fail
  refine (HAA.out _).mono ?_
  rintro e W6 ⟨rfl, h6⟩
  have H6 := Lib.hid (H5.out.on h6)
  clear h6 H5 a0 a1 a2 b0 b1 b2 c0 c1 c2 HAA
  obtain ⟨a0, a1, a2, b0, b1, b2, c0, c1, c2⟩ := HC.out _ H6.out
  clear a1 a2 b1 b2 c0 c1 c2 HC
  have HAW := Lib.hid (awake_any W6 (HE.out.bw H6.out.bw))
  go_wp2_with (go_at_call 13; refine HAW.out.mono ?_; rintro e W7 ⟨rfl, h7⟩)
  all_goals
    go_ret
    exact ⟨ret_bool (by simp), H6.out.bw.trans h7⟩
set_option maxRecDepth 100000 in
set_option maxHeartbeats 2000000 in
theorem ord_n_dn0 (ak an bk bn ck cn : Int) (at' bt ct : List UInt8) (x y z : Int) (w : World) (hE : Env w) (hx : cmpK ⟨ak, an, at'⟩ ⟨bk, bn, bt⟩ = x) (hy : cmpK ⟨bk, bn, bt⟩ ⟨ck, cn, ct⟩ = y) (hz : cmpK ⟨ak, an, at'⟩ ⟨ck, cn, ct⟩ = z) (hk : ak = bk) (hd : ¬ an = bn) (hx1 : x = -1) (hy1 : y ≤ 0) (hz1 : z = -1) : OrdGoal ⟨ak, an, at'⟩ ⟨bk, bn, bt⟩ ⟨ck, cn, ct⟩ w := by
  unfold OrdGoal
  have HAB := Lib.hid (fun W => compare_any ⟨ak, an, at'⟩ ⟨bk, bn, bt⟩ W)
  have HBC := Lib.hid (fun W => compare_any ⟨bk, bn, bt⟩ ⟨ck, cn, ct⟩ W)
  have HAC := Lib.hid (fun W => compare_any ⟨ak, an, at'⟩ ⟨ck, cn, ct⟩ W)
  have HBA := Lib.hid (fun W => compare_any ⟨bk, bn, bt⟩ ⟨ak, an, at'⟩ W)
  have HAA := Lib.hid (fun W => compare_any ⟨ak, an, at'⟩ ⟨ak, an, at'⟩ W)
  rw [cmpK_neg ⟨bk, bn, bt⟩ ⟨ak, an, at'⟩] at HBA
  rw [cmpK_refl ⟨ak, an, at'⟩] at HAA
  rw [hx] at HAB HBA
  rw [hy] at HBC
  rw [hz] at HAC
  have H0 := Lib.hid (K3.begin w ⟨ak, an, at'⟩ ⟨bk, bn, bt⟩ ⟨ck, cn, ct⟩)
  have HE := Lib.hid hE
  have HC : Hid (∀ W, K3 w w.heap.size ⟨ak, an, at'⟩ ⟨bk, bn, bt⟩ ⟨ck, cn, ct⟩ W → W.cell? ⟨w.heap.size, 0, none⟩ = some (.int .i64 ak) ∧ W.cell? ⟨w.heap.size, 1, none⟩ = some (.int .i64 an) ∧ W.cell? ⟨w.heap.size, 2, none⟩ = some (textV at') ∧ W.cell? ⟨w.heap.size + 1, 0, none⟩ = some (.int .i64 bk) ∧ W.cell? ⟨w.heap.size + 1, 1, none⟩ = some (.int .i64 bn) ∧ W.cell? ⟨w.heap.size + 1, 2, none⟩ = some (textV bt) ∧ W.cell? ⟨w.heap.size + 2, 0, none⟩ = some (.int .i64 ck) ∧ W.cell? ⟨w.heap.size + 2, 1, none⟩ = some (.int .i64 cn) ∧ W.cell? ⟨w.heap.size + 2, 2, none⟩ = some (textV ct)) := fun W h => h.cells
  obtain ⟨ta, hta⟩ : ∃ t, t = ByteArray.mk at'.toArray := ⟨_, rfl⟩
  obtain ⟨tb, htb⟩ : ∃ t, t = ByteArray.mk bt.toArray := ⟨_, rfl⟩
  obtain ⟨tc, htc⟩ : ∃ t, t = ByteArray.mk ct.toArray := ⟨_, rfl⟩
  have va : textV at' = .string ta := by rw [hta]; rfl
  have vb : textV bt = .string tb := by rw [htb]; rfl
  have vc : textV ct = .string tc := by rw [htc]; rfl
  have ia : ta.toList = at' := by rw [hta]; exact text_list at'
  have ib : tb.toList = bt := by rw [htb]; exact text_list bt
  subst hx1; subst hz1
  have hdb : (an == bn) = false := beq_eq_false_iff_ne.2 hd
  subst hk
  clear hd
  unfold keyV at HAB HBC HAC HBA HAA
  dsimp only at HAB HBC HAC HBA HAA H0 ⊢
  simp only [va, vb, vc] at HAB HBC HAC HBA HAA H0 HC ⊢
  clear hx hy hz hE hta htb htc va vb vc ia ib
  go_enter Tryd.func8, Tryd.ntmps8
  go_upto_region 1 with (fail)
  generalize ((w.alloc _).alloc _).alloc _ = W1 at H0 ⊢
  obtain ⟨N, hN⟩ : ∃ N, N = w.heap.size := ⟨_, rfl⟩
  rw [← hN] at H0 HC ⊢
  obtain ⟨a0, a1, a2, b0, b1, b2, c0, c1, c2⟩ := HC.out _ H0.out
  clear hN
  go_wp2_with fail
  refine (HAB.out _).mono ?_
  rintro e W2 ⟨rfl, h2⟩
  have H2 := Lib.hid (H0.out.on h2)
  clear h2 H0 a0 a1 a2 b0 b1 b2 c0 c1 c2 HAB
  obtain ⟨a0, a1, a2, b0, b1, b2, c0, c1, c2⟩ := HC.out _ H2.out
  go_wp2_with fail
  refine (HBC.out _).mono ?_
  rintro e W3 ⟨rfl, h3⟩
  have H3 := Lib.hid (H2.out.on h3)
  clear h3 H2 a0 a1 a2 b0 b1 b2 c0 c1 c2 HBC
  obtain ⟨a0, a1, a2, b0, b1, b2, c0, c1, c2⟩ := HC.out _ H3.out
  go_wp2_with fail
  refine (HAC.out _).mono ?_
  rintro e W4 ⟨rfl, h4⟩
  have H4 := Lib.hid (H3.out.on h4)
  clear h4 H3 a0 a1 a2 b0 b1 b2 c0 c1 c2 HAC
  obtain ⟨a0, a1, a2, b0, b1, b2, c0, c1, c2⟩ := HC.out _ H4.out
  go_wp2_with fail
  refine (HBA.out _).mono ?_
  rintro e W5 ⟨rfl, h5⟩
  have H5 := Lib.hid (H4.out.on h5)
  clear h5 H4 a0 a1 a2 b0 b1 b2 c0 c1 c2 HBA
  obtain ⟨a0, a1, a2, b0, b1, b2, c0, c1, c2⟩ := HC.out _ H5.out
  go_wp2_with fail
  refine (HAA.out _).mono ?_
  rintro e W6 ⟨rfl, h6⟩
  have H6 := Lib.hid (H5.out.on h6)
  clear h6 H5 a0 a1 a2 b0 b1 b2 c0 c1 c2 HAA
  obtain ⟨a0, a1, a2, b0, b1, b2, c0, c1, c2⟩ := HC.out _ H6.out
  clear a1 a2 b1 b2 c0 c1 c2 HC
  have HAW := Lib.hid (awake_any W6 (HE.out.bw H6.out.bw))
  go_wp2_with (go_at_call 13; refine HAW.out.mono ?_; rintro e W7 ⟨rfl, h7⟩)
  all_goals
    go_ret
    exact ⟨ret_bool (by simp), H6.out.bw.trans h7⟩
set_option maxRecDepth 100000 in
set_option maxHeartbeats 2000000 in
theorem ord_t_up (ak an bk bn ck cn : Int) (at' bt ct : List UInt8) (x y z : Int) (w : World) (hE : Env w) (hx : cmpK ⟨ak, an, at'⟩ ⟨bk, bn, bt⟩ = x) (hy : cmpK ⟨bk, bn, bt⟩ ⟨ck, cn, ct⟩ = y) (hz : cmpK ⟨ak, an, at'⟩ ⟨ck, cn, ct⟩ = z) (hk : ak = bk) (hn : an = bn) (hd : ¬ at' = bt) (hx1 : x = 1) (hkk : bk ≤ ak) : OrdGoal ⟨ak, an, at'⟩ ⟨bk, bn, bt⟩ ⟨ck, cn, ct⟩ w := by
  unfold OrdGoal
  have HAB := Lib.hid (fun W => compare_any ⟨ak, an, at'⟩ ⟨bk, bn, bt⟩ W)
  have HBC := Lib.hid (fun W => compare_any ⟨bk, bn, bt⟩ ⟨ck, cn, ct⟩ W)
  have HAC := Lib.hid (fun W => compare_any ⟨ak, an, at'⟩ ⟨ck, cn, ct⟩ W)
  have HBA := Lib.hid (fun W => compare_any ⟨bk, bn, bt⟩ ⟨ak, an, at'⟩ W)
  have HAA := Lib.hid (fun W => compare_any ⟨ak, an, at'⟩ ⟨ak, an, at'⟩ W)
  rw [cmpK_neg ⟨bk, bn, bt⟩ ⟨ak, an, at'⟩] at HBA
  rw [cmpK_refl ⟨ak, an, at'⟩] at HAA
  rw [hx] at HAB HBA
  rw [hy] at HBC
  rw [hz] at HAC
  have H0 := Lib.hid (K3.begin w ⟨ak, an, at'⟩ ⟨bk, bn, bt⟩ ⟨ck, cn, ct⟩)
  have HE := Lib.hid hE
  have HC : Hid (∀ W, K3 w w.heap.size ⟨ak, an, at'⟩ ⟨bk, bn, bt⟩ ⟨ck, cn, ct⟩ W → W.cell? ⟨w.heap.size, 0, none⟩ = some (.int .i64 ak) ∧ W.cell? ⟨w.heap.size, 1, none⟩ = some (.int .i64 an) ∧ W.cell? ⟨w.heap.size, 2, none⟩ = some (textV at') ∧ W.cell? ⟨w.heap.size + 1, 0, none⟩ = some (.int .i64 bk) ∧ W.cell? ⟨w.heap.size + 1, 1, none⟩ = some (.int .i64 bn) ∧ W.cell? ⟨w.heap.size + 1, 2, none⟩ = some (textV bt) ∧ W.cell? ⟨w.heap.size + 2, 0, none⟩ = some (.int .i64 ck) ∧ W.cell? ⟨w.heap.size + 2, 1, none⟩ = some (.int .i64 cn) ∧ W.cell? ⟨w.heap.size + 2, 2, none⟩ = some (textV ct)) := fun W h => h.cells
  obtain ⟨ta, hta⟩ : ∃ t, t = ByteArray.mk at'.toArray := ⟨_, rfl⟩
  obtain ⟨tb, htb⟩ : ∃ t, t = ByteArray.mk bt.toArray := ⟨_, rfl⟩
  obtain ⟨tc, htc⟩ : ∃ t, t = ByteArray.mk ct.toArray := ⟨_, rfl⟩
  have va : textV at' = .string ta := by rw [hta]; rfl
  have vb : textV bt = .string tb := by rw [htb]; rfl
  have vc : textV ct = .string tc := by rw [htc]; rfl
  have ia : ta.toList = at' := by rw [hta]; exact text_list at'
  have ib : tb.toList = bt := by rw [htb]; exact text_list bt
  subst hx1
  have hdb : (ta.toList == tb.toList) = false := by rw [ia, ib]; exact beq_eq_false_iff_ne.2 hd
  subst hk; subst hn
  clear hd
  unfold keyV at HAB HBC HAC HBA HAA
  dsimp only at HAB HBC HAC HBA HAA H0 ⊢
  simp only [va, vb, vc] at HAB HBC HAC HBA HAA H0 HC ⊢
  clear hx hy hz hE hta htb htc va vb vc ia ib
  go_enter Tryd.func8, Tryd.ntmps8
  go_upto_region 1 with (fail)
  generalize ((w.alloc _).alloc _).alloc _ = W1 at H0 ⊢
  obtain ⟨N, hN⟩ : ∃ N, N = w.heap.size := ⟨_, rfl⟩
  rw [← hN] at H0 HC ⊢
  obtain ⟨a0, a1, a2, b0, b1, b2, c0, c1, c2⟩ := HC.out _ H0.out
  clear hN
  go_wp2_with fail
  refine (HAB.out _).mono ?_
  rintro e W2 ⟨rfl, h2⟩
  have H2 := Lib.hid (H0.out.on h2)
  clear h2 H0 a0 a1 a2 b0 b1 b2 c0 c1 c2 HAB
  obtain ⟨a0, a1, a2, b0, b1, b2, c0, c1, c2⟩ := HC.out _ H2.out
  go_wp2_with fail
  refine (HBC.out _).mono ?_
  rintro e W3 ⟨rfl, h3⟩
  have H3 := Lib.hid (H2.out.on h3)
  clear h3 H2 a0 a1 a2 b0 b1 b2 c0 c1 c2 HBC
  obtain ⟨a0, a1, a2, b0, b1, b2, c0, c1, c2⟩ := HC.out _ H3.out
  go_wp2_with fail
  refine (HAC.out _).mono ?_
  rintro e W4 ⟨rfl, h4⟩
  have H4 := Lib.hid (H3.out.on h4)
  clear h4 H3 a0 a1 a2 b0 b1 b2 c0 c1 c2 HAC
  obtain ⟨a0, a1, a2, b0, b1, b2, c0, c1, c2⟩ := HC.out _ H4.out
  go_wp2_with fail
  refine (HBA.out _).mono ?_
  rintro e W5 ⟨rfl, h5⟩
  have H5 := Lib.hid (H4.out.on h5)
  clear h5 H4 a0 a1 a2 b0 b1 b2 c0 c1 c2 HBA
  obtain ⟨a0, a1, a2, b0, b1, b2, c0, c1, c2⟩ := HC.out _ H5.out
  go_wp2_with fail
  refine (HAA.out _).mono ?_
  rintro e W6 ⟨rfl, h6⟩
  have H6 := Lib.hid (H5.out.on h6)
  clear h6 H5 a0 a1 a2 b0 b1 b2 c0 c1 c2 HAA
  obtain ⟨a0, a1, a2, b0, b1, b2, c0, c1, c2⟩ := HC.out _ H6.out
  clear a1 a2 b1 b2 c0 c1 c2 HC
  have HAW := Lib.hid (awake_any W6 (HE.out.bw H6.out.bw))
  go_wp2_with (go_at_call 13; refine HAW.out.mono ?_; rintro e W7 ⟨rfl, h7⟩)
  all_goals
    go_ret
    exact ⟨ret_bool (by simp), H6.out.bw.trans h7⟩
set_option maxRecDepth 100000 in
set_option maxHeartbeats 2000000 in
theorem ord_t_dn1 (ak an bk bn ck cn : Int) (at' bt ct : List UInt8) (x y z : Int) (w : World) (hE : Env w) (hx : cmpK ⟨ak, an, at'⟩ ⟨bk, bn, bt⟩ = x) (hy : cmpK ⟨bk, bn, bt⟩ ⟨ck, cn, ct⟩ = y) (hz : cmpK ⟨ak, an, at'⟩ ⟨ck, cn, ct⟩ = z) (hk : ak = bk) (hn : an = bn) (hd : ¬ at' = bt) (hx1 : x = -1) (hy1 : y = 1) : OrdGoal ⟨ak, an, at'⟩ ⟨bk, bn, bt⟩ ⟨ck, cn, ct⟩ w := by
  unfold OrdGoal
  have HAB := Lib.hid (fun W => compare_any ⟨ak, an, at'⟩ ⟨bk, bn, bt⟩ W)
  have HBC := Lib.hid (fun W => compare_any ⟨bk, bn, bt⟩ ⟨ck, cn, ct⟩ W)
  have HAC := Lib.hid (fun W => compare_any ⟨ak, an, at'⟩ ⟨ck, cn, ct⟩ W)
  have HBA := Lib.hid (fun W => compare_any ⟨bk, bn, bt⟩ ⟨ak, an, at'⟩ W)
  have HAA := Lib.hid (fun W => compare_any ⟨ak, an, at'⟩ ⟨ak, an, at'⟩ W)
  rw [cmpK_neg ⟨bk, bn, bt⟩ ⟨ak, an, at'⟩] at HBA
  rw [cmpK_refl ⟨ak, an, at'⟩] at HAA
  rw [hx] at HAB HBA
  rw [hy] at HBC
  rw [hz] at HAC
  have H0 := Lib.hid (K3.begin w ⟨ak, an, at'⟩ ⟨bk, bn, bt⟩ ⟨ck, cn, ct⟩)
  have HE := Lib.hid hE
  have HC : Hid (∀ W, K3 w w.heap.size ⟨ak, an, at'⟩ ⟨bk, bn, bt⟩ ⟨ck, cn, ct⟩ W → W.cell? ⟨w.heap.size, 0, none⟩ = some (.int .i64 ak) ∧ W.cell? ⟨w.heap.size, 1, none⟩ = some (.int .i64 an) ∧ W.cell? ⟨w.heap.size, 2, none⟩ = some (textV at') ∧ W.cell? ⟨w.heap.size + 1, 0, none⟩ = some (.int .i64 bk) ∧ W.cell? ⟨w.heap.size + 1, 1, none⟩ = some (.int .i64 bn) ∧ W.cell? ⟨w.heap.size + 1, 2, none⟩ = some (textV bt) ∧ W.cell? ⟨w.heap.size + 2, 0, none⟩ = some (.int .i64 ck) ∧ W.cell? ⟨w.heap.size + 2, 1, none⟩ = some (.int .i64 cn) ∧ W.cell? ⟨w.heap.size + 2, 2, none⟩ = some (textV ct)) := fun W h => h.cells
  obtain ⟨ta, hta⟩ : ∃ t, t = ByteArray.mk at'.toArray := ⟨_, rfl⟩
  obtain ⟨tb, htb⟩ : ∃ t, t = ByteArray.mk bt.toArray := ⟨_, rfl⟩
  obtain ⟨tc, htc⟩ : ∃ t, t = ByteArray.mk ct.toArray := ⟨_, rfl⟩
  have va : textV at' = .string ta := by rw [hta]; rfl
  have vb : textV bt = .string tb := by rw [htb]; rfl
  have vc : textV ct = .string tc := by rw [htc]; rfl
  have ia : ta.toList = at' := by rw [hta]; exact text_list at'
  have ib : tb.toList = bt := by rw [htb]; exact text_list bt
  subst hx1; subst hy1
  have hdb : (ta.toList == tb.toList) = false := by rw [ia, ib]; exact beq_eq_false_iff_ne.2 hd
  subst hk; subst hn
  clear hd
  unfold keyV at HAB HBC HAC HBA HAA
  dsimp only at HAB HBC HAC HBA HAA H0 ⊢
  simp only [va, vb, vc] at HAB HBC HAC HBA HAA H0 HC ⊢
  clear hx hy hz hE hta htb htc va vb vc ia ib
  go_enter Tryd.func8, Tryd.ntmps8
  go_upto_region 1 with (fail)
  generalize ((w.alloc _).alloc _).alloc _ = W1 at H0 ⊢
  obtain ⟨N, hN⟩ : ∃ N, N = w.heap.size := ⟨_, rfl⟩
  rw [← hN] at H0 HC ⊢
  obtain ⟨a0, a1, a2, b0, b1, b2, c0, c1, c2⟩ := HC.out _ H0.out
  clear hN
  go_wp2_with fail
  refine (HAB.out _).mono ?_
  rintro e W2 ⟨rfl, h2⟩
  have H2 := Lib.hid (H0.out.on h2)
  clear h2 H0 a0 a1 a2 b0 b1 b2 c0 c1 c2 HAB
  obtain ⟨a0, a1, a2, b0, b1, b2, c0, c1, c2⟩ := HC.out _ H2.out
  go_wp2_with fail
  refine (HBC.out _).mono ?_
  rintro e W3 ⟨rfl, h3⟩
  have H3 := Lib.hid (H2.out.on h3)
  clear h3 H2 a0 a1 a2 b0 b1 b2 c0 c1 c2 HBC
  obtain ⟨a0, a1, a2, b0, b1, b2, c0, c1, c2⟩ := HC.out _ H3.out
  go_wp2_with fail
  refine (HAC.out _).mono ?_
  rintro e W4 ⟨rfl, h4⟩
  have H4 := Lib.hid (H3.out.on h4)
  clear h4 H3 a0 a1 a2 b0 b1 b2 c0 c1 c2 HAC
  obtain ⟨a0, a1, a2, b0, b1, b2, c0, c1, c2⟩ := HC.out _ H4.out
  go_wp2_with fail
  refine (HBA.out _).mono ?_
  rintro e W5 ⟨rfl, h5⟩
  have H5 := Lib.hid (H4.out.on h5)
  clear h5 H4 a0 a1 a2 b0 b1 b2 c0 c1 c2 HBA
  obtain ⟨a0, a1, a2, b0, b1, b2, c0, c1, c2⟩ := HC.out _ H5.out
  go_wp2_with fail
  refine (HAA.out _).mono ?_
  rintro e W6 ⟨rfl, h6⟩
  have H6 := Lib.hid (H5.out.on h6)
  clear h6 H5 a0 a1 a2 b0 b1 b2 c0 c1 c2 HAA
  obtain ⟨a0, a1, a2, b0, b1, b2, c0, c1, c2⟩ := HC.out _ H6.out
  clear a1 a2 b1 b2 c0 c1 c2 HC
  have HAW := Lib.hid (awake_any W6 (HE.out.bw H6.out.bw))
  go_wp2_with (go_at_call 13; refine HAW.out.mono ?_; rintro e W7 ⟨rfl, h7⟩)
  all_goals
    go_ret
    exact ⟨ret_bool (by simp), H6.out.bw.trans h7⟩
set_option maxRecDepth 100000 in
set_option maxHeartbeats 2000000 in
theorem ord_t_dn0 (ak an bk bn ck cn : Int) (at' bt ct : List UInt8) (x y z : Int) (w : World) (hE : Env w) (hx : cmpK ⟨ak, an, at'⟩ ⟨bk, bn, bt⟩ = x) (hy : cmpK ⟨bk, bn, bt⟩ ⟨ck, cn, ct⟩ = y) (hz : cmpK ⟨ak, an, at'⟩ ⟨ck, cn, ct⟩ = z) (hk : ak = bk) (hn : an = bn) (hd : ¬ at' = bt) (hx1 : x = -1) (hy1 : y ≤ 0) (hz1 : z = -1) : OrdGoal ⟨ak, an, at'⟩ ⟨bk, bn, bt⟩ ⟨ck, cn, ct⟩ w := by
  unfold OrdGoal
  have HAB := Lib.hid (fun W => compare_any ⟨ak, an, at'⟩ ⟨bk, bn, bt⟩ W)
  have HBC := Lib.hid (fun W => compare_any ⟨bk, bn, bt⟩ ⟨ck, cn, ct⟩ W)
  have HAC := Lib.hid (fun W => compare_any ⟨ak, an, at'⟩ ⟨ck, cn, ct⟩ W)
  have HBA := Lib.hid (fun W => compare_any ⟨bk, bn, bt⟩ ⟨ak, an, at'⟩ W)
  have HAA := Lib.hid (fun W => compare_any ⟨ak, an, at'⟩ ⟨ak, an, at'⟩ W)
  rw [cmpK_neg ⟨bk, bn, bt⟩ ⟨ak, an, at'⟩] at HBA
  rw [cmpK_refl ⟨ak, an, at'⟩] at HAA
  rw [hx] at HAB HBA
  rw [hy] at HBC
  rw [hz] at HAC
  have H0 := Lib.hid (K3.begin w ⟨ak, an, at'⟩ ⟨bk, bn, bt⟩ ⟨ck, cn, ct⟩)
  have HE := Lib.hid hE
  have HC : Hid (∀ W, K3 w w.heap.size ⟨ak, an, at'⟩ ⟨bk, bn, bt⟩ ⟨ck, cn, ct⟩ W → W.cell? ⟨w.heap.size, 0, none⟩ = some (.int .i64 ak) ∧ W.cell? ⟨w.heap.size, 1, none⟩ = some (.int .i64 an) ∧ W.cell? ⟨w.heap.size, 2, none⟩ = some (textV at') ∧ W.cell? ⟨w.heap.size + 1, 0, none⟩ = some (.int .i64 bk) ∧ W.cell? ⟨w.heap.size + 1, 1, none⟩ = some (.int .i64 bn) ∧ W.cell? ⟨w.heap.size + 1, 2, none⟩ = some (textV bt) ∧ W.cell? ⟨w.heap.size + 2, 0, none⟩ = some (.int .i64 ck) ∧ W.cell? ⟨w.heap.size + 2, 1, none⟩ = some (.int .i64 cn) ∧ W.cell? ⟨w.heap.size + 2, 2, none⟩ = some (textV ct)) := fun W h => h.cells
  obtain ⟨ta, hta⟩ : ∃ t, t = ByteArray.mk at'.toArray := ⟨_, rfl⟩
  obtain ⟨tb, htb⟩ : ∃ t, t = ByteArray.mk bt.toArray := ⟨_, rfl⟩
  obtain ⟨tc, htc⟩ : ∃ t, t = ByteArray.mk ct.toArray := ⟨_, rfl⟩
  have va : textV at' = .string ta := by rw [hta]; rfl
  have vb : textV bt = .string tb := by rw [htb]; rfl
  have vc : textV ct = .string tc := by rw [htc]; rfl
  have ia : ta.toList = at' := by rw [hta]; exact text_list at'
  have ib : tb.toList = bt := by rw [htb]; exact text_list bt
  subst hx1; subst hz1
  have hdb : (ta.toList == tb.toList) = false := by rw [ia, ib]; exact beq_eq_false_iff_ne.2 hd
  subst hk; subst hn
  clear hd
  unfold keyV at HAB HBC HAC HBA HAA
  dsimp only at HAB HBC HAC HBA HAA H0 ⊢
  simp only [va, vb, vc] at HAB HBC HAC HBA HAA H0 HC ⊢
  clear hx hy hz hE hta htb htc va vb vc ia ib
  go_enter Tryd.func8, Tryd.ntmps8
  go_upto_region 1 with (fail)
  generalize ((w.alloc _).alloc _).alloc _ = W1 at H0 ⊢
  obtain ⟨N, hN⟩ : ∃ N, N = w.heap.size := ⟨_, rfl⟩
  rw [← hN] at H0 HC ⊢
  obtain ⟨a0, a1, a2, b0, b1, b2, c0, c1, c2⟩ := HC.out _ H0.out
  clear hN
  go_wp2_with fail
  refine (HAB.out _).mono ?_
  rintro e W2 ⟨rfl, h2⟩
  have H2 := Lib.hid (H0.out.on h2)
  clear h2 H0 a0 a1 a2 b0 b1 b2 c0 c1 c2 HAB
  obtain ⟨a0, a1, a2, b0, b1, b2, c0, c1, c2⟩ := HC.out _ H2.out
  go_wp2_with fail
  refine (HBC.out _).mono ?_
  rintro e W3 ⟨rfl, h3⟩
  have H3 := Lib.hid (H2.out.on h3)
  clear h3 H2 a0 a1 a2 b0 b1 b2 c0 c1 c2 HBC
  obtain ⟨a0, a1, a2, b0, b1, b2, c0, c1, c2⟩ := HC.out _ H3.out
  go_wp2_with fail
  refine (HAC.out _).mono ?_
  rintro e W4 ⟨rfl, h4⟩
  have H4 := Lib.hid (H3.out.on h4)
  clear h4 H3 a0 a1 a2 b0 b1 b2 c0 c1 c2 HAC
  obtain ⟨a0, a1, a2, b0, b1, b2, c0, c1, c2⟩ := HC.out _ H4.out
  go_wp2_with fail
  refine (HBA.out _).mono ?_
  rintro e W5 ⟨rfl, h5⟩
  have H5 := Lib.hid (H4.out.on h5)
  clear h5 H4 a0 a1 a2 b0 b1 b2 c0 c1 c2 HBA
  obtain ⟨a0, a1, a2, b0, b1, b2, c0, c1, c2⟩ := HC.out _ H5.out
  go_wp2_with fail
  refine (HAA.out _).mono ?_
  rintro e W6 ⟨rfl, h6⟩
  have H6 := Lib.hid (H5.out.on h6)
  clear h6 H5 a0 a1 a2 b0 b1 b2 c0 c1 c2 HAA
  obtain ⟨a0, a1, a2, b0, b1, b2, c0, c1, c2⟩ := HC.out _ H6.out
  clear a1 a2 b1 b2 c0 c1 c2 HC
  have HAW := Lib.hid (awake_any W6 (HE.out.bw H6.out.bw))
  go_wp2_with (go_at_call 13; refine HAW.out.mono ?_; rintro e W7 ⟨rfl, h7⟩)
  all_goals
    go_ret
    exact ⟨ret_bool (by simp), H6.out.bw.trans h7⟩
set_option maxRecDepth 100000 in
set_option maxHeartbeats 2000000 in
theorem ord_s_eq1 (ak an bk bn ck cn : Int) (at' bt ct : List UInt8) (x y z : Int) (w : World) (hE : Env w) (hx : cmpK ⟨ak, an, at'⟩ ⟨bk, bn, bt⟩ = x) (hy : cmpK ⟨bk, bn, bt⟩ ⟨ck, cn, ct⟩ = y) (hz : cmpK ⟨ak, an, at'⟩ ⟨ck, cn, ct⟩ = z) (hk : ak = bk) (hn : an = bn) (hd : at' = bt) (hx1 : x = 0) (hy1 : y = 1) : OrdGoal ⟨ak, an, at'⟩ ⟨bk, bn, bt⟩ ⟨ck, cn, ct⟩ w := by
  unfold OrdGoal
  have HAB := Lib.hid (fun W => compare_any ⟨ak, an, at'⟩ ⟨bk, bn, bt⟩ W)
  have HBC := Lib.hid (fun W => compare_any ⟨bk, bn, bt⟩ ⟨ck, cn, ct⟩ W)
  have HAC := Lib.hid (fun W => compare_any ⟨ak, an, at'⟩ ⟨ck, cn, ct⟩ W)
  have HBA := Lib.hid (fun W => compare_any ⟨bk, bn, bt⟩ ⟨ak, an, at'⟩ W)
  have HAA := Lib.hid (fun W => compare_any ⟨ak, an, at'⟩ ⟨ak, an, at'⟩ W)
  rw [cmpK_neg ⟨bk, bn, bt⟩ ⟨ak, an, at'⟩] at HBA
  rw [cmpK_refl ⟨ak, an, at'⟩] at HAA
  rw [hx] at HAB HBA
  rw [hy] at HBC
  rw [hz] at HAC
  have H0 := Lib.hid (K3.begin w ⟨ak, an, at'⟩ ⟨bk, bn, bt⟩ ⟨ck, cn, ct⟩)
  have HE := Lib.hid hE
  have HC : Hid (∀ W, K3 w w.heap.size ⟨ak, an, at'⟩ ⟨bk, bn, bt⟩ ⟨ck, cn, ct⟩ W → W.cell? ⟨w.heap.size, 0, none⟩ = some (.int .i64 ak) ∧ W.cell? ⟨w.heap.size, 1, none⟩ = some (.int .i64 an) ∧ W.cell? ⟨w.heap.size, 2, none⟩ = some (textV at') ∧ W.cell? ⟨w.heap.size + 1, 0, none⟩ = some (.int .i64 bk) ∧ W.cell? ⟨w.heap.size + 1, 1, none⟩ = some (.int .i64 bn) ∧ W.cell? ⟨w.heap.size + 1, 2, none⟩ = some (textV bt) ∧ W.cell? ⟨w.heap.size + 2, 0, none⟩ = some (.int .i64 ck) ∧ W.cell? ⟨w.heap.size + 2, 1, none⟩ = some (.int .i64 cn) ∧ W.cell? ⟨w.heap.size + 2, 2, none⟩ = some (textV ct)) := fun W h => h.cells
  obtain ⟨ta, hta⟩ : ∃ t, t = ByteArray.mk at'.toArray := ⟨_, rfl⟩
  obtain ⟨tb, htb⟩ : ∃ t, t = ByteArray.mk bt.toArray := ⟨_, rfl⟩
  obtain ⟨tc, htc⟩ : ∃ t, t = ByteArray.mk ct.toArray := ⟨_, rfl⟩
  have va : textV at' = .string ta := by rw [hta]; rfl
  have vb : textV bt = .string tb := by rw [htb]; rfl
  have vc : textV ct = .string tc := by rw [htc]; rfl
  have ia : ta.toList = at' := by rw [hta]; exact text_list at'
  have ib : tb.toList = bt := by rw [htb]; exact text_list bt
  subst hx1; subst hy1
  subst hk; subst hn; subst hd
  obtain rfl : ta = tb := by rw [hta, htb]
  unfold keyV at HAB HBC HAC HBA HAA
  dsimp only at HAB HBC HAC HBA HAA H0 ⊢
  simp only [va, vb, vc] at HAB HBC HAC HBA HAA H0 HC ⊢
  clear hx hy hz hE hta htb htc va vb vc ia ib
  go_enter Tryd.func8, Tryd.ntmps8
  go_upto_region 1 with (fail)
  generalize ((w.alloc _).alloc _).alloc _ = W1 at H0 ⊢
  obtain ⟨N, hN⟩ : ∃ N, N = w.heap.size := ⟨_, rfl⟩
  rw [← hN] at H0 HC ⊢
  obtain ⟨a0, a1, a2, b0, b1, b2, c0, c1, c2⟩ := HC.out _ H0.out
  clear hN
  go_wp2_with fail
  refine (HAB.out _).mono ?_
  rintro e W2 ⟨rfl, h2⟩
  have H2 := Lib.hid (H0.out.on h2)
  clear h2 H0 a0 a1 a2 b0 b1 b2 c0 c1 c2 HAB
  obtain ⟨a0, a1, a2, b0, b1, b2, c0, c1, c2⟩ := HC.out _ H2.out
  go_wp2_with fail
  refine (HBC.out _).mono ?_
  rintro e W3 ⟨rfl, h3⟩
  have H3 := Lib.hid (H2.out.on h3)
  clear h3 H2 a0 a1 a2 b0 b1 b2 c0 c1 c2 HBC
  obtain ⟨a0, a1, a2, b0, b1, b2, c0, c1, c2⟩ := HC.out _ H3.out
  go_wp2_with fail
  refine (HAC.out _).mono ?_
  rintro e W4 ⟨rfl, h4⟩
  have H4 := Lib.hid (H3.out.on h4)
  clear h4 H3 a0 a1 a2 b0 b1 b2 c0 c1 c2 HAC
  obtain ⟨a0, a1, a2, b0, b1, b2, c0, c1, c2⟩ := HC.out _ H4.out
  go_wp2_with fail
  refine (HBA.out _).mono ?_
  rintro e W5 ⟨rfl, h5⟩
  have H5 := Lib.hid (H4.out.on h5)
  clear h5 H4 a0 a1 a2 b0 b1 b2 c0 c1 c2 HBA
  obtain ⟨a0, a1, a2, b0, b1, b2, c0, c1, c2⟩ := HC.out _ H5.out
  go_wp2_with fail
  refine (HAA.out _).mono ?_
  rintro e W6 ⟨rfl, h6⟩
  have H6 := Lib.hid (H5.out.on h6)
  clear h6 H5 a0 a1 a2 b0 b1 b2 c0 c1 c2 HAA
  obtain ⟨a0, a1, a2, b0, b1, b2, c0, c1, c2⟩ := HC.out _ H6.out
  clear a1 a2 b1 b2 c0 c1 c2 HC
  have HAW := Lib.hid (awake_any W6 (HE.out.bw H6.out.bw))
  go_wp2_with (go_at_call 13; refine HAW.out.mono ?_; rintro e W7 ⟨rfl, h7⟩)
  all_goals
    go_ret
    exact ⟨ret_bool (by simp), H6.out.bw.trans h7⟩
set_option maxRecDepth 100000 in
set_option maxHeartbeats 2000000 in
theorem ord_s_eq0 (ak an bk bn ck cn : Int) (at' bt ct : List UInt8) (x y z : Int) (w : World) (hE : Env w) (hx : cmpK ⟨ak, an, at'⟩ ⟨bk, bn, bt⟩ = x) (hy : cmpK ⟨bk, bn, bt⟩ ⟨ck, cn, ct⟩ = y) (hz : cmpK ⟨ak, an, at'⟩ ⟨ck, cn, ct⟩ = z) (hk : ak = bk) (hn : an = bn) (hd : at' = bt) (hx1 : x = 0) (hy1 : y ≤ 0) (hz1 : z ≤ 0) : OrdGoal ⟨ak, an, at'⟩ ⟨bk, bn, bt⟩ ⟨ck, cn, ct⟩ w := by
  unfold OrdGoal
  have HAB := Lib.hid (fun W => compare_any ⟨ak, an, at'⟩ ⟨bk, bn, bt⟩ W)
  have HBC := Lib.hid (fun W => compare_any ⟨bk, bn, bt⟩ ⟨ck, cn, ct⟩ W)
  have HAC := Lib.hid (fun W => compare_any ⟨ak, an, at'⟩ ⟨ck, cn, ct⟩ W)
  have HBA := Lib.hid (fun W => compare_any ⟨bk, bn, bt⟩ ⟨ak, an, at'⟩ W)
  have HAA := Lib.hid (fun W => compare_any ⟨ak, an, at'⟩ ⟨ak, an, at'⟩ W)
  rw [cmpK_neg ⟨bk, bn, bt⟩ ⟨ak, an, at'⟩] at HBA
  rw [cmpK_refl ⟨ak, an, at'⟩] at HAA
  rw [hx] at HAB HBA
  rw [hy] at HBC
  rw [hz] at HAC
  have H0 := Lib.hid (K3.begin w ⟨ak, an, at'⟩ ⟨bk, bn, bt⟩ ⟨ck, cn, ct⟩)
  have HE := Lib.hid hE
  have HC : Hid (∀ W, K3 w w.heap.size ⟨ak, an, at'⟩ ⟨bk, bn, bt⟩ ⟨ck, cn, ct⟩ W → W.cell? ⟨w.heap.size, 0, none⟩ = some (.int .i64 ak) ∧ W.cell? ⟨w.heap.size, 1, none⟩ = some (.int .i64 an) ∧ W.cell? ⟨w.heap.size, 2, none⟩ = some (textV at') ∧ W.cell? ⟨w.heap.size + 1, 0, none⟩ = some (.int .i64 bk) ∧ W.cell? ⟨w.heap.size + 1, 1, none⟩ = some (.int .i64 bn) ∧ W.cell? ⟨w.heap.size + 1, 2, none⟩ = some (textV bt) ∧ W.cell? ⟨w.heap.size + 2, 0, none⟩ = some (.int .i64 ck) ∧ W.cell? ⟨w.heap.size + 2, 1, none⟩ = some (.int .i64 cn) ∧ W.cell? ⟨w.heap.size + 2, 2, none⟩ = some (textV ct)) := fun W h => h.cells
  obtain ⟨ta, hta⟩ : ∃ t, t = ByteArray.mk at'.toArray := ⟨_, rfl⟩
  obtain ⟨tb, htb⟩ : ∃ t, t = ByteArray.mk bt.toArray := ⟨_, rfl⟩
  obtain ⟨tc, htc⟩ : ∃ t, t = ByteArray.mk ct.toArray := ⟨_, rfl⟩
  have va : textV at' = .string ta := by rw [hta]; rfl
  have vb : textV bt = .string tb := by rw [htb]; rfl
  have vc : textV ct = .string tc := by rw [htc]; rfl
  have ia : ta.toList = at' := by rw [hta]; exact text_list at'
  have ib : tb.toList = bt := by rw [htb]; exact text_list bt
  subst hx1
  subst hk; subst hn; subst hd
  obtain rfl : ta = tb := by rw [hta, htb]
  unfold keyV at HAB HBC HAC HBA HAA
  dsimp only at HAB HBC HAC HBA HAA H0 ⊢
  simp only [va, vb, vc] at HAB HBC HAC HBA HAA H0 HC ⊢
  clear hx hy hz hE hta htb htc va vb vc ia ib
  go_enter Tryd.func8, Tryd.ntmps8
  go_upto_region 1 with (fail)
  generalize ((w.alloc _).alloc _).alloc _ = W1 at H0 ⊢
  obtain ⟨N, hN⟩ : ∃ N, N = w.heap.size := ⟨_, rfl⟩
  rw [← hN] at H0 HC ⊢
  obtain ⟨a0, a1, a2, b0, b1, b2, c0, c1, c2⟩ := HC.out _ H0.out
  clear hN
  go_wp2_with fail
  refine (HAB.out _).mono ?_
  rintro e W2 ⟨rfl, h2⟩
  have H2 := Lib.hid (H0.out.on h2)
  clear h2 H0 a0 a1 a2 b0 b1 b2 c0 c1 c2 HAB
  obtain ⟨a0, a1, a2, b0, b1, b2, c0, c1, c2⟩ := HC.out _ H2.out
  go_wp2_with fail
  refine (HBC.out _).mono ?_
  rintro e W3 ⟨rfl, h3⟩
  have H3 := Lib.hid (H2.out.on h3)
  clear h3 H2 a0 a1 a2 b0 b1 b2 c0 c1 c2 HBC
  obtain ⟨a0, a1, a2, b0, b1, b2, c0, c1, c2⟩ := HC.out _ H3.out
  go_wp2_with fail
  refine (HAC.out _).mono ?_
  rintro e W4 ⟨rfl, h4⟩
  have H4 := Lib.hid (H3.out.on h4)
  clear h4 H3 a0 a1 a2 b0 b1 b2 c0 c1 c2 HAC
  obtain ⟨a0, a1, a2, b0, b1, b2, c0, c1, c2⟩ := HC.out _ H4.out
  go_wp2_with fail
  refine (HBA.out _).mono ?_
  rintro e W5 ⟨rfl, h5⟩
  have H5 := Lib.hid (H4.out.on h5)
  clear h5 H4 a0 a1 a2 b0 b1 b2 c0 c1 c2 HBA
  obtain ⟨a0, a1, a2, b0, b1, b2, c0, c1, c2⟩ := HC.out _ H5.out
  go_wp2_with fail
  refine (HAA.out _).mono ?_
  rintro e W6 ⟨rfl, h6⟩
  have H6 := Lib.hid (H5.out.on h6)
  clear h6 H5 a0 a1 a2 b0 b1 b2 c0 c1 c2 HAA
  obtain ⟨a0, a1, a2, b0, b1, b2, c0, c1, c2⟩ := HC.out _ H6.out
  clear a1 a2 b1 b2 c0 c1 c2 HC
  have HAW := Lib.hid (awake_any W6 (HE.out.bw H6.out.bw))
  go_wp2_with (go_at_call 13; refine HAW.out.mono ?_; rintro e W7 ⟨rfl, h7⟩)
  all_goals
    go_ret
    exact ⟨ret_bool (by simp), H6.out.bw.trans h7⟩
theorem order_any (a b c : PKey) (w : World) (hE : Env w) : Calls Tryd.prog 8 #[keyV a, keyV b, keyV c] w (TrueB w) := by
  show OrdGoal a b c w
  obtain ⟨ak, an, at'⟩ := a
  obtain ⟨bk, bn, bt⟩ := b
  obtain ⟨ck, cn, ct⟩ := c
  obtain ⟨x, hx⟩ : ∃ x, cmpK ⟨ak, an, at'⟩ ⟨bk, bn, bt⟩ = x := ⟨_, rfl⟩
  obtain ⟨y, hy⟩ : ∃ y, cmpK ⟨bk, bn, bt⟩ ⟨ck, cn, ct⟩ = y := ⟨_, rfl⟩
  obtain ⟨z, hz⟩ : ∃ z, cmpK ⟨ak, an, at'⟩ ⟨ck, cn, ct⟩ = z := ⟨_, rfl⟩
  have r1 := cmpK_range ⟨ak, an, at'⟩ ⟨bk, bn, bt⟩
  have r2 := cmpK_range ⟨bk, bn, bt⟩ ⟨ck, cn, ct⟩
  have r3 := cmpK_range ⟨ak, an, at'⟩ ⟨ck, cn, ct⟩
  have tr := cmpK_trans ⟨ak, an, at'⟩ ⟨bk, bn, bt⟩ ⟨ck, cn, ct⟩
  have hk : ak < bk → cmpK ⟨ak, an, at'⟩ ⟨bk, bn, bt⟩ = -1 := cmpK_kind (a := ⟨ak, an, at'⟩) (b := ⟨bk, bn, bt⟩)
  have h0 := cmpK_zero ⟨ak, an, at'⟩ ⟨bk, bn, bt⟩
  rw [hx] at r1 tr hk h0
  rw [hy] at r2 tr
  rw [hz] at r3 tr
  have hkk : x = 1 → bk ≤ ak := fun h => by
    by_cases e : ak < bk
    · have := hk e; omega
    · omega
  have hyy : y = 1 ∨ y ≤ 0 := by omega
  by_cases e1 : ak = bk
  · by_cases e2 : an = bn
    · by_cases e3 : at' = bt
      · have hx0 : x = 0 := h0.2 (by rw [e1, e2, e3])
        rcases hyy with hy1 | hy0
        · exact ord_s_eq1 _ _ _ _ _ _ _ _ _ _ _ _ w hE hx hy hz e1 e2 e3 hx0 hy1
        · exact ord_s_eq0 _ _ _ _ _ _ _ _ _ _ _ _ w hE hx hy hz e1 e2 e3 hx0 hy0 (by have := tr (by omega) hy0; exact this.1)
      · have hx0 : x ≠ 0 := fun h => e3 (by have := h0.1 h; injection this)
        rcases r1 with h | h | h
        · rcases hyy with hy1 | hy0
          · exact ord_t_dn1 _ _ _ _ _ _ _ _ _ _ _ _ w hE hx hy hz e1 e2 e3 h hy1
          · exact ord_t_dn0 _ _ _ _ _ _ _ _ _ _ _ _ w hE hx hy hz e1 e2 e3 h hy0 (by have := (tr (by omega) hy0).2 (.inl (by omega)); omega)
        · exact absurd h hx0
        · exact ord_t_up _ _ _ _ _ _ _ _ _ _ _ _ w hE hx hy hz e1 e2 e3 h (hkk h)
    · have hx0 : x ≠ 0 := fun h => e2 (by have := h0.1 h; injection this)
      rcases r1 with h | h | h
      · rcases hyy with hy1 | hy0
        · exact ord_n_dn1 _ _ _ _ _ _ _ _ _ _ _ _ w hE hx hy hz e1 e2 h hy1
        · exact ord_n_dn0 _ _ _ _ _ _ _ _ _ _ _ _ w hE hx hy hz e1 e2 h hy0 (by have := (tr (by omega) hy0).2 (.inl (by omega)); omega)
      · exact absurd h hx0
      · exact ord_n_up _ _ _ _ _ _ _ _ _ _ _ _ w hE hx hy hz e1 e2 h (hkk h)
  · have hx0 : x ≠ 0 := fun h => e1 (by have := h0.1 h; injection this)
    rcases r1 with h | h | h
    · rcases hyy with hy1 | hy0
      · exact ord_k_dn1 _ _ _ _ _ _ _ _ _ _ _ _ w hE hx hy hz e1 h hy1
      · exact ord_k_dn0 _ _ _ _ _ _ _ _ _ _ _ _ w hE hx hy hz e1 h hy0 (by have := (tr (by omega) hy0).2 (.inl (by omega)); omega)
    · exact absurd h hx0
    · exact ord_k_up _ _ _ _ _ _ _ _ _ _ _ _ w hE hx hy hz e1 h (hkk h)
end Go.Proofs.YtghghekdheeknaaDoor
