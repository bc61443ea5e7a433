/- pack.Get: the walk. -/
import Derived.Test.YtdoliejihinpkaaPackN
namespace Go.Proofs.Ytdoliejihinpkaa
open Go.RowKit Go.Maps Go.Shelf
attribute [local go_sem] Oper.semAt_some

theorem Src.front {w : World} {ao : Option Addr} {n cap : Nat} {xs : List Value} (h : Src w (.slice ao n cap) xs) {m : Nat} (hm : m ≤ n) : Src w (.slice ao m cap) (xs.take m) := by
  rcases h with ⟨ao', c', e, e2, h5, h6⟩ | ⟨b', off', c, hv, h1, h2, h3, h4⟩
  · subst e2
    injection e with e1 e3 e4
    have : m = 0 := by omega
    subst this; subst e1; subst e4
    exact .inl ⟨_, _, rfl, rfl, h5, h6⟩
  · injection hv with e1 e3 e4
    subst e1; subst e3; subst e4
    have hl : (xs.take m).length = m := by rw [List.length_take]; omega
    refine .inr ⟨b', off', cap, by rw [hl], by rw [hl]; omega, h2, h3, fun k u hu => ?_⟩
    rw [List.getElem?_take] at hu
    split at hu
    · exact h4 _ u hu
    · cases hu
/-- a reader stays where blocks that are no cells turn -/
theorem Rd.own {W W' : World} {r c : Nat} {l : List UInt8} {e : Int} (h : Rd W r c l e) {row : Option Nat} (hg : W.grownBy W' row) (hr : ∀ k, row = some k → ∃ o, W.heap[k]? = some o ∧ o.isCells = false) : Rd W' r c l e := by
  obtain ⟨⟨v, a1, a2, a3⟩, b1, b3, b2⟩ := h
  have hkeep : ∀ (b : Nat) (cs : Array Value) (t : TypeId) (fr : Nat × Nat), W.heap[b]? = some (Obj.cells cs t fr) → W'.heap[b]? = W.heap[b]? := by
    intro b cs t fr hb
    refine hg.block b (lt_of_heap hb) fun e => ?_
    obtain ⟨o, ho, hc⟩ := hr b e.symm
    rw [hb] at ho; cases ho; cases hc
  refine ⟨⟨v, (hkeep _ _ _ _ a1).trans a1, a2.keep hg.size ?_, a3⟩, b1, Nat.lt_of_lt_of_le b3 hg.size, b2⟩
  intro hne a n k hv
  rcases a2 with ⟨_, _, _, h, _⟩ | ⟨b, off, cap, hv', _, _, h3, h4⟩
  · exact absurd h hne
  · rw [hv'] at hv; cases hv
    obtain ⟨u, hu⟩ : ∃ u, (l.map bV)[0]? = some u := by
      cases hl : l.map bV with
      | nil => exact absurd hl hne
      | cons u t => exact ⟨u, rfl⟩
    have hc := h4 0 u hu
    unfold World.cell? at hc
    cases ho : W.heap[b]? with
    | none => simp only [ho] at hc; cases hc
    | some o =>
      simp only [ho] at hc
      cases o with
      | cells cs t fr => exact (hkeep _ _ _ _ ho).trans ho
      | _ => cases hc

/-- between two blocks -/
structure GetI (bs : List UInt8) (n : Nat) (w : World) (B7 r c : Nat) (pre : List (Blk n)) (W : World) : Prop where
  ex : ∃ d p v, posR bs pre = some (d, p) ∧ Boxed W (B7 + 1) 41 v ∧ W.ownsRow B7 2 1 v d.length (d.map iV) ∧ Rd W r c (bs.drop p) 0
  b7 : Boxed W B7 67 (.pointer (some ⟨r, 0, none⟩))
  b9 : Boxed W (B7 + 1 + 1) 3 (.int .i64 (n : Int))
  b4 : Boxed W w.heap.size 41 (.slice none 0 0)
  b5 : Boxed W (w.heap.size + 1) 3 (.int .i64 0)
  b6 : Boxed W (w.heap.size + 1 + 1) 28 (.int .i64 0)
  bw : RowKit.Below w.heap.size w W
theorem Rd.grow {W W' : World} {r c : Nat} {l : List UInt8} {e : Int} (h : Rd W r c l e) {row : Option Nat} (hg : W.grownBy W' row) (hr : ∀ k, row = some k → k ≠ r ∧ k ≠ c) : Rd W' r c l e :=
  h.keep hg.size (hg.block r h.ltr (fun e => (hr r e.symm).1 rfl)) (fun hc => hg.block c hc (fun e => (hr c e.symm).2 rfl))
structure GetX (bs : List UInt8) (n : Nat) (w : World) (pre : List (Blk n)) (W : World) : Prop where
  no : posR bs pre = none
  b4 : Boxed W w.heap.size 41 (.slice none 0 0)
  b5 : Boxed W (w.heap.size + 1) 3 (.int .i64 0)
  b6 : Boxed W (w.heap.size + 1 + 1) 28 (.int .i64 20)
  bw : RowKit.Below w.heap.size w W
theorem box_own {W W' : World} {B : Nat} {t : TypeId} {v : Value} (h : Boxed W B t v) {row : Option Nat} (hg : W.grownBy W' row) (hr : ∀ k, row = some k → ∃ o, W.heap[k]? = some o ∧ o.isCells = false) : Boxed W' B t v :=
  h.kept hg fun e => by
    obtain ⟨o, ho, hc⟩ := hr B e.symm
    rw [show W.heap[B]? = _ from h] at ho; cases ho; cases hc
theorem row_turn {W W' : World} {base : Nat} {e : TypeId} {n : Nat} {v : Value} {xs : List Value} (h : W.ownsRow base e 1 v n xs) {row : Option Nat} (hg : W.grownBy W' row) (hr : ∀ k, row = some k → ∃ o, W.heap[k]? = some o ∧ o.isCells = false) : W'.ownsRow base e 1 v n xs := by
  refine h.kept hg ?_
  rcases h.2 with ⟨rfl, _⟩ | ⟨g, cap, cur, rfl, _, hgb, _⟩
  · exact .inl rfl
  · refine .inr fun e' => ?_
    obtain ⟨o, ho, hc⟩ := hr g (by simpa [Value.ownBlock] using e'.symm)
    rw [hgb] at ho; cases ho; cases hc
theorem getI_own {bs : List UInt8} {n : Nat} {w : World} {B7 r c B : Nat} (hB : w.heap.size ≤ B) : OwnFrom B (GetI bs n w B7 r c) := by
  intro pre W W' row hs hg hr
  have hr2 : ∀ k, row = some k → ∃ o, W.heap[k]? = some o ∧ o.isCells = false := fun k e => (hr k e).2
  obtain ⟨d, p, v, h1, h2, h3, h4⟩ := hs.ex
  exact ⟨⟨d, p, v, h1, box_own h2 hg hr2, row_turn h3 hg hr2, h4.own hg hr2⟩, box_own hs.b7 hg hr2, box_own hs.b9 hg hr2, box_own hs.b4 hg hr2, box_own hs.b5 hg hr2, box_own hs.b6 hg hr2, hs.bw.grown hg hs.bw.size (fun k e => by have := (hr k e).1; omega)⟩
theorem getX_own {bs : List UInt8} {n : Nat} {w : World} {B : Nat} (hB : w.heap.size ≤ B) (c : Code) : OwnFrom B (fun (pre : List (Blk n)) W => c = .ret ∧ GetX bs n w pre W) := by
  rintro pre W W' row ⟨h0, hs⟩ hg hr
  have hr2 : ∀ k, row = some k → ∃ o, W.heap[k]? = some o ∧ o.isCells = false := fun k e => (hr k e).2
  exact ⟨h0, hs.no, box_own hs.b4 hg hr2, box_own hs.b5 hg hr2, box_own hs.b6 hg hr2, hs.bw.grown hg hs.bw.size (fun k e => by have := (hr k e).1; omega)⟩

set_option maxRecDepth 100000 in
set_option maxHeartbeats 4000000 in
theorem get_any {w : World} {v : Value} {bs : List UInt8} (h : Src w v (bs.map bV)) (n : Nat) (hn : n ≤ 1048576) : Calls Try.prog 27 #[v, .int .i64 (n : Int)] w (GetPost w bs n) := by
  obtain ⟨ao, cap, rfl⟩ := h.len
  rw [List.length_map] at h ⊢
  have H2 := Lib.hid (fun w => isLength_any (n : Int) w (by omega) (by omega))
  have HD2 := Lib.hid (show decide (0 ≤ (n : Int) ∧ (n : Int) ≤ 1048576) = true from decide_eq_true (by omega))
  have HMB := Lib.hid (fun w => mostBytes_any n w hn)
  obtain ⟨M, hM⟩ : ∃ M, M = 11 * ((n + 127) / 128) + 8 * n := ⟨_, rfl⟩
  have hMb : M ≤ 9000000 := by omega
  rw [← hM] at HMB
  have hcut : getP (bs.take M) n = getP bs n := get_cut (by omega)
  have HCUT := Lib.hid hcut
  obtain ⟨bl, hbl⟩ : ∃ bl, bl = bs.length := ⟨_, rfl⟩
  rw [← hbl] at h ⊢
  have hblc : bl ≤ cap ∧ (cap : Int) ≤ 9223372036854775807 := by
    rcases h with ⟨ao', c', e, e2, h5, h6⟩ | ⟨b', off', c, hv, h1, h2, h3, h4⟩
    · injection e with _ e1 e3; omega
    · injection hv with _ e1 e3; omega
  obtain ⟨bm, hbm⟩ : ∃ bm, bm = min bl M := ⟨_, rfl⟩
  have hfr := h.front (m := bm) (by omega)
  have hbs : bs.take bm = bs.take M := by
    rw [hbm, hbl]; simp; omega
  rw [← List.map_take, hbs] at hfr
  obtain ⟨b2, hb2⟩ : ∃ b2, b2 = bs.take M := ⟨_, rfl⟩
  have hl2 : b2.length = bm := by rw [hb2, List.length_take]; omega
  rw [← hb2] at hfr hcut HCUT
  have HFR := Lib.hid hfr
  have HL2 := Lib.hid hl2
  have hmin : min (bl : Int) (M : Int) = (bm : Int) := by omega
  have hbmc : (bm : Int) ≤ (cap : Int) := by omega
  have hbmc2 : bm ≤ cap := by omega
  have hbm0 : 0 ≤ (bm : Int) := by omega
  have HBM : Hid (bm ≤ 9000000) := by unfold Hid; omega
  have HN := Lib.hid hn
  clear h hM hMb hcut hbl hbm hfr hbs hb2 hl2 hn hblc
  refine (callsIn_wide (n := 5)).1 ?_
  refine callsIn_of_wp_marks Try.func27 rfl trivial ?_ rfl
  simp only [Try.ntmps27, List.size_toArray, List.length_cons, List.length_nil, Nat.reduceAdd, Nat.reduceSub, Array.replicate_succ, Array.replicate_zero, List.push_toArray, List.append_toArray, List.nil_append, List.cons_append]
  refine wpIn_wide.2 ?_
  go_wp2_with (first | (go_at_call 36; refine (H2.out _).mono ?_; rintro e w' ⟨rfl, rfl⟩; rw [HD2.out]) | (go_at_call 42; refine (HMB.out _).mono ?_; rintro e w' ⟨rfl, rfl⟩))
  have HB0 : Hid (BW w (((w.alloc (.cells #[.slice none 0 0] 41)).alloc (.cells #[.int .i64 0] 3)).alloc (.cells #[.int .i64 0] 28))) := (((BW.refl w).alloc _).alloc _).alloc _
  have HNEW := Lib.hid (new_any (HFR.out.below HB0.out) (by rw [HL2.out]; have := HBM.out; omega))
  have b4 := ((Boxed.new w 41 (.slice none 0 0)).alloc (.cells #[.int .i64 0] 3)).alloc (.cells #[.int .i64 0] 28)
  have b5 := (Boxed.new (w.alloc (.cells #[.slice none 0 0] 41)) 3 (.int .i64 0)).alloc (.cells #[.int .i64 0] 28)
  have b6 := Boxed.new ((w.alloc (.cells #[.slice none 0 0] 41)).alloc (.cells #[.int .i64 0] 3)) 28 (.int .i64 0)
  simp only [World.size_alloc] at b5 b6
  refine HNEW.out.mono ?_
  rintro e w1 ⟨r, c, rfl, hr1, hc1, hrd, hb1⟩
  have hb1' := hb1
  have B4 := Lib.hid (show Boxed w1 w.heap.size 41 (.slice none 0 0) from (hb1.block _ b4.lt).trans b4)
  have B5 := Lib.hid (show Boxed w1 (w.heap.size + 1) 3 (.int .i64 0) from (hb1.block _ b5.lt).trans b5)
  have B6 := Lib.hid (show Boxed w1 (w.heap.size + 1 + 1) 28 (.int .i64 0) from (hb1.block _ b6.lt).trans b6)
  have HB1 := Lib.hid (HB0.out.trans hb1)
  have HRD := Lib.hid hrd
  have HR1 : Hid (w.heap.size + 1 + 1 + 1 ≤ r ∧ w.heap.size + 1 + 1 + 1 ≤ c) := by
    unfold Hid
    simp only [World.size_alloc] at hr1 hc1
    exact ⟨hr1, hc1⟩
  have HS1 := Lib.hid (show w.heap.size + 1 + 1 < w1.heap.size from B6.out.lt)
  clear b4 b5 b6 hb1 hb1' hrd hr1 hc1
  unfold ptr
  go_wp2_with (go_at_call 39; refine (blocks_in _ _).mono ?_; rintro e w' ⟨rfl, rfl⟩)
  have b7 := ((Boxed.new w1 67 (.pointer (some ⟨r, 0, none⟩))).alloc (.cells #[.slice none 0 0] 41)).alloc (.cells #[.int .i64 (n : Int)] 3)
  have b8 := (Boxed.new (w1.alloc (.cells #[.pointer (some ⟨r, 0, none⟩)] 67)) 41 (.slice none 0 0)).alloc (.cells #[.int .i64 (n : Int)] 3)
  have b9 := Boxed.new ((w1.alloc (.cells #[.pointer (some ⟨r, 0, none⟩)] 67)).alloc (.cells #[.slice none 0 0] 41)) 3 (.int .i64 (n : Int))
  simp only [World.size_alloc] at b8 b9
  have HBA : Hid (BW w1 (((w1.alloc (.cells #[.pointer (some ⟨r, 0, none⟩)] 67)).alloc (.cells #[.slice none 0 0] 41)).alloc (.cells #[.int .i64 (n : Int)] 3))) := (((BW.refl w1).alloc _).alloc _).alloc _
  have HI0 : Hid (GetI b2 n w w1.heap.size r c [] (((w1.alloc (.cells #[.pointer (some ⟨r, 0, none⟩)] 67)).alloc (.cells #[.slice none 0 0] 41)).alloc (.cells #[.int .i64 (n : Int)] 3))) :=
    ⟨⟨[], 0, _, rfl, b8, World.ownsRow_nil _ _ _ _, by rw [List.drop_zero]; exact HRD.out.below HBA.out⟩, b7, b9, (HBA.out.block _ B4.out.lt).trans B4.out, (HBA.out.block _ B5.out.lt).trans B5.out, (HBA.out.block _ B6.out.lt).trans B6.out, HB1.out.trans HBA.out⟩
  have hsz : w.heap.size ≤ (((w1.alloc (.cells #[.pointer (some ⟨r, 0, none⟩)] 67)).alloc (.cells #[.slice none 0 0] 41)).alloc (.cells #[.int .i64 (n : Int)] 3)).heap.size := HI0.out.bw.size
  refine (wpIn_wide (n := 5)).1 ?_
  refine wpIn_rangeFunc_ownG rfl (by omega) (gf := 48) (lb := #[.pointer (some ⟨w1.heap.size + 1 + 1, 0, none⟩)]) rfl trivial (enters_of Try.func48 (by kernel_rfl) rfl)
    (blocks_stops n HN.out _ (w1.heap.size + 1 + 1) (by omega) _ (by simp) b9.cell) (fun h k => k.trans h) (kpB_b (by simp)) (RowKit.Below.refl _ _) (fun _ => rfl)
    (GetI b2 n w w1.heap.size r c) (fun c0 pre W => c0 = .ret ∧ GetX b2 n w pre W) (getI_own hsz) (getX_own hsz) HI0.out
    (fun x => { tmps := #[.slice ao bm cap, .int .i64 (n : Int), undef, undef, .pointer (some ⟨w.heap.size, 0, none⟩), .pointer (some ⟨w.heap.size + 1, 0, none⟩), .pointer (some ⟨w.heap.size + 1 + 1, 0, none⟩), .pointer (some ⟨w1.heap.size, 0, none⟩), .pointer (some ⟨w1.heap.size + 1, 0, none⟩), .int .i64 (x.1.1 : Int), .int .i64 (x.1.2 : Int), undef, undef,
          Value.int IntKind.i64 ↑n, Value.bool true, Value.bool false, Value.slice ao bl cap, Value.slice ao bl cap,
          Value.int IntKind.i64 ↑bl, Value.int IntKind.i64 ↑n, Value.int IntKind.i64 ↑M, Value.int IntKind.i64 ↑bm,
          Value.slice ao bm cap, Value.slice ao bm cap, .pointer (some ⟨r, 0, none⟩),
          Value.int IntKind.i64 ↑n, .func (.func 48) #[] #[.pointer (some ⟨w1.heap.size + 1 + 1, 0, none⟩)], .int .i64 (x.1.1 : Int), .int .i64 (x.1.2 : Int),
          undef, undef, undef, undef, undef, undef, undef, undef, undef, undef, undef, undef, undef, undef, undef, undef, undef, undef, undef], defers := [] }) ?assign ?body ?done ?stop
  case assign =>
    intro l1 x W K hK
    dsimp only [encB]
    gi_wp2
    exact hK
  case body =>
    rintro l1 pre x W hI hlt
    obtain ⟨d, p, v, hp, hv, hrow, hrd2⟩ := hI.ex
    have hxp := x.2
    obtain ⟨xa, hxa⟩ : ∃ a, a = x.1.1 := ⟨_, rfl⟩
    obtain ⟨xb, hxb⟩ : ∃ b, b = x.1.2 := ⟨_, rfl⟩
    rw [← hxa, ← hxb] at hxp ⊢
    obtain ⟨hab, hbn, hbl⟩ := hxp
    obtain ⟨k, hk⟩ : ∃ k, k = xb - xa := ⟨_, rfl⟩
    have hki : (xb : Int) - (xa : Int) = (k : Int) := by omega
    have hwk : IntKind.i64.wrap (k : Int) = (k : Int) := IntWalk.i64_in _ (by omega)
    have hpl := (posR_some hp).2
    have HRB := Lib.hid (readBlock_any hrd2 k (by omega) (by omega))
    have HST : Hid (posR b2 (pre ++ [x]) = (readP (b2.drop p) k).map fun q => (d ++ q.1, p + q.2)) := by
      unfold Hid
      rw [posR_snoc, hp]; unfold stepR; rw [Option.bind_some, hk, hxa, hxb]
    have HI := Lib.hid hI; have HV := Lib.hid hv; have HROW := Lib.hid hrow
    have hrlt : r < w1.heap.size := HRD.out.ltr
    have HR4 : Hid (r ≠ w.heap.size ∧ r ≠ w.heap.size + 1 ∧ r ≠ w.heap.size + 1 + 1 ∧ r ≠ w1.heap.size ∧ r ≠ w1.heap.size + 1 ∧ r ≠ w1.heap.size + 1 + 1 ∧ w.heap.size ≤ r) := by unfold Hid; have := HR1.out; omega
    have HDL : Hid (d.length ≤ 1048576 + 128) := by unfold Hid; have := HN.out; omega
    have c7 := hI.b7.cell
    clear hp hv hrow hrd2 hxa hxb hI hk hpl
    have HAFT : Hid (∀ W1, Moves (fun b => b = r) W W1 → Boxed W1 (w1.heap.size + 1) 41 v ∧ Boxed W1 w1.heap.size 67 (.pointer (some ⟨r, 0, none⟩)) ∧ Boxed W1 (w1.heap.size + 1 + 1) 3 (.int .i64 (n : Int)) ∧ Boxed W1 w.heap.size 41 (.slice none 0 0) ∧ Boxed W1 (w.heap.size + 1) 3 (.int .i64 0) ∧ Boxed W1 (w.heap.size + 1 + 1) 28 (.int .i64 0) ∧
        Hid (RowKit.Below w.heap.size w W1 ∧ KeepsOthers W W1 ∧ KpB (w1.heap.size + 1 + 1) W W1 ∧ W1.ownsRow w1.heap.size 2 1 v d.length (d.map iV))) := by
      intro W1 hm
      have hb : ∀ {B : Nat} {t : TypeId} {u : Value}, Boxed W B t u → r ≠ B → Boxed W1 B t u := fun h hne => (hm.block _ h.lt (fun e => hne e.symm)).trans h
      have hr4 := HR4.out
      refine ⟨hb HV.out hr4.2.2.2.2.1, hb HI.out.b7 hr4.2.2.2.1, hb HI.out.b9 hr4.2.2.2.2.2.1, hb HI.out.b4 hr4.1, hb HI.out.b5 hr4.2.1, hb HI.out.b6 hr4.2.2.1, ?_, ?_, ?_, ?_⟩
      · exact HI.out.bw.trans (hm.below (fun k e => by omega) HI.out.bw.size)
      · refine ⟨hm.size, fun k o hk ho => ?_⟩
        by_cases e : k = r
        · obtain ⟨d', p', v', _, _, _, hrd'⟩ := HI.out.ex
          obtain ⟨xx, hxx, _⟩ := hrd'.ex
          rw [e, show W.heap[r]? = _ from hxx] at hk
          cases hk; cases ho
        · exact (hm.block k (Array.getElem?_eq_some_iff.1 hk).1 e).trans hk
      · exact hm.block _ HI.out.b9.lt (fun e => hr4.2.2.2.2.2.1 e.symm)
      · refine row_keep HROW.out fun a nn cc e => hm.block _ (row_lt HROW.out e) (fun e2 => ?_)
        obtain ⟨d', p', v', _, _, _, hrd'⟩ := HI.out.ex
        obtain ⟨xx, hxx, _⟩ := hrd'.ex
        rcases HROW.out.2 with ⟨e3, _⟩ | ⟨g, cp, cur, hv', _, hgb, _⟩
        · rw [e3] at e; cases e
        · rw [hv'] at e; cases e
          rw [show g = r from e2, show W.heap[r]? = _ from hxx] at hgb
          cases hgb
    have HCASE : Hid (∀ (W1 : World) (v5 : Value) (ok : Bool), ((∃ y m, readP (b2.drop p) k = some (y, m) ∧ ok = true ∧ W1.ownsRow W.heap.size 2 1 v5 y.length (y.map iV) ∧ Rd W1 r c ((b2.drop p).drop m) 0) ∨ (readP (b2.drop p) k = none ∧ ok = false)) →
        (∃ y m g5 c5, v5 = .slice (some ⟨g5, 0, none⟩) y.length c5 ∧ ok = true ∧ Hid (readP (b2.drop p) k = some (y, m) ∧ W1.ownsRow W.heap.size 2 1 (.slice (some ⟨g5, 0, none⟩) y.length c5) y.length (y.map iV) ∧ Rd W1 r c (b2.drop (p + m)) 0) ∧
          Hid ((y.map iV).length = y.length * 1 ∧ (∀ j u, (y.map iV)[j]? = some u → W1.cell? ((⟨g5, 0, none⟩ : Addr).add j) = some u) ∧ (∀ u ∈ y.map iV, u.oneCell' = true) ∧ d.length + y.length ≤ maxLen ∧ (d.length + y.length) * 8 ≤ 140737488355328)) ∨ (ok = false ∧ Hid (readP (b2.drop p) k = none))) := by
      rintro W1 v5 ok (⟨y, m, hy, rfl, ho5, hr5⟩ | ⟨hno, rfl⟩)
      · left
        have hyl := (read_some hy).1
        obtain ⟨h1, h2 | ⟨g, cp, cur, hv', hg, hh, hn', hc', hcs', htk⟩⟩ := id ho5
        · exact absurd h2.2 (by omega)
        · subst hv'
          refine ⟨y, m, g, cp, rfl, rfl, ⟨hy, ho5, by rw [← List.drop_drop]; exact hr5⟩, by simp, fun j u hu => ?_, ?_, ?_, ?_⟩
          · obtain ⟨hj, he⟩ := List.getElem?_eq_some_iff.1 hu
            have := (row_cell ho5 rfl hj).1
            rw [he] at this
            by_cases e0 : j = 0
            · subst e0; simpa [Addr.add] using this
            · simpa [Addr.add, e0] using this
          · intro u hu
            obtain ⟨z, _, rfl⟩ := List.mem_map.1 hu
            rfl
          · have := HDL.out; unfold maxLen; omega
          · have := HDL.out; omega
      · exact .inr ⟨rfl, hno⟩
    obtain ⟨i0, hi, hz0, hz1, hz2⟩ := infoOf info_i64
    have HI0' := Lib.hid hi; have HZ0 := Lib.hid hz0; have HZ1 := Lib.hid hz1; have HZ2 := Lib.hid hz2
    clear hi hz0 hz1 hz2
    gi_wp2_with (first | (refine ⟨trivial, ?_⟩; gi_at_call 44; refine (calls_in HRB.out).mono ?_; rintro e W1 ⟨v5, ok, rfl, hm, hcase⟩; obtain ⟨m8, m7, m9, m4, m5, m6, HM⟩ := HAFT.out W1 hm; have c8 := m8.cell; have f8 := m8.frozen; have c4 := m4.cell; have f4 := m4.frozen; have c5 := m5.cell; have f5 := m5.frozen; have c6 := m6.cell; have f6 := m6.frozen; have M8 := Lib.hid m8; have M7 := Lib.hid m7; have M9 := Lib.hid m9; have M4 := Lib.hid m4; have M5 := Lib.hid m5; have M6 := Lib.hid m6; have HMV := Lib.hid hm; clear m8 m7 m9 m4 m5 m6 hm; obtain (⟨y, m, g5, cc5, rfl, rfl, HY, HP5⟩ | ⟨rfl, HNO⟩) := HCASE.out W1 v5 ok hcase) | (gi_at_builtin; refine wpListIn_append_own _ rfl _ _ 41 rfl w1.heap.size 2 i0 (.int .i64 0) 1 8 Try.underlying41 HI0'.out HZ0.out HZ1.out HZ2.out rfl (by decide) v d.length (d.map iV) rfl HM.out.2.2.2 ⟨g5, 0, none⟩ y.length cc5 (y.map iV) rfl HP5.out.1 HP5.out.2.1 HP5.out.2.2.1 HP5.out.2.2.2.1 HP5.out.2.2.2.2 (Nat.le_of_lt M7.out.lt) ?_; intro v6 w6 ho6 hg6 _; have k8 := M8.out.kept hg6 (M8.out.not_row (by decide) HM.out.2.2.2); have c86 := k8.cell; have f86 := k8.frozen; have K8 := Lib.hid k8; have HO6 := Lib.hid ho6; have HG6 := Lib.hid hg6; clear k8; obtain ⟨o6, n6, cc6, rfl⟩ := row_form ho6; clear ho6 hg6))
    · have hs := HY.out
      have k8 := K8.out
      have hM7 := M7.out.kept HG6.out (M7.out.not_row (by decide) HM.out.2.2.2)
      have hM9 := M9.out.kept HG6.out (M9.out.not_row (by decide) HM.out.2.2.2)
      have hM4 := M4.out.kept HG6.out (M4.out.not_row (by decide) HM.out.2.2.2)
      have hM5 := M5.out.kept HG6.out (M5.out.not_row (by decide) HM.out.2.2.2)
      have hM6 := M6.out.kept HG6.out (M6.out.not_row (by decide) HM.out.2.2.2)
      have h17 := HS1.out
      have hr4 := HR4.out
      have hrow := HM.out.2.2.2
      have hclt : c < w1.heap.size := HRD.out.lt
      have hvr : ∀ b, v.ownBlock = some b → w1.heap.size ≤ b := by
        intro b hb
        obtain ⟨a, n1, c1, hv3, hab⟩ := own_some hb
        have := new_of_row hrow hv3
        omega
      have hso : ∀ k, (some (w1.heap.size + 1) : Option Nat) = some k → k ≠ r ∧ k ≠ c := by rintro k e; cases e; omega
      refine ⟨((HM.out.2.1.trans (KeepsOthers.of_grownBy HG6.out fun j o ej hj => ?_)).trans (KeepsOthers.setCell _ _ _)).from _, ?_, ⟨⟨d ++ y, p + m, _, ?_, k8.set _, ?_, ?_⟩, hM7.other (by omega) _, hM9.other (by omega) _, hM4.other (by omega) _, hM5.other (by omega) _, hM6.other (by omega) _, ?_⟩⟩
      · rcases hrow.2 with ⟨rfl, _⟩ | ⟨g, cp, cur, rfl, _, hgb, _⟩
        · simp [Value.ownBlock] at ej
        · obtain rfl : g = j := by simpa [Value.ownBlock] using ej
          rw [hgb] at hj; cases hj; rfl
      · exact (hM9.other (by omega) _ : Boxed _ _ _ _).trans HI.out.b9.symm
      · rw [HST.out, hs.1]; rfl
      · rw [List.map_append, List.length_append]
        exact HO6.out.kept (grownBy_setCell' w6 _ _) (.inr (k8.not_row (by decide) HO6.out).symm)
      · exact (hs.2.2.grow HG6.out (fun k e => by have := hvr k e; omega)).grow (grownBy_setCell' w6 _ _) hso
      · exact (HM.out.1.grown HG6.out HM.out.1.size (fun k e => by have := hvr k e; omega)).setCell (p := ⟨w1.heap.size + 1, 0, none⟩) (by show w.heap.size ≤ w1.heap.size + 1; omega) _
    · have h4 := M4.out; have h5 := M5.out; have h6 := M6.out
      refine ⟨(((HM.out.2.1.trans (KeepsOthers.setCell _ _ _)).trans (KeepsOthers.setCell _ _ _)).trans (KeepsOthers.setCell _ _ _)).from _, rfl, ⟨?_, ((h4.set _).other (by omega) _).other (by omega) _, ((h5.other (by omega) _).set _).other (by omega) _, ((h6.other (by omega) _).other (by omega) _).set _, ?_⟩⟩
      · rw [HST.out, HNO.out]; rfl
      · exact ((HM.out.1.setCell (p := ⟨w.heap.size, 0, none⟩) (Nat.le_refl _) _).setCell (p := ⟨w.heap.size + 1, 0, none⟩) (by simp) _).setCell (p := ⟨w.heap.size + 1 + 1, 0, none⟩) (by simp; omega) _
  case done =>
    rintro D ys W hD rfl hI hK
    obtain ⟨d, p, v, hp, hv, hrow, hrd2⟩ := hI.ex
    have HGET := Lib.hid ((HCUT.out).symm.trans (get_all.trans hp))
    have hpl := (posR_some hp).1
    obtain ⟨ra, rc, hrc, _, _⟩ := hrd2.form
    have hdl : (b2.drop p).length = bm - p := by rw [List.length_drop, HL2.out]
    rw [hdl] at hrc
    rw [HL2.out] at hpl
    obtain ⟨lf, hlf⟩ : ∃ lf, lf = bm - p := ⟨_, rfl⟩
    rw [← hlf] at hrc
    have hbl : (bm : Int) - (lf : Int) = (p : Int) := by omega
    have hwl : IntKind.i64.wrap (p : Int) = (p : Int) := IntWalk.i64_in _ (by have := HBM.out; omega)
    have HI := Lib.hid hI
    have HROW := Lib.hid hrow
    have HV := Lib.hid hv
    have HRC := Lib.hid hrc
    have hrB : r < w1.heap.size := HRD.out.ltr
    have hr4 : r ≠ w.heap.size ∧ r ≠ w.heap.size + 1 ∧ r ≠ w.heap.size + 1 + 1 := by have := HR1.out; omega
    have HLEFT : Hid (∀ w', RdC w' r (.slice ra lf rc) 0 → Calls Try.prog 45 #[.pointer (some ⟨r, 0, none⟩)] w' fun en w'' => en = .returned (.int .i64 (lf : Int)) ∧ w' = w'') := fun w' h => left_c h
    clear hI hrow hv hrc hrd2 hp hdl hlf
    go_wp2
    refine wp_region_noPanic ?_
    refine wp_region_held (S := fun W' => Boxed W' (w1.heap.size + 1) 41 v ∧ Boxed W' w1.heap.size 67 (.pointer (some ⟨r, 0, none⟩)) ∧ RdC W' r (.slice ra lf rc) 0) (by kernel_rfl) ?_
    change wpAnyH _ _ _ _ _ _ _ _ W.drew
    have hS0 : Boxed W.drew (w1.heap.size + 1) 41 v ∧ Boxed W.drew w1.heap.size 67 (.pointer (some ⟨r, 0, none⟩)) ∧ RdC W.drew r (.slice ra lf rc) 0 := ⟨HV.out, HI.out.b7, HRC.out⟩
    have HS0 := Lib.hid hS0
    clear hS0
    refine wpAnyH_take (i := 0) (v := v) rfl (by kernel_rfl) (by kernel_rfl) (by kernel_rfl) (fun _ _ _ h => h) (Or.inl ⟨by rfl, by intro w2 hS; have c8 := hS.1.cell; clear hS; go_simp⟩) HS0.out ?_
    try simp only [List.getElem_toArray, List.getElem_cons_zero, List.getElem_cons_succ, Act.put, List.setIfInBounds_toArray, List.set_cons_zero, List.set_cons_succ]
    refine wpAnyH_take (i := 1) (v := .slice ao bm cap) rfl (by kernel_rfl) (by kernel_rfl) (by kernel_rfl) (fun _ _ _ h => h) (Or.inl ⟨by rfl, by intro w2 hS; clear hS; go_simp⟩) HS0.out ?_
    try simp only [List.getElem_toArray, List.getElem_cons_zero, List.getElem_cons_succ, Act.put, List.setIfInBounds_toArray, List.set_cons_zero, List.set_cons_succ]
    refine wpAnyH_take (i := 2) (v := .int .i64 (bm : Int)) rfl (by kernel_rfl) (by kernel_rfl) (by kernel_rfl) (fun _ _ _ h => h) (Or.inl ⟨by rfl, by intro w2 hS; clear hS; go_simp⟩) HS0.out ?_
    try simp only [List.getElem_toArray, List.getElem_cons_zero, List.getElem_cons_succ, Act.put, List.setIfInBounds_toArray, List.set_cons_zero, List.set_cons_succ]
    refine wpAnyH_take (i := 3) (v := .pointer (some ⟨r, 0, none⟩)) rfl (by kernel_rfl) (by kernel_rfl) (by kernel_rfl) (fun _ _ _ h => h) (Or.inl ⟨by rfl, by intro w2 hS; have c7 := hS.2.1.cell; clear hS; go_simp⟩) HS0.out ?_
    try simp only [List.getElem_toArray, List.getElem_cons_zero, List.getElem_cons_succ, Act.put, List.setIfInBounds_toArray, List.set_cons_zero, List.set_cons_succ]
    refine wpAnyH_ready (rs := [4]) (by kernel_rfl) (by simp) ?_
    refine AllReadyH.cons rfl (fun K hK => ?_) AllReadyH.nil
    go_simp
    refine (HLEFT.out _ HS0.out.2.2).mono ?_
    rintro e w2 ⟨rfl, rfl⟩
    refine hK.out _ _ HS0.out (fun _ => ?_)
    clear hK K
    try simp only [List.getElem_toArray, List.getElem_cons_zero, List.getElem_cons_succ, Act.put, List.setIfInBounds_toArray, List.set_cons_zero, List.set_cons_succ]
    refine wpAnyH_take (i := 5) (v := .int .i64 (p : Int)) rfl (by kernel_rfl) (by kernel_rfl) (by kernel_rfl) (fun _ _ _ h => h) (Or.inl ⟨by rfl, by intro w2 hS; clear hS; go_simp⟩) HS0.out ?_
    try simp only [List.getElem_toArray, List.getElem_cons_zero, List.getElem_cons_succ, Act.put, List.setIfInBounds_toArray, List.set_cons_zero, List.set_cons_succ]
    have hB4 : Boxed W.drew w.heap.size 41 (.slice none 0 0) := HI.out.b4
    have hB5 : Boxed W.drew (w.heap.size + 1) 3 (.int .i64 0) := HI.out.b5
    have hB6 : Boxed W.drew (w.heap.size + 1 + 1) 28 (.int .i64 0) := HI.out.b6
    have HROW2 : Hid (W.drew.ownsRow w.heap.size 2 1 v d.length (d.map iV)) := row_base (w := W.drew) HROW.out (by have := HS1.out; omega)
    have HBW2 : Hid (RowKit.Below w.heap.size w W.drew) := HI.out.bw.trans (RowKit.Below.mono (drewN_below W 1) HI.out.bw.size)
    have HKD : Hid (W.drew.heap[D]? = some (.deferred (some []))) := hK
    have hS0 := HS0.out
    have h17 : w1.heap.size ≠ w.heap.size ∧ w1.heap.size ≠ w.heap.size + 1 ∧ w1.heap.size ≠ w.heap.size + 1 + 1 ∧ w1.heap.size + 1 ≠ w.heap.size ∧ w1.heap.size + 1 ≠ w.heap.size + 1 ∧ w1.heap.size + 1 ≠ w.heap.size + 1 + 1 := by have := HS1.out; omega
    obtain ⟨vo, vn, vc, rfl⟩ := row_form HROW2.out
    obtain ⟨W3, hW3⟩ : ∃ W3, W3 = W.drew.setCell ⟨w.heap.size, 0, none⟩ (.slice vo vn vc) := ⟨_, rfl⟩
    obtain ⟨W4, hW4⟩ : ∃ W4, W4 = W3.setCell ⟨w.heap.size + 1, 0, none⟩ (.int .i64 (p : Int)) := ⟨_, rfl⟩
    obtain ⟨W5, hW5⟩ : ∃ W5, W5 = W4.setCell ⟨w.heap.size + 1 + 1, 0, none⟩ (.int .i64 0) := ⟨_, rfl⟩
    have HS3 : Hid (Boxed W3 (w1.heap.size + 1) 41 (.slice vo vn vc) ∧ Boxed W3 w1.heap.size 67 (.pointer (some ⟨r, 0, none⟩)) ∧ RdC W3 r (.slice ra lf rc) 0) := by
      rw [hW3]; exact ⟨hS0.1.other (by omega) _, hS0.2.1.other (by omega) _, (Below.heap_setCell _ _ _ _ hr4.1).trans hS0.2.2⟩
    have HS4 : Hid (Boxed W4 (w1.heap.size + 1) 41 (.slice vo vn vc) ∧ Boxed W4 w1.heap.size 67 (.pointer (some ⟨r, 0, none⟩)) ∧ RdC W4 r (.slice ra lf rc) 0) := by
      rw [hW4]; exact ⟨HS3.out.1.other (by omega) _, HS3.out.2.1.other (by omega) _, (Below.heap_setCell _ _ _ _ hr4.2.1).trans HS3.out.2.2⟩
    have HS5 : Hid (Boxed W5 (w1.heap.size + 1) 41 (.slice vo vn vc) ∧ Boxed W5 w1.heap.size 67 (.pointer (some ⟨r, 0, none⟩)) ∧ RdC W5 r (.slice ra lf rc) 0) := by
      rw [hW5]; exact ⟨HS4.out.1.other (by omega) _, HS4.out.2.1.other (by omega) _, (Below.heap_setCell _ _ _ _ hr4.2.2).trans HS4.out.2.2⟩
    have b43 : Boxed W3 w.heap.size 41 (.slice vo vn vc) := by rw [hW3]; exact hB4.set _
    have b53 : Boxed W3 (w.heap.size + 1) 3 (.int .i64 0) := by rw [hW3]; exact hB5.other (by omega) _
    have b63 : Boxed W3 (w.heap.size + 1 + 1) 28 (.int .i64 0) := by rw [hW3]; exact hB6.other (by omega) _
    have b44 : Boxed W4 w.heap.size 41 (.slice vo vn vc) := by rw [hW4]; exact b43.other (by omega) _
    have b54 : Boxed W4 (w.heap.size + 1) 3 (.int .i64 (p : Int)) := by rw [hW4]; exact b53.set _
    have b64 : Boxed W4 (w.heap.size + 1 + 1) 28 (.int .i64 0) := by rw [hW4]; exact b63.other (by omega) _
    have b45 : Boxed W5 w.heap.size 41 (.slice vo vn vc) := by rw [hW5]; exact b44.other (by omega) _
    have b55 : Boxed W5 (w.heap.size + 1) 3 (.int .i64 (p : Int)) := by rw [hW5]; exact b54.other (by omega) _
    have b65 : Boxed W5 (w.heap.size + 1 + 1) 28 (.int .i64 0) := by rw [hW5]; exact b64.set _
    have HFIN : Hid (W5.ownsRow w.heap.size 2 1 (.slice vo vn vc) d.length (d.map iV) ∧ RowKit.Below w.heap.size w W5 ∧ W5.heap[D]? = some (.deferred (some []))) := by
      rw [hW5, hW4, hW3]
      have hD1 : w.heap.size + 1 + 1 < D := by have := hD; have := HS1.out; simp only [World.size_alloc] at this hD; omega
      have r1 := HROW2.out.kept (grownBy_setCell' W.drew w.heap.size (.slice vo vn vc)) (.inr (hB4.not_row (by decide) HROW2.out).symm)
      have r2 := r1.kept (grownBy_setCell' _ (w.heap.size + 1) (.int .i64 (p : Int))) (.inr ((hB5.other (by omega) _ : Boxed (W.drew.setCell ⟨w.heap.size, 0, none⟩ (.slice vo vn vc)) _ _ _).not_row (by decide) r1).symm)
      have r3 := r2.kept (grownBy_setCell' _ (w.heap.size + 1 + 1) (.int .i64 0)) (.inr (((hB6.other (by omega) _ : Boxed (W.drew.setCell ⟨w.heap.size, 0, none⟩ (.slice vo vn vc)) _ _ _).other (by omega) _ : Boxed ((W.drew.setCell ⟨w.heap.size, 0, none⟩ (.slice vo vn vc)).setCell ⟨w.heap.size + 1, 0, none⟩ (.int .i64 (p : Int))) _ _ _).not_row (by decide) r2).symm)
      refine ⟨r3, ((HBW2.out.setCell (p := ⟨w.heap.size, 0, none⟩) (Nat.le_refl _) _).setCell (p := ⟨w.heap.size + 1, 0, none⟩) (by simp) _).setCell (p := ⟨w.heap.size + 1 + 1, 0, none⟩) (by simp; omega) _, ?_⟩
      exact (Below.heap_setCell _ _ _ _ (by simp; omega)).trans ((Below.heap_setCell _ _ _ _ (by simp; omega)).trans ((Below.heap_setCell _ _ _ _ (by simp; omega)).trans HKD.out))
    have c4 := hB4.cell; have f4 := hB4.frozen; have c5 := b53.cell; have f5 := b53.frozen; have c6 := b64.cell; have f6 := b64.frozen
    have HW3 := Lib.hid hW3; have HW4 := Lib.hid hW4; have HW5 := Lib.hid hW5
    have HB45 := Lib.hid b45; have HB55 := Lib.hid b55; have HB65 := Lib.hid b65
    clear hS0 hB4 hB5 hB6 b43 b53 b63 b44 b54 b64 b45 b55 b65 hW3 hW4 hW5
    refine wpAnyH_ready (rs := [6]) (by kernel_rfl) (by simp) ?_
    refine AllReadyH.cons rfl (fun K hK => ?_) AllReadyH.nil
    go_simp
    change K _ (W.drew.setCell ⟨w.heap.size, 0, none⟩ (.slice vo vn vc))
    rw [← HW3.out]
    refine hK.out _ _ HS3.out (fun _ => ?_)
    clear hK K
    try simp only [List.getElem_toArray, List.getElem_cons_zero, List.getElem_cons_succ, Act.put, List.setIfInBounds_toArray, List.set_cons_zero, List.set_cons_succ]
    refine wpAnyH_ready (rs := [7]) (by kernel_rfl) (by simp) ?_
    refine AllReadyH.cons rfl (fun K hK => ?_) AllReadyH.nil
    go_simp
    rw [← HW4.out]
    refine hK.out _ _ HS4.out (fun _ => ?_)
    clear hK K
    try simp only [List.getElem_toArray, List.getElem_cons_zero, List.getElem_cons_succ, Act.put, List.setIfInBounds_toArray, List.set_cons_zero, List.set_cons_succ]
    refine wpAnyH_ready (rs := [8]) (by kernel_rfl) (by simp) ?_
    refine AllReadyH.cons rfl (fun K hK => ?_) AllReadyH.nil
    go_simp
    rw [← HW5.out]
    refine hK.out _ _ HS5.out (fun _ => ?_)
    clear hK K
    try simp only [List.getElem_toArray, List.getElem_cons_zero, List.getElem_cons_succ, Act.put, List.setIfInBounds_toArray, List.set_cons_zero, List.set_cons_succ]
    refine wpAnyH_done (by kernel_rfl) ?_ _
    refine NoPanic.normal ?_
    go_wp2
    refine ⟨by simp, .inl ⟨_, _, rfl, run_takeDeferred HFIN.out.2.2, ?_⟩⟩
    have hg := grownBy_putObj' W5 D (.deferred none)
    have hr : ∀ k, some D = some k → ∃ o, W5.heap[k]? = some o ∧ o.isCells = false := by rintro k e; cases e; exact ⟨_, HFIN.out.2.2, rfl⟩
    have c4' := (box_own HB45.out hg hr).cell; have c5' := (box_own HB55.out hg hr).cell; have c6' := (box_own HB65.out hg hr).cell
    have HR5 := Lib.hid (row_turn HFIN.out.1 hg hr)
    have HBW5 : Hid (BW w (W5.putObj D (.deferred none))) := HFIN.out.2.1.trans (belowK_b (w := w) (Nat.le_refl _) W5 D _ _ (by have := hsz; have := hD; omega) HFIN.out.2.2 rfl rfl)
    clear hg hr
    generalize W5.putObj D (.deferred none) = W6 at *
    exact ⟨.tuple #[.slice vo vn vc, .int .i64 (p : Int), .int .i64 0], (by simp [results, Try.results27, go_sem, c4', c5', c6']), _, _, _, rfl, HBW5.out, .inl ⟨d, p, HGET.out, rfl, rfl, HR5.out⟩⟩
  case stop =>
    rintro D c0 pre W hD ⟨k, hk, rfl⟩ ⟨rfl, hX⟩ hK
    have HNO := Lib.hid ((HCUT.out).symm.trans (get_stop hk hX.no))
    have c4 := hX.b4.cell; have c5 := hX.b5.cell; have c6 := hX.b6.cell
    have HX := Lib.hid hX
    clear hX
    gi_wp2
    refine ⟨by simp, .inl ⟨_, _, rfl, run_takeDeferred hK, ?_⟩⟩
    have hg := grownBy_putObj' W D (.deferred none)
    have hr : ∀ k, some D = some k → ∃ o, W.heap[k]? = some o ∧ o.isCells = false := by rintro k e; cases e; exact ⟨_, hK, rfl⟩
    have c4' := (box_own HX.out.b4 hg hr).cell; have c5' := (box_own HX.out.b5 hg hr).cell; have c6' := (box_own HX.out.b6 hg hr).cell
    have HBW : Hid (BW w (W.putObj D (.deferred none))) := HX.out.bw.trans (belowK_b (w := w) (Nat.le_refl _) W D _ _ (by have := hsz; have := hD; omega) hK rfl rfl)
    generalize W.putObj D (.deferred none) = W2 at *
    exact ⟨.tuple #[.slice none 0 0, .int .i64 0, .int .i64 20], (by simp [results, Try.results27, go_sem, c4', c5', c6']), _, _, _, rfl, HBW.out, .inr ⟨HNO.out, rfl, rfl, rfl⟩⟩
end Go.Proofs.Ytdoliejihinpkaa
