/- FoldRunes: the walk. -/
import Derived.Test.YthhdmpdnfelhnaaDoorFldQ
import Derived.Test.YthhdmpdnfelhnaaDoorFlpH
namespace Go.Proofs.YthhdmpdnfelhnaaDoor
open Go.RowKit Go.Maps Fld Go.Shelf
attribute [local go_sem] Oper.semAt_some

/-- the blocks below D lie as they lay, but for one -/
def Low (D B4 : Nat) (w0 W : World) : Prop := ∀ b, b < D → b ≠ B4 → W.heap[b]? = w0.heap[b]?
theorem low_own {β : Type} {D B4 B : Nat} {w0 : World} (hD : D ≤ w0.heap.size) (hB : D ≤ B) : OwnFrom B (fun (_ : β) W => Low D B4 w0 W ∧ D ≤ W.heap.size) := fun _ W W' row hs hg hr =>
  ⟨fun b hb hne => (hg.block b (by have := hs.2; omega) (fun e => by have := (hr b e.symm).1; omega)).trans (hs.1 b hb hne), Nat.le_trans hs.2 hg.size⟩
theorem prefix_next {α : Type} {pre ps : List α} {x y : α} (h : pre <+: ps) (hy : ps[pre.length]? = some y) : pre ++ [x] <+: ps ↔ x = y := by
  obtain ⟨t, rfl⟩ := h
  rw [List.getElem?_append_right (Nat.le_refl _), Nat.sub_self] at hy
  cases t with
  | nil => simp at hy
  | cons z t =>
    simp at hy
    subst hy
    rw [List.prefix_append_right_inj]
    constructor
    · intro h; exact (List.cons_prefix_cons.1 h).1
    · rintro rfl; exact List.cons_prefix_cons.2 ⟨rfl, List.nil_prefix⟩
/-- the law for a loop of two variables, the frame of a round spelled by what is put into it -/
theorem range_two {P : Program} {n : Nat} {g : Operand} {j1 j2 k1 k2 : Nat} {assign body : Code} {Q : Exit → Act → World → Prop} {T : Array Value} {ds : List Deferred} {w : World}
    (h1 : 1 ≤ n) {gf : Nat} {lb : Array Value} (hg : (Act.mk T ds).eval g = .func (.func gf) #[] lb) (eg : ∀ args w, (callFunc gf args).run P w = .ok (.enter gf args) w)
    {Kp : World → World → Prop} {S Sp : List RX → Prop} {N : Nat} (hseq : SeqStopsK Fence.wide (n - 1) P gf lb encR Kp S Sp N w)
    (hKt : ∀ {A B C : World}, Kp A B → Kp B C → Kp A C) (hKb : ∀ (W : World) (l : Nat) (o o' : Obj), w.heap.size ≤ l → W.heap[l]? = some o → o.isCells = false → o.isWalk = false → Kp W (W.putObj l o'))
    (I : List RX → World → Prop) (Ix : Code → List RX → World → Prop) (hI : OwnFrom w.heap.size I) (hIx : ∀ c, OwnFrom w.heap.size (Ix c)) (h0 : I [] w)
    (hassign : ∀ (l : Nat) (x : RX) (W : World) (K : Act → World → Prop), K { tmps := (((T.setIfInBounds k1 (.int .i64 (x.1.1 : Int))).setIfInBounds k2 (.int .i32 (x.1.2 : Int))).setIfInBounds j1 (.int .i64 (x.1.1 : Int))).setIfInBounds j2 (.int .i32 (x.1.2 : Int)), defers := [] } W →
      assign.wpIn (Fence.wide.inRound l) (n - 1 - 1) P (Exit.then K (fun _ _ _ => False)) { tmps := (T.setIfInBounds k1 (.int .i64 (x.1.1 : Int))).setIfInBounds k2 (.int .i32 (x.1.2 : Int)), defers := [] } W)
    (hbody : ∀ (l : Nat) (pre : List RX) (x : RX) (W : World), I pre W → pre.length < N → body.wpIn (Fence.wide.inRound l) (n - 1 - 1) P (ownPostG w.heap.size Kp I Ix (pre ++ [x]) W) { tmps := (((T.setIfInBounds k1 (.int .i64 (x.1.1 : Int))).setIfInBounds k2 (.int .i32 (x.1.2 : Int))).setIfInBounds j1 (.int .i64 (x.1.1 : Int))).setIfInBounds j2 (.int .i32 (x.1.2 : Int)), defers := [] } W)
    (hdone : ∀ (D : Nat) (xs : List RX) (W : World), w.heap.size ≤ D → S xs → I xs W → W.heap[D]? = some (.deferred (some [])) → Q .normal { tmps := T, defers := { target := .collected D, args := #[] } :: ds } W)
    (hstop : ∀ (D : Nat) (c : Code) (pre : List RX) (W : World), w.heap.size ≤ D → Sp pre → Ix c pre W → W.heap[D]? = some (.deferred (some [])) → c.wpIn Fence.wide n P Q { tmps := T, defers := { target := .collected D, args := #[] } :: ds } W)
    (hKr : ∀ W, Kp W W) :
    (Code.rangeFunc g #[k1, k2] assign body).wpIn Fence.wide n P Q { tmps := T, defers := ds } w :=
  wpIn_rangeFunc_ownG_of_H rfl h1 hg trivial eg hseq (fun h k => hKt h k) hKb (RowKit.Below.refl _ _) (fun _ => rfl) I Ix hI hIx h0 (fun x => { tmps := (((T.setIfInBounds k1 (.int .i64 (x.1.1 : Int))).setIfInBounds k2 (.int .i32 (x.1.2 : Int))).setIfInBounds j1 (.int .i64 (x.1.1 : Int))).setIfInBounds j2 (.int .i32 (x.1.2 : Int)), defers := [] }) (fun l x W K hK => by have h := hassign l x W K hK; simpa [encR] using h) hbody hdone hstop hKr
set_option maxRecDepth 100000 in
set_option maxHeartbeats 4000000 in
theorem foldRunes_any (l : List UInt8) (at' : Int) (hl : (l.length : Int) ≤ 17592186044416) (h1 : -9223372036854775808 ≤ at') (h2 : at' ≤ 9223372036854775807) (w : World) (hT : Tabs w) : Calls Tryd.prog 3 #[textV l, .int .i64 at'] w (TruePost w) := by
  have HNX := Lib.hid (fun W (hW : BW w W) => next_any (l := l) (by omega) h1 h2 W (hT.bw hW))
  have HRN : Hid (∀ W, Calls Tryd.prog 9 #[textV l, .int .i64 at'] W (NextPost W (nextAt l at'))) := fun W => by
    unfold nextAt
    by_cases h : at' < 0 ∨ (l.length : Int) ≤ at'
    · rw [if_pos h]; exact refNext_out h (by omega) W
    · rw [if_neg h]
      obtain ⟨k, rfl⟩ : ∃ k : Nat, at' = (k : Int) := ⟨at'.toNat, by omega⟩
      exact refNext_in (by omega) (by omega) W
  have HV := Lib.hid (fun W (hW : BW w W) => valid_any l (by omega) W (hT.bw hW))
  have HRV := Lib.hid (fun W => refValid_any l (by omega) W)
  have HRR := Lib.hid (fun W => refRunes_any l hl W)
  have HIN := Lib.hid (fun W => runes_in l W)
  have HST := Lib.hid (fun (m Bn : Nat) (hm : 1 ≤ m) (W : World) (hB : Bn < W.heap.size) (hc : W.cell? ⟨Bn, 0, none⟩ = some (textV l)) => runes_stops l (by omega) m Bn hm W hB hc)
  obtain ⟨p, hp⟩ : ∃ p, p = nextAt l at' := ⟨_, rfl⟩
  rw [← hp] at HNX HRN
  obtain ⟨r, n⟩ := p
  obtain ⟨v, hv⟩ : ∃ v, v = validL l := ⟨_, rfl⟩
  rw [← hv] at HV HRV
  obtain ⟨ps, hps⟩ : ∃ ps, ps = placesL l := ⟨_, rfl⟩
  rw [← hps] at HRR HST
  have HPL : Hid ((ps.length : Int) ≤ 17592186044416) := by
    unfold Hid; rw [hps]; have := places_len l; omega
  obtain ⟨tx, htx⟩ : ∃ tx, tx = ByteArray.mk l.toArray := ⟨_, rfl⟩
  unfold textV at HNX HRN HV HRV HRR HIN HST ⊢
  rw [← htx] at HNX HRN HV HRV HRR HIN HST ⊢
  have e1 : ((r : Int) != (r : Int)) = false := by simp
  have e2 : ((n : Int) != (n : Int)) = false := by simp
  have e3 : (v != v) = false := by simp
  clear hp hv hps htx h1 h2 hl hT
  refine (callsIn_wide (n := 5)).1 ?_
  refine callsIn_of_wp_marks Tryd.func3 rfl trivial ?_ rfl
  simp only [Tryd.ntmps3, List.size_toArray, List.length_cons, List.length_nil, Nat.reduceAdd, Nat.reduceSub, Array.replicate_succ, Array.replicate_zero, List.push_toArray, List.append_toArray, List.nil_append, List.cons_append]
  gi_wp2
  refine ⟨trivial, ?_⟩
  refine (callsIn_wide.2 (HNX.out _ (bw_alloc w _))).mono ?_
  rintro e w1 ⟨rfl, hq⟩
  have HB1 : Hid (BW w w1) := (bw_alloc w _).trans hq
  have HC1 : Hid (Boxed w1 w.heap.size 4 (.bool false)) := (hq.block _ (by simp)).trans (Boxed.new w 4 (.bool false))
  clear hq HNX
  gi_wp2
  refine ⟨trivial, ?_⟩
  refine (callsIn_wide.2 (HRN.out _)).mono ?_
  rintro e w2 ⟨rfl, hq⟩
  have HB2 := Lib.hid (HB1.out.trans hq)
  have HC2 : Hid (Boxed w2 w.heap.size 4 (.bool false)) := (hq.block _ HC1.out.lt).trans HC1.out
  clear hq HRN HC1
  gi_wp2
  refine ⟨trivial, ?_⟩
  refine (callsIn_wide.2 (HV.out _ HB2.out)).mono ?_
  rintro e w3 ⟨rfl, hq⟩
  have HB3 := Lib.hid (HB2.out.trans hq)
  have HC3 : Hid (Boxed w3 w.heap.size 4 (.bool false)) := (hq.block _ HC2.out.lt).trans HC2.out
  clear hq HV HC2
  gi_wp2
  refine ⟨trivial, ?_⟩
  refine (callsIn_wide.2 (HRV.out _)).mono ?_
  rintro e w4 ⟨rfl, hq⟩
  have HB4 := Lib.hid (HB3.out.trans hq)
  have HC4 : Hid (Boxed w4 w.heap.size 4 (.bool false)) := (hq.block _ HC3.out.lt).trans HC3.out
  clear hq HRV HC3
  gi_wp2
  refine ⟨trivial, ?_⟩
  refine (callsIn_wide.2 (HRR.out _)).mono ?_
  rintro e w5 ⟨v1, v2, rfl, ho1, ho2, hq⟩
  have HB5 := Lib.hid (HB4.out.trans hq)
  have HC5 : Hid (Boxed w5 w.heap.size 4 (.bool false)) := (hq.block _ HC4.out.lt).trans HC4.out
  have HO1 := Lib.hid ho1
  have HO2 := Lib.hid ho2
  have H45 := Lib.hid (Nat.lt_of_lt_of_le HC4.out.lt (Nat.le_refl _))
  obtain ⟨o1, n1, c1, rfl⟩ := row_form ho1
  obtain ⟨o2, n2, c2, rfl⟩ := row_form ho2
  have hn1 := row_len ho1 rfl
  have hn2 := row_len ho2 rfl
  subst hn1
  subst hn2
  clear hq HRR HC4 ho1 ho2
  gi_wp2
  obtain ⟨wX, hwX⟩ : ∃ wX, wX = (((w5.alloc (.cells #[.slice o1 ps.length c1] 25)).alloc (.cells #[.slice o2 ps.length c2] 26)).alloc (.cells #[.int .i64 0] 3)) := ⟨_, rfl⟩
  obtain ⟨D, hD⟩ : ∃ D, D = w5.heap.size := ⟨_, rfl⟩
  have hXs : wX.heap.size = D + 3 := by rw [hwX, hD]; simp
  have HX9 : Hid (Boxed wX D 25 (.slice o1 ps.length c1)) := by
    unfold Hid; rw [hwX, hD]; exact ((Boxed.new w5 25 _).alloc _).alloc _
  have HX10 : Hid (Boxed wX (D + 1) 26 (.slice o2 ps.length c2)) := by
    unfold Hid; rw [hwX, hD]
    have h := (Boxed.new (w5.alloc (.cells #[.slice o1 ps.length c1] 25)) 26 (.slice o2 ps.length c2)).alloc (.cells #[.int .i64 0] 3)
    rw [World.size_alloc] at h; exact h
  have HX11 : Hid (Boxed wX (D + 1 + 1) 3 (.int .i64 0)) := by
    unfold Hid; rw [hwX, hD]
    have h := Boxed.new ((w5.alloc (.cells #[.slice o1 ps.length c1] 25)).alloc (.cells #[.slice o2 ps.length c2] 26)) 3 (.int .i64 0)
    rw [World.size_alloc, World.size_alloc] at h; exact h
  have HXL : Hid (BW w5 wX) := by unfold Hid; rw [hwX]; exact ((bw_alloc w5 _).alloc _).alloc _
  have HX4 : Hid (Boxed wX w.heap.size 4 (.bool false)) := (HXL.out.block _ HC5.out.lt).trans HC5.out
  rw [← hwX, ← hD]
  have HD := Lib.hid hD
  have HXS := Lib.hid hXs
  clear hwX hD hXs
  refine ⟨trivial, ?_⟩
  refine (callsIn_wide.2 (HIN.out _)).mono ?_
  rintro e wR ⟨rfl, hwR⟩
  have HRS : Hid (wR.heap.size = D + 4) := by unfold Hid; rw [← hwR, World.size_alloc, HXS.out]
  have HR9 : Hid (Boxed wR D 25 (.slice o1 ps.length c1)) := by unfold Hid; rw [← hwR]; exact HX9.out.alloc _
  have HR10 : Hid (Boxed wR (D + 1) 26 (.slice o2 ps.length c2)) := by unfold Hid; rw [← hwR]; exact HX10.out.alloc _
  have HR11 : Hid (Boxed wR (D + 1 + 1) 3 (.int .i64 0)) := by unfold Hid; rw [← hwR]; exact HX11.out.alloc _
  have HR4 : Hid (Boxed wR w.heap.size 4 (.bool false)) := by unfold Hid; rw [← hwR]; exact HX4.out.alloc _
  have HRB : Hid (Boxed wR (D + 3) 9 (.string tx)) := by
    unfold Hid; rw [← hwR, ← HXS.out]; exact Boxed.new wX 9 _
  have HRL : Hid (BW w5 wR) := by unfold Hid; rw [← hwR]; exact HXL.out.alloc _
  have hxs : wX.heap.size = D + 3 := HXS.out
  rw [hxs]
  clear hwR hxs HIN
  have hnn := func_not_nil wR Tryd.underlying30 ⟨_, _, _, rfl⟩ (.func 25) #[] #[.pointer (some ⟨D + 3, 0, none⟩)]
  gi_wp2
  have HK1 : Hid (∀ {W}, (RowKit.Below w.heap.size w W → True)) := fun _ => trivial
  refine range_two (j1 := 13) (j2 := 14) (by decide) (gf := 25) (lb := #[.pointer (some ⟨D + 3, 0, none⟩)]) rfl (enters_of Tryd.func25 (by kernel_rfl) rfl)
    (HST.out _ (D + 3) (by decide) wR (by have := HRS.out; omega) HRB.out.cell) (fun h k => KeepsWalks.trans h k) (kpB_b (B := 0))
    (fun pre W => (Boxed W w.heap.size 4 (.bool false) ∧ Boxed W D 25 (.slice o1 ps.length c1) ∧ Boxed W (D + 1) 26 (.slice o2 ps.length c2) ∧ Boxed W (D + 1 + 1) 3 (.int .i64 ((vals pre).length : Int))) ∧ vals pre <+: ps ∧ (Low D w.heap.size w5 W ∧ D ≤ W.heap.size) ∧ RowKit.Below w.heap.size w W)
    (fun _ pre _ => ¬ vals pre <+: ps)
    ?own ?ownx ?start ?assign ?body ?done ?stop (fun _ => KeepsWalks.refl _)
  case own =>
    refine OwnFrom.and (OwnFrom.and (Own.from (boxed_own _ _ _) _) (OwnFrom.and (Own.from (boxed_own _ _ _) _) (OwnFrom.and (Own.from (boxed_own _ _ _) _) (Own.from (boxed_own _ _ _) _)))) (OwnFrom.and (fun _ _ _ _ hs _ _ => hs) (OwnFrom.and (low_own (by rw [HD.out]; exact Nat.le_refl _) (by rw [HRS.out]; omega)) (ownFrom_below (Nat.le_refl _) ((HB5.out.trans HRL.out).size))))
  case ownx => exact fun _ _ _ _ _ hs _ _ => hs
  case start => exact ⟨⟨HR4.out, HR9.out, HR10.out, HR11.out⟩, List.nil_prefix, ⟨fun b hb _ => HRL.out.block b (by rw [← HD.out]; exact hb), by rw [HRS.out]; omega⟩, HB5.out.trans HRL.out⟩
  case assign =>
    intro l x W K hK
    gi_wp2
    simpa using hK
  case body =>
    rintro l' pre0 x W ⟨⟨h4, h9, h10, h11⟩, hpre, ⟨hlow, hDs⟩, hbel⟩ hlt
    obtain ⟨⟨x1, x2⟩, hxb⟩ := x
    have hvs : vals (pre0 ++ [(⟨(x1, x2), hxb⟩ : RX)]) = vals pre0 ++ [(x1, x2)] := by unfold vals; rw [List.map_append]; rfl
    replace hlt : (vals pre0).length < ps.length := by unfold vals; rw [List.length_map]; exact hlt
    have HVS := Lib.hid hvs
    obtain ⟨pre, hpr⟩ : ∃ pre, pre = vals pre0 := ⟨_, rfl⟩
    rw [← hpr] at h11 hpre hlt HVS
    clear hvs hpr
    obtain ⟨y, hy⟩ : ∃ y, ps[pre.length]? = some y := ⟨_, List.getElem?_eq_getElem hlt⟩
    obtain ⟨a, c⟩ := y
    obtain ⟨b1, f1, rfl, q1⟩ := src_get (Src.of_row HO1.out) (i := pre.length) (u := iV a) (by rw [List.getElem?_map, hy]; rfl)
    obtain ⟨b2, f2, rfl, q2⟩ := src_get (Src.of_row HO2.out) (i := pre.length) (u := rV c) (by rw [List.getElem?_map, hy]; rfl)
    have hb1 := row_blk HO1.out (b := b1) rfl
    have hb2 := row_blk HO2.out (b := b2) rfl
    have g1 : W.cell? ⟨b1, f1 + pre.length, none⟩ = some (.int .i64 (a : Int)) := (World.cell?_of_block (w := w5) (a := ⟨b1, f1 + pre.length, none⟩) (hlow b1 (by have := HD.out; omega) (by have := H45.out; omega))).trans q1
    have g2 : W.cell? ⟨b2, f2 + pre.length, none⟩ = some (.int .i32 (c : Int)) := (World.cell?_of_block (w := w5) (a := ⟨b2, f2 + pre.length, none⟩) (hlow b2 (by have := HD.out; omega) (by have := H45.out; omega))).trans q2
    have HPX := Lib.hid (prefix_next (x := ((x1, x2) : Nat × Nat)) hpre hy)
    have H4 := Lib.hid h4; have H9 := Lib.hid h9; have H10 := Lib.hid h10; have H11 := Lib.hid h11
    have HLOW := Lib.hid hlow; have HDS := Lib.hid hDs; have HBEL := Lib.hid hbel
    have c4 := h4.cell; have c9 := h9.cell; have c10 := h10.cell; have c11 := h11.cell
    have f4 := h4.frozen; have f11 := h11.frozen
    obtain ⟨k, hk⟩ : ∃ k, k = pre.length := ⟨_, rfl⟩
    obtain ⟨nn, hnn⟩ : ∃ nn, nn = ps.length := ⟨_, rfl⟩
    rw [← hk] at g1 g2 c11 hlt
    rw [← hnn] at c9 c10 hlt
    have hki : (k : Int) < (nn : Int) := by omega
    have hk0 : 0 ≤ (k : Int) := by omega
    have hkb : (k : Int) ≤ 17592186044416 := by have := HPL.out; omega
    have d1 : decide (nn ≤ k) = false := decide_eq_false (by omega)
    have d2 : decide ((nn : Int) ≤ (k : Int)) = false := decide_eq_false (by omega)
    have HK := Lib.hid hk
    have HRS' := HRS.out
    clear q1 q2 hb1 hb2 h4 h9 h10 h11 hlow hDs hbel hpre hy hlt hk hnn
    clear HRS'
    simp only [List.setIfInBounds_toArray, List.set_cons_zero, List.set_cons_succ]
    by_cases ha : x1 = a
    · have t1 : ((x1 : Int) != (a : Int)) = false := by simp [ha]
      by_cases hc : x2 = c
      · have t2 : ((x2 : Int) != (c : Int)) = false := by simp [hc]
        have HP := Lib.hid (HPX.out.2 (by rw [ha, hc]))
        clear ha hc
        gi_wp2
        have e : (((pre ++ [(x1, x2)]).length : Nat) : Int) = (k : Int) + 1 := by rw [List.length_append, HK.out]; simp
        refine ⟨(KeepsOthers.setCell _ _ _).from _, KeepsWalks.setCell _ _ _, ⟨⟨H4.out.other (by have := H45.out; have := HD.out; have := HB5.out.size; omega) _, H9.out.other (by omega) _, H10.out.other (by omega) _, ?_⟩, by rw [HVS.out]; exact HP.out, ⟨fun b hb hne => (Below.heap_setCell _ _ _ _ (by show b ≠ D + 1 + 1; omega)).trans (HLOW.out b hb hne), by simpa [World.setCell] using HDS.out⟩, HBEL.out.setCell (p := ⟨D + 1 + 1, 0, none⟩) (by have := HD.out; have := HB5.out.size; show w.heap.size ≤ D + 1 + 1; omega) _⟩⟩
        rw [HVS.out, e]; exact H11.out.set _
      · have t2 : ((x2 : Int) != (c : Int)) = true := by simp; omega
        have HP : Hid (¬ pre ++ [(x1, x2)] <+: ps) := fun h => hc (congrArg Prod.snd (HPX.out.1 h))
        clear ha hc
        gi_wp2
        exact ⟨(KeepsOthers.setCell _ _ _).from _, (by show ¬ vals (pre0 ++ [_]) <+: ps; rw [HVS.out]; exact HP.out)⟩
    · have t1 : ((x1 : Int) != (a : Int)) = true := by simp; omega
      have HP : Hid (¬ pre ++ [(x1, x2)] <+: ps) := fun h => ha (congrArg Prod.fst (HPX.out.1 h))
      clear ha
      gi_wp2
      exact ⟨(KeepsOthers.setCell _ _ _).from _, (by show ¬ vals (pre0 ++ [_]) <+: ps; rw [HVS.out]; exact HP.out)⟩
  case done =>
    rintro D' ys W hD' hys ⟨⟨h4, h9, h10, h11⟩, hpre, ⟨hlow, hDs⟩, hbel⟩ hK
    rw [hys] at h11
    clear hys
    have c4 := h4.cell; have c9 := h9.cell; have c11 := h11.cell
    have f4 := h4.frozen
    have hps : ((ps.length : Int) == (ps.length : Int)) = true := by simp
    gi_wp2
    have hK2 : (W.setCell ⟨w.heap.size, 0, none⟩ (.bool true)).heap[D']? = some (.deferred (some [])) := (KeepsOthers.setCell W ⟨w.heap.size, 0, none⟩ (.bool true)).same D' _ hK rfl
    have c4' : (W.setCell ⟨w.heap.size, 0, none⟩ (.bool true)).cell? ⟨w.heap.size, 0, none⟩ = some (.bool true) := (h4.set (.bool true)).cell
    have c5 := cell_kept c4' (grownBy_putObj' _ D' (.deferred none)) (fun r e => by cases e; exact ⟨_, hK2, rfl⟩)
    refine ⟨by simp, .inl ⟨_, _, rfl, run_takeDeferred hK2, ?_⟩⟩
    exact ⟨.bool true, by simp [results, Tryd.results3, go_sem, c5], rfl, (hbel.setCell (p := ⟨w.heap.size, 0, none⟩) (Nat.le_refl _) _).trans (belowK_b (w := w) (Nat.le_refl _) _ D' _ _ (by have := HRS.out; have := HB5.out.size; have := HD.out; omega) hK2 rfl rfl)⟩
  case stop =>
    rintro D' c pre W _ hp h _
    exact absurd hp h
end Go.Proofs.YthhdmpdnfelhnaaDoor
