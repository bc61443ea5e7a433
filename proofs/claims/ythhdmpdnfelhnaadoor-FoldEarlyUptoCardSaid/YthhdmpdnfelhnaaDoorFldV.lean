/- FoldEarly: the walk. -/
import Derived.Test.YthhdmpdnfelhnaaDoorFldU
namespace Go.Proofs.YthhdmpdnfelhnaaDoor
open Go.RowKit Go.Maps Fld Go.Shelf
attribute [local go_sem] Oper.semAt_some

def atV (p : Nat × Nat) : Value := .int .i64 (p.1 : Int)
def EI (w : World) (A D : Nat) (tk : Int) (s : ByteArray) (pre : List RX) (W : World) : Prop := (Boxed W A 3 (.int .i64 tk) ∧ Boxed W (A + 1) 4 (.bool false) ∧ Boxed W D 9 (.string s) ∧ ∃ v, Boxed W (D + 1) 25 v ∧ W.ownsRow (D + 1) 3 1 v (vals pre).length ((vals pre).map fun p => iV p.1) ∧ True) ∧ RowKit.Below w.heap.size w W
def EX (w : World) (A D : Nat) (s : ByteArray) (c : Code) (pre : List RX) (W : World) : Prop := c = .exit 0 ∧ (Boxed W (A + 1) 4 (.bool false) ∧ Boxed W D 9 (.string s) ∧ ∃ v, Boxed W (D + 1) 25 v ∧ W.ownsRow (D + 1) 3 1 v (vals pre).dropLast.length ((vals pre).dropLast.map fun p => iV p.1) ∧ True) ∧ RowKit.Below w.heap.size w W
def EJ (w : World) (A E : Nat) (W2 : World) (pre : List RX) (W : World) : Prop := (Boxed W (A + 1) 4 (.bool false) ∧ Boxed W E 3 (.int .i64 ((vals pre).length : Int))) ∧ (Low E (A + 1) W2 W ∧ E ≤ W.heap.size) ∧ RowKit.Below w.heap.size w W
theorem early_eq {qs ps pre : List (Nat × Nat)} {x c : Nat × Nat} (hq : qs <+: ps) (hy : qs[pre.length]? = some c) (hp : pre ++ [x] <+: ps) : x = c := by
  obtain ⟨t, rfl⟩ := hq
  obtain ⟨u, hu⟩ := hp
  have h1 : (qs ++ t)[pre.length]? = some c := by rw [List.getElem?_append_left (List.getElem?_eq_some_iff.1 hy).1]; exact hy
  rw [← hu, List.append_assoc, List.getElem?_append_right (Nat.le_refl _), Nat.sub_self] at h1
  simpa using h1
set_option maxRecDepth 100000 in
set_option maxHeartbeats 8000000 in
theorem foldEarly_any (l : List UInt8) (tk : Int) (hl : (l.length : Int) ≤ 17592186044416) (ht1 : -9223372036854775808 ≤ tk) (ht2 : tk ≤ 9223372036854775807) (w : World) (hT : Tabs w) : Calls Tryd.prog 7 #[textV l, .int .i64 tk] w (TruePost w) := by
  have HKN := Lib.hid (fun W (hW : BW w W) => known_any W (hT.bw hW))
  have HIN := Lib.hid (fun W => runes_in l W)
  have HST := Lib.hid (fun (m Bn : Nat) (hm : 1 ≤ m) (W : World) (hB : Bn < W.heap.size) (hc : W.cell? ⟨Bn, 0, none⟩ = some (textV l)) => runes_stops l (by omega) m Bn hm W hB hc)
  obtain ⟨ps, hps⟩ : ∃ ps, ps = placesL l := ⟨_, rfl⟩
  have HPL : Hid ((ps.length : Int) ≤ 17592186044416) := by
    unfold Hid; rw [hps]; have := places_len l; omega
  rw [← hps] at HST
  obtain ⟨s, hs⟩ : ∃ s, s = ByteArray.mk l.toArray := ⟨_, rfl⟩
  unfold textV at HIN HST ⊢
  rw [← hs] at HIN HST ⊢
  clear hps hs hl hT
  refine (callsIn_wide (n := 5)).1 ?_
  refine callsIn_of_wp_marks Tryd.func7 rfl trivial ?_ rfl
  simp only [Tryd.ntmps7, List.size_toArray, List.length_cons, List.length_nil, Nat.reduceAdd, Nat.reduceSub, Array.replicate_succ, Array.replicate_zero, List.push_toArray, List.append_toArray, List.nil_append, List.cons_append]
  gi_wp2
  refine ⟨trivial, ?_⟩
  refine (callsIn_wide.2 (HKN.out _ ((bw_alloc w _).alloc _))).mono ?_
  rintro e w1 ⟨rfl, hq⟩
  obtain ⟨A, hA⟩ : ∃ A, A = w.heap.size := ⟨_, rfl⟩
  have hq1 := boxed_bw ((Boxed.new w 3 (.int .i64 tk)).alloc (.cells #[.bool false] 4)) hq
  have hq2 := boxed_bw (Boxed.new (w.alloc (.cells #[.int .i64 tk] 3)) 4 (.bool false)) hq
  rw [World.size_alloc] at hq2
  have HB1 : Hid (BW w w1) := ((bw_alloc w _).alloc _).trans hq
  rw [← hA] at hq1 hq2 ⊢
  have HC1 : Hid (Boxed w1 A 3 (.int .i64 tk)) := hq1
  have HC2 : Hid (Boxed w1 (A + 1) 4 (.bool false)) := hq2
  have HAA := Lib.hid hA
  clear hq hq1 hq2 hA
  gi_wp2
  refine ⟨trivial, ?_⟩
  refine (callsIn_wide.2 (HIN.out _)).mono ?_
  rintro e w2 ⟨rfl, hw2⟩
  obtain ⟨D, hD⟩ : ∃ D, D = w1.heap.size := ⟨_, rfl⟩
  have hw2s : w2.heap.size = D + 1 := by rw [← hw2, World.size_alloc, hD]
  obtain ⟨wR, hwR⟩ : ∃ wR, wR = w2.alloc (.cells #[.slice none 0 0] 25) := ⟨_, rfl⟩
  have HRS : Hid (wR.heap.size = D + 2) := by unfold Hid; rw [hwR, World.size_alloc, hw2s]
  have HR1 : Hid (Boxed wR A 3 (.int .i64 tk)) := by unfold Hid; rw [hwR, ← hw2]; exact (HC1.out.alloc _).alloc _
  have HR2 : Hid (Boxed wR (A + 1) 4 (.bool false)) := by unfold Hid; rw [hwR, ← hw2]; exact (HC2.out.alloc _).alloc _
  have HRB : Hid (Boxed wR D 9 (.string s)) := by unfold Hid; rw [hwR, ← hw2, hD]; exact (Boxed.new w1 9 _).alloc _
  have HR6 : Hid (Boxed wR (D + 1) 25 (.slice none 0 0)) := by unfold Hid; rw [hwR, ← hw2s]; exact Boxed.new w2 25 _
  have HBR : Hid (BW w wR) := by unfold Hid; rw [hwR, ← hw2]; exact (HB1.out.alloc _).alloc _
  have HAD : Hid (A + 1 < D) := by unfold Hid; rw [hD]; exact HC2.out.lt
  have HWR := Lib.hid hwR
  have HDD := Lib.hid hD
  have HW2S := Lib.hid hw2s
  rw [← hD]
  clear hwR hw2 hw2s hD HIN
  gi_wp2
  rw [← HWR.out, HW2S.out]
  rename_i K hKR
  have REST : Hid (∀ (W : World) (D1 : Nat) (qs : List (Nat × Nat)) (v : Value), wR.heap.size ≤ D1 → qs <+: ps → Boxed W (A + 1) 4 (.bool false) → Boxed W D 9 (.string s) → Boxed W (D + 1) 25 v → W.ownsRow (D + 1) 3 1 v qs.length (qs.map fun p => iV p.1) → RowKit.Below w.heap.size w W → W.heap[D1]? = some (.deferred (some [])) →
      K { tmps := #[.string s, .int .i64 tk, undef, .pointer (some ⟨A, 0, none⟩), .pointer (some ⟨A + 1, 0, none⟩), .func (.func 25) #[] #[.pointer (some ⟨D, 0, none⟩)], .pointer (some ⟨D + 1, 0, none⟩), undef, undef, undef, .bool true, .bool false, .string s, .func (.func 25) #[] #[.pointer (some ⟨D, 0, none⟩)], .func (.func 25) #[] #[.pointer (some ⟨D, 0, none⟩)], undef, undef, undef, undef, undef, undef, undef, undef, undef, undef, undef, undef, undef, undef, undef, undef, undef, undef, undef, undef, undef, undef, undef, undef, undef, undef, undef, undef, undef, undef, undef], defers := [{ target := .collected D1, args := #[] }] } W) := by
    unfold Hid
    intro W D1 qs v hD1 hqs b2 b5 b6 hrow hbel hK
    obtain ⟨ao, cp, rfl⟩ := (Src.of_row hrow).len
    rw [List.length_map] at b6 hrow
    obtain ⟨E, hE⟩ : ∃ E, E = W.heap.size := ⟨_, rfl⟩
    obtain ⟨W2, hW2⟩ : ∃ W2, W2 = W.alloc (.cells #[.int .i64 0] 3) := ⟨_, rfl⟩
    have HES : Hid (W2.heap.size = E + 1) := by unfold Hid; rw [hW2, World.size_alloc, hE]
    have HF2 : Hid (Boxed W2 (A + 1) 4 (.bool false)) := by unfold Hid; rw [hW2]; exact b2.alloc _
    have HF5 : Hid (Boxed W2 D 9 (.string s)) := by unfold Hid; rw [hW2]; exact b5.alloc _
    have HF6 : Hid (Boxed W2 (D + 1) 25 (.slice ao qs.length cp)) := by unfold Hid; rw [hW2]; exact b6.alloc _
    have HFI : Hid (Boxed W2 E 3 (.int .i64 0)) := by unfold Hid; rw [hW2, hE]; exact Boxed.new W 3 _
    have HFR : Hid (W2.ownsRow (D + 1) 3 1 (.slice ao qs.length cp) qs.length (qs.map fun p => iV p.1)) := by unfold Hid; rw [hW2]; exact hrow.alloc _
    have HFL : Hid (RowKit.Below w.heap.size w W2) := by unfold Hid; rw [hW2]; exact hbel.alloc hbel.size _
    have HFK : Hid (W2.heap[D1]? = some (.deferred (some []))) := by unfold Hid; rw [hW2]; exact ((bw_alloc W _).block D1 (Array.getElem?_eq_some_iff.1 hK).1).trans hK
    have HD1 : Hid (D1 < E) := by unfold Hid; rw [hE]; exact (Array.getElem?_eq_some_iff.1 hK).1
    have HDE : Hid (D + 1 < E) := by unfold Hid; rw [hE]; exact b6.lt
    have HRE : Hid (∀ b, (Value.slice ao qs.length cp).ownBlock = some b → D + 1 ≤ b ∧ b < E) := by
      intro b hb; have := row_blk hrow hb; rw [hE]; exact this
    have HQS := Lib.hid hqs
    have HDD1 := Lib.hid hD1
    refine hKR _ _ ?_
    clear hKR b2 b5 b6 hrow hbel hK hqs hD1
    gi_wp2
    rw [← hE, ← hW2]
    clear hE hW2
    refine range_two (k1 := 26) (k2 := 27) (j1 := 9) (j2 := 27) (by decide) (gf := 25) (lb := #[.pointer (some ⟨D, 0, none⟩)]) rfl (enters_of Tryd.func25 (by kernel_rfl) rfl)
      (HST.out _ D (by decide) W2 (by have := HES.out; have := HDE.out; omega) HF5.out.cell) (fun h k => KeepsWalks.trans h k) (kpB_b (B := 0))
      (EJ w A E W2)
      (fun _ pre _ => ¬ vals pre <+: ps)
      ?own ?ownx ?start ?assign ?body ?done ?stop (fun _ => KeepsWalks.refl _)
    case own =>
      exact OwnFrom.and (OwnFrom.and (Own.from (boxed_own _ _ _) _) (Own.from (boxed_own _ _ (fun (pre : List RX) => .int .i64 ((vals pre).length : Int))) _)) (OwnFrom.and (low_own (by rw [HES.out]; omega) (by rw [HES.out]; omega)) (ownFrom_below (Nat.le_refl _) HFL.out.size))
    case ownx => exact fun _ _ _ _ _ hs _ _ => hs
    case start => exact ⟨⟨HF2.out, HFI.out⟩, ⟨fun b hb _ => rfl, by rw [HES.out]; omega⟩, HFL.out⟩
    case assign =>
      intro l x W K hK
      gi_wp2
      simpa using hK
    case body =>
      rintro l' pre0 x W' ⟨⟨h4, h11⟩, ⟨hlow, hDs⟩, hbel⟩ hlt
      obtain ⟨⟨x1, x2⟩, hxb⟩ := x
      have hvs : vals (pre0 ++ [(⟨(x1, x2), hxb⟩ : RX)]) = vals pre0 ++ [(x1, x2)] := by unfold vals; rw [List.map_append]; rfl
      replace hlt : (vals pre0).length < ps.length := by unfold vals; rw [List.length_map]; exact hlt
      have HVS := Lib.hid hvs
      obtain ⟨pre, hpr⟩ : ∃ pre, pre = vals pre0 := ⟨_, rfl⟩
      rw [← hpr] at h11 hlt HVS
      clear hvs hpr
      have h9 : Boxed W' (D + 1) 25 (.slice ao qs.length cp) := (hlow (D + 1) HDE.out (by have := HAD.out; omega)).trans HF6.out
      have hCL : ∀ b, b < W2.heap.size → True := fun _ _ => trivial
      have H4 := Lib.hid h4; have H9 := Lib.hid h9; have H11 := Lib.hid h11
      have HLOW := Lib.hid hlow; have HDS := Lib.hid hDs; have HBEL := Lib.hid hbel
      have c4 := h4.cell; have c9 := h9.cell; have c11 := h11.cell
      have f4 := h4.frozen; have f11 := h11.frozen
      have H5 : Hid (Boxed W' D 9 (.string s)) := (hlow D (by have := HDE.out; omega) (by have := HAD.out; omega)).trans HF5.out
      obtain ⟨k, hk⟩ : ∃ k, k = pre.length := ⟨_, rfl⟩
      obtain ⟨nn, hnn⟩ : ∃ nn, nn = qs.length := ⟨_, rfl⟩
      rw [← hk] at c11 hlt
      rw [← hnn] at c9
      have hk0 : 0 ≤ (k : Int) := by omega
      have hkb : (k : Int) ≤ 17592186044416 := by have := HPL.out; omega
      have HK := Lib.hid hk
      have HGO : Hid (KeepsFrom W2.heap.size W' (W'.setCell ⟨E, 0, none⟩ (.int .i64 ((k : Int) + 1))) ∧ KpB D W' (W'.setCell ⟨E, 0, none⟩ (.int .i64 ((k : Int) + 1))) ∧ EJ w A E W2 (pre0 ++ [(⟨(x1, x2), hxb⟩ : RX)]) (W'.setCell ⟨E, 0, none⟩ (.int .i64 ((k : Int) + 1)))) := by
        have e : (((vals (pre0 ++ [(⟨(x1, x2), hxb⟩ : RX)])).length : Nat) : Int) = (k : Int) + 1 := by rw [HVS.out, List.length_append, HK.out]; simp
        refine ⟨(KeepsOthers.setCell _ _ _).from _, KeepsWalks.setCell _ _ _, ⟨⟨H4.out.other (by have := HAD.out; have := HDE.out; omega) _, ?_⟩, ⟨fun b hb hne => (Below.heap_setCell _ _ _ _ (by show b ≠ E; omega)).trans (HLOW.out b hb hne), by simpa [World.setCell] using HDS.out⟩, HBEL.out.setCell (p := ⟨E, 0, none⟩) (by have := HAA.out; have := HAD.out; have := HDE.out; show w.heap.size ≤ E; omega) _⟩⟩
        rw [e]; exact H11.out.set _
      clear h4 h9 h11 hDs hbel hCL hlt
      simp only [List.setIfInBounds_toArray, List.set_cons_zero, List.set_cons_succ]
      by_cases hkn : k < nn
      · obtain ⟨c, hy⟩ : ∃ c, qs[pre.length]? = some c := ⟨_, List.getElem?_eq_getElem (by omega)⟩
        obtain ⟨b2, f2, rfl, q2⟩ := src_get (Src.of_row HFR.out) (i := pre.length) (u := iV c.1) (by rw [List.getElem?_map, hy]; rfl)
        have g2 : W'.cell? ⟨b2, f2 + pre.length, none⟩ = some (.int .i64 (c.1 : Int)) := (World.cell?_of_block (w := W2) (a := ⟨b2, f2 + pre.length, none⟩) (hlow b2 (HRE.out b2 rfl).2 (by have := (HRE.out b2 rfl).1; have := HAD.out; omega))).trans q2
        have hno : (x1, x2) ≠ c → ¬ pre ++ [(x1, x2)] <+: ps := fun hne hp => hne (early_eq HQS.out hy hp)
        rw [← hk] at g2
        have hki : (k : Int) < (nn : Int) := by omega
        have d1 : decide (k < nn) = true := decide_eq_true hkn
        have d2 : decide ((k : Int) < (nn : Int)) = true := decide_eq_true hki
        clear q2 hlow hy hk hnn hkn
        by_cases hc : c.1 = x1
        · have t2 : ((c.1 : Int) != (x1 : Int)) = false := by simp [hc]
          clear hc hno
          gi_wp2
          exact HGO.out
        · have t2 : ((c.1 : Int) != (x1 : Int)) = true := by simp; omega
          have HP : Hid (¬ pre ++ [(x1, x2)] <+: ps) := hno (fun e => hc (by rw [← e]))
          clear hc hno
          gi_wp2
          exact ⟨(KeepsOthers.setCell _ _ _).from _, (by show ¬ vals (pre0 ++ [_]) <+: ps; rw [HVS.out]; exact HP.out)⟩
      · have d1 : decide (k < nn) = false := decide_eq_false hkn
        have d2 : decide ((k : Int) < (nn : Int)) = false := decide_eq_false (by omega)
        have hki : (nn : Int) ≤ (k : Int) := by omega
        clear hlow hk hnn hkn
        gi_wp2
        exact HGO.out
    case done =>
      rintro D' ys W' hD' hys ⟨⟨h4, h11⟩, ⟨hlow, hDs⟩, hbel⟩ hK
      rw [hys] at h11
      have hqp : (qs.length : Int) ≤ (ps.length : Int) := by have := HQS.out.length_le; omega
      have dq : decide ((qs.length : Int) ≤ (ps.length : Int)) = true := decide_eq_true hqp
      have dq' : decide (qs.length ≤ ps.length) = true := decide_eq_true (by omega)
      have h9 : Boxed W' (D + 1) 25 (.slice ao qs.length cp) := (hlow (D + 1) HDE.out (by have := HAD.out; omega)).trans HF6.out
      have hK1 : W'.heap[D1]? = some (.deferred (some [])) := (hlow D1 HD1.out (by have := HDD1.out; have := HRS.out; have := HAD.out; omega)).trans HFK.out
      clear hys hlow
      have c4 := h4.cell; have c9 := h9.cell; have c11 := h11.cell
      have f4 := h4.frozen
      have H4 := Lib.hid h4; have HBEL := Lib.hid hbel; have HKK := Lib.hid hK; have HK1 := Lib.hid hK1
      clear h4 h9 h11 hbel hK hK1 hDs
      gi_wp2
      obtain ⟨V, hV⟩ : ∃ V, V = W'.setCell ⟨A + 1, 0, none⟩ (.bool true) := ⟨_, rfl⟩
      have hka : V.heap[D']? = some (.deferred (some [])) := by rw [hV]; exact (KeepsOthers.setCell W' ⟨A + 1, 0, none⟩ (.bool true)).same D' _ HKK.out rfl
      have hkb : V.heap[D1]? = some (.deferred (some [])) := by rw [hV]; exact (KeepsOthers.setCell W' ⟨A + 1, 0, none⟩ (.bool true)).same D1 _ HK1.out rfl
      have hne : D1 ≠ D' := by have := HD1.out; have := HES.out; omega
      have hkc : (V.putObj D' (.deferred none)).heap[D1]? = some (.deferred (some [])) := ((grownBy_putObj' V D' (.deferred none)).block D1 (Array.getElem?_eq_some_iff.1 hkb).1 (fun e => hne (by cases e; rfl))).trans hkb
      have hcV : V.cell? ⟨A + 1, 0, none⟩ = some (.bool true) := by rw [hV]; exact (H4.out.set (.bool true)).cell
      have c51 := cell_kept hcV (grownBy_putObj' _ D' (.deferred none)) (fun r e => by cases e; exact ⟨_, hka, rfl⟩)
      have c5 := cell_kept c51 (grownBy_putObj' _ D1 (.deferred none)) (fun r e => by cases e; exact ⟨_, hkc, rfl⟩)
      have hbV : RowKit.Below w.heap.size w V := by rw [hV]; exact HBEL.out.setCell (p := ⟨A + 1, 0, none⟩) (by show w.heap.size ≤ A + 1; rw [HAA.out]; omega) _
      have hfin := (hbV.trans (belowK_b (w := w) (Nat.le_refl _) _ D' _ (.deferred none) (by have := HD1.out; have := HES.out; have := HDD1.out; have := HBR.out.size; omega) hka rfl rfl)).trans (belowK_b (w := w) (Nat.le_refl _) _ D1 _ (.deferred none) (by have := HDD1.out; have := HBR.out.size; omega) hkc rfl rfl)
      rw [← hV]
      clear hV
      refine ⟨by simp, .inl ⟨_, _, rfl, run_takeDeferred hka, ?_⟩⟩
      refine ⟨by simp, .inl ⟨_, _, rfl, run_takeDeferred hkc, ?_⟩⟩
      exact ⟨.bool true, by simp [results, Tryd.results7, go_sem, c5], rfl, hfin⟩
    case stop =>
      rintro D' c pre W _ hp h _
      exact absurd hp h
  clear hKR
  refine range_two (k1 := 15) (k2 := 16) (j1 := 7) (j2 := 16) (by decide) (gf := 25) (lb := #[.pointer (some ⟨D, 0, none⟩)]) rfl (enters_of Tryd.func25 (by kernel_rfl) rfl)
    (HST.out _ D (by decide) wR (by have := HRS.out; omega) HRB.out.cell) (fun h k => KeepsWalks.trans h k) (kpB_b (B := 0))
    (EI w A D tk s)
    (EX w A D s)
    ?own ?ownx ?start ?assign ?body ?done ?stop (fun _ => KeepsWalks.refl _)
  case own =>
    exact OwnFrom.and (OwnFrom.and (Own.from (boxed_own _ _ _) _) (OwnFrom.and (Own.from (boxed_own _ _ _) _) (OwnFrom.and (Own.from (boxed_own _ _ _) _) (Own.from (holdsRow_own _ _ _ _ _ _ _ (fun _ _ => True)) _)))) (ownFrom_below (Nat.le_refl _) HBR.out.size)
  case ownx =>
    intro c
    exact OwnFrom.and (fun _ _ _ _ hs _ _ => hs) (OwnFrom.and (OwnFrom.and (Own.from (boxed_own _ _ _) _) (OwnFrom.and (Own.from (boxed_own _ _ _) _) (Own.from (holdsRow_own _ _ _ _ _ _ _ (fun _ _ => True)) _))) (ownFrom_below (Nat.le_refl _) HBR.out.size))
  case start => exact ⟨⟨HR1.out, HR2.out, HRB.out, _, HR6.out, World.ownsRow_nil _ _ _ _, trivial⟩, HBR.out⟩
  case assign =>
    intro l x W K hK
    gi_wp2
    simpa using hK
  case body =>
    rintro l' pre0 x W ⟨⟨b1, b2, b5, v, b3, hrow, _⟩, hbel⟩ hlt
    obtain ⟨⟨x1, x2⟩, hxb⟩ := x
    have hvs : vals (pre0 ++ [(⟨(x1, x2), hxb⟩ : RX)]) = vals pre0 ++ [(x1, x2)] := by unfold vals; rw [List.map_append]; rfl
    replace hlt : (vals pre0).length < ps.length := by unfold vals; rw [List.length_map]; exact hlt
    have HVS := Lib.hid hvs
    obtain ⟨pre, hpr⟩ : ∃ pre, pre = vals pre0 := ⟨_, rfl⟩
    rw [← hpr] at hrow hlt HVS
    clear hvs hpr
    obtain ⟨ao, cp, rfl⟩ := (Src.of_row hrow).len
    rw [List.length_map] at b3 hrow
    have HXB := Lib.hid hxb
    have HV1 := Lib.hid b1; have HV2 := Lib.hid b2; have HV5 := Lib.hid b5; have HV3 := Lib.hid b3
    have HROW := Lib.hid hrow; have HBEL := Lib.hid hbel
    have c1 := b1.cell; have c3 := b3.cell; have f3 := b3.frozen
    obtain ⟨k, hk⟩ : ∃ k, k = pre.length := ⟨_, rfl⟩
    have HK := Lib.hid hk
    rw [← hk] at c3 hlt b3 hrow HROW HV3
    have HLT := Lib.hid hlt
    have HXR : Hid ((pre.map fun p => iV p.1) ++ [Value.int .i64 (x1 : Int)] = (pre ++ [(x1, x2)]).map fun p => iV p.1) := by unfold Hid; rw [List.map_append]; rfl
    have hkb : k + 1 ≤ 17592186044416 := by have := HPL.out; omega
    obtain ⟨i0, hi9, hz0, hz1, hz2⟩ := infoOf info_int
    have HI9 := Lib.hid hi9; have HZ0 := Lib.hid hz0; have HZ1 := Lib.hid hz1; have HZ2 := Lib.hid hz2
    obtain ⟨Wx, hWx⟩ : ∃ Wx, Wx = W.alloc (.cells #[.int .i64 (x1 : Int)] 3) := ⟨_, rfl⟩
    have HX3 : Hid (Boxed Wx (D + 1) 25 (.slice ao k cp)) := by unfold Hid; rw [hWx]; exact b3.alloc _
    have HX1 : Hid (Boxed Wx A 3 (.int .i64 tk)) := by unfold Hid; rw [hWx]; exact b1.alloc _
    have HX2 : Hid (Boxed Wx (A + 1) 4 (.bool false)) := by unfold Hid; rw [hWx]; exact b2.alloc _
    have HX5 : Hid (Boxed Wx D 9 (.string s)) := by unfold Hid; rw [hWx]; exact b5.alloc _
    have HXW : Hid (Wx.ownsRow (D + 1) 3 1 (.slice ao k cp) k (pre.map fun p => iV p.1)) := by unfold Hid; rw [hWx]; exact hrow.alloc _
    have HXL : Hid (RowKit.Below w.heap.size w Wx) := by unfold Hid; rw [hWx]; exact hbel.alloc hbel.size _
    have HXK : Hid (KeepsOthers W Wx) := by unfold Hid; rw [hWx]; exact KeepsOthers.of_bw (bw_alloc W _)
    have HXC : Hid (∀ j u, [Value.int .i64 (x1 : Int)][j]? = some u → Wx.cell? ((⟨W.heap.size, 0, none⟩ : Addr).add j) = some u) := by
      unfold Hid; rw [hWx]
      intro j u hu
      match j with
      | 0 => simp at hu; subst hu; exact cell_of (heap_new W _) rfl
      | j + 1 => simp at hu
    have HXM : Hid (k + 1 ≤ maxLen) := by unfold Hid maxLen; omega
    have HXN : Hid ((k + 1) * 8 ≤ 140737488355328) := by unfold Hid; omega
    have HXO : Hid (D + 1 ≤ Wx.heap.size) := Nat.le_of_lt HX3.out.lt
    have HWX := Lib.hid hWx
    have hk0 : 0 ≤ (k : Int) := by omega
    clear hWx b1 b2 b5 b3 hrow hbel hlt hk hi9 hz0 hz1 hz2 hkb
    simp only [List.setIfInBounds_toArray, List.set_cons_zero, List.set_cons_succ]
    by_cases hge : tk ≤ (k : Int)
    · have d1 : decide (tk ≤ (k : Int)) = true := decide_eq_true hge
      gi_wp2
      exact ⟨(KeepsOthers.of_bw (BW.refl W)).from _, rfl, ⟨HV2.out, HV5.out, _, HV3.out, by rw [HVS.out, List.dropLast_concat, ← HK.out]; exact HROW.out, trivial⟩, HBEL.out⟩
    · have d1 : decide (tk ≤ (k : Int)) = false := decide_eq_false hge
      clear hge
      gi_wp2_with (gi_at_builtin; rw [← HWX.out]; refine wpListIn_append_own _ rfl _ _ 25 rfl (D + 1) 3 i0 (.int .i64 0) 1 8 Tryd.underlying25 HI9.out HZ0.out HZ1.out HZ2.out rfl (by decide) (.slice ao k cp) k (pre.map fun p => iV p.1) rfl HXW.out ⟨W.heap.size, 0, none⟩ 1 1 [.int .i64 (x1 : Int)] rfl rfl HXC.out (by simp [Value.oneCell']) HXM.out HXN.out HXO.out ?_; intro v6 w6 ho6 hg6 _; have k3 := HX3.out.kept hg6 (HX3.out.not_row (by decide) HXW.out); have c63 := k3.cell; have f63 := k3.frozen; have K3 := Lib.hid k3; have HO6 := Lib.hid ho6; have HG6 := Lib.hid hg6; clear k3; obtain ⟨o6, n6, c6, rfl⟩ := row_form ho6; clear ho6 hg6)
      have hk6 := K3.out.set (.slice o6 n6 c6)
      have j1 := HX1.out.kept HG6.out (fun e => by have := row_own HXW.out A e.symm; have := HAD.out; omega)
      have hda : A + 1 < D := HAD.out
      have HKA : KeepsOthers W w6 := by
        refine HXK.out.trans (KeepsOthers.of_grownBy HG6.out fun j o ej hj => ?_)
        rcases HXW.out.2 with ⟨e9, _⟩ | ⟨g, cp9, cur, e9, _, hgb, _⟩
        · rw [e9] at ej; simp [Value.ownBlock] at ej
        · rw [e9] at ej
          obtain rfl : g = j := by simpa [Value.ownBlock] using ej
          rw [hgb] at hj; cases hj; rfl
      refine ⟨(HKA.trans (KeepsOthers.setCell _ _ _)).from _, (HKA.trans (KeepsOthers.setCell _ _ _)).walks, ⟨⟨j1.other (by omega) _, (HX2.out.kept HG6.out (HX2.out.not_row (by decide) HXW.out)).other (by omega) _, (HX5.out.kept HG6.out (HX5.out.not_row (by decide) HXW.out)).other (by omega) _, _, hk6, ?_, trivial⟩, ?_⟩⟩
      · rw [HVS.out, ← HXR.out, List.length_append, ← HK.out]
        exact HO6.out.kept (grownBy_setCell' w6 _ _) (.inr (K3.out.not_row (by decide) HO6.out).symm)
      · refine (HXL.out.grown HG6.out HXL.out.size (fun b e => ?_)).setCell (p := ⟨D + 1, 0, none⟩) (by show w.heap.size ≤ D + 1; have := HAA.out; omega) _
        have := row_own HXW.out b e; have := HAA.out; omega
  case done =>
    rintro D' ys W hD' hys ⟨⟨b1, b2, b5, v, b3, hrow, _⟩, hbel⟩ hK
    exact REST.out W D' _ v hD' (by rw [hys]; exact List.prefix_rfl) b2 b5 b3 hrow hbel hK
  case stop =>
    rintro D' c pre W hD' hp ⟨rfl, ⟨b2, b5, v, b3, hrow, _⟩, hbel⟩ hK
    gi_wp2
    exact REST.out W D' _ v hD' ((List.dropLast_prefix _).trans hp) b2 b5 b3 hrow hbel hK
end Go.Proofs.YthhdmpdnfelhnaaDoor
