/- FoldWhole: the walk. -/
import Derived.Test.YthhdmpdnfelhnaaDoorFldS
import Derived.Test.YthhdmpdnfelhnaaDoorFldR
namespace Go.Proofs.YthhdmpdnfelhnaaDoor
open Go.RowKit Go.Maps Fld Go.Shelf
attribute [local go_sem] Oper.semAt_some

theorem boxed_keep {W W' : World} {row : Option Nat} {B : Nat} {t : TypeId} {v : Value} (h : Boxed W B t v) (hg : W.grownBy W' row) (hr : ∀ r, row = some r → ∃ o : Obj, W.heap[r]? = some o ∧ o.isCells = false) : Boxed W' B t v :=
  h.kept hg (fun e => by
    obtain ⟨o, ho, hc⟩ := hr B e.symm
    rw [show W.heap[B]? = _ from h] at ho; cases ho; cases hc)
theorem boxed_bw {W W' : World} {B : Nat} {t : TypeId} {v : Value} (h : Boxed W B t v) (hb : BW W W') : Boxed W' B t v := (hb.block _ h.lt).trans h
theorem nextAt_in {l : List UInt8} {k : Nat} (h : k < l.length) : nextAt l (k : Int) = nextL (l.drop k) := by
  unfold nextAt; rw [if_neg (by omega)]; rfl
theorem prefix_at {ps pre : List (Nat × Nat)} {l : List UInt8} {k : Nat} (hk : k < l.length) (h : ps = pre ++ placesC k (cutsL (l.drop k))) : ps = (pre ++ [(k, (nextL (l.drop k)).1)]) ++ placesC (k + (nextL (l.drop k)).2) (cutsL (l.drop (k + (nextL (l.drop k)).2))) := by
  rw [h, places_step hk, List.append_assoc]; rfl
theorem prefix_not {ps pre : List (Nat × Nat)} {l : List UInt8} {k : Nat} (hk : k < l.length) (h : ps = pre ++ placesC k (cutsL (l.drop k))) {x : Nat × Nat} (hx : x ≠ (k, (nextL (l.drop k)).1)) : ¬ pre ++ [x] <+: ps := by
  rw [h, places_step hk, List.prefix_append_right_inj]
  intro h2
  exact hx (List.cons_prefix_cons.1 h2).1
theorem piece_rune {l : List UInt8} (h : l ≠ []) : isRune ((nextL l).1 : Int) = true := by
  rcases split_head h with ⟨c, h1, _⟩ | ⟨h1, _⟩
  · rw [h1]; decide
  · exact h1
set_option maxRecDepth 100000 in
set_option maxHeartbeats 4000000 in
theorem foldWhole_any (l : List UInt8) (hl : (l.length : Int) ≤ 140737488351232) (w : World) (hT : Tabs w) : Calls Tryd.prog 4 #[textV l] w (TruePost w) := by
  have HNX := Lib.hid (fun (x : Nat) (hx : x ≤ 1000000000000000) (W : World) (hW : BW w W) => next_any (l := l) (at' := (x : Int)) (by omega) (by omega) (by omega) W (hT.bw hW))
  have HV := Lib.hid (fun W (hW : BW w W) => valid_any l (by omega) W (hT.bw hW))
  have HKN := Lib.hid (fun W (hW : BW w W) => known_any W (hT.bw hW))
  have HIN := Lib.hid (fun W => runes_in l W)
  have HST := Lib.hid (fun (m Bn : Nat) (hm : 1 ≤ m) (W : World) (hB : Bn < W.heap.size) (hc : W.cell? ⟨Bn, 0, none⟩ = some (textV l)) => runes_stops l (by omega) m Bn hm W hB hc)
  obtain ⟨v, hv⟩ : ∃ v, v = validL l := ⟨_, rfl⟩
  rw [← hv] at HV
  obtain ⟨ps, hps⟩ : ∃ ps, ps = placesL l := ⟨_, rfl⟩
  rw [← hps] at HST
  obtain ⟨s, hs⟩ : ∃ s, s = ByteArray.mk l.toArray := ⟨_, rfl⟩
  unfold textV at HNX HV HIN HST ⊢
  rw [← hs] at HNX HV HIN HST ⊢
  have hsz : s.size = l.length := by rw [hs]; exact text_size l
  have HS := Lib.hid hs
  have HSZ := Lib.hid hsz
  have HVV := Lib.hid hv
  have HPS := Lib.hid hps
  have HLL := Lib.hid hl
  clear hv hps hs hsz hl hT
  refine (callsIn_wide (n := 5)).1 ?_
  refine callsIn_of_wp_marks Tryd.func4 rfl trivial ?_ rfl
  simp only [Tryd.ntmps4, List.size_toArray, List.length_cons, List.length_nil, Nat.reduceAdd, Nat.reduceSub, Array.replicate_succ, Array.replicate_zero, List.push_toArray, List.append_toArray, List.nil_append, List.cons_append]
  gi_wp2
  refine ⟨trivial, ?_⟩
  refine (callsIn_wide.2 (HKN.out _ ((bw_alloc w _).alloc _))).mono ?_
  rintro e w1 ⟨rfl, hq⟩
  obtain ⟨A, hA⟩ : ∃ A, A = w.heap.size := ⟨_, rfl⟩
  have hq1 := boxed_bw ((Boxed.new w 9 (.string s)).alloc (.cells #[.bool false] 4)) hq
  have hq2 := boxed_bw (Boxed.new (w.alloc (.cells #[.string s] 9)) 4 (.bool false)) hq
  rw [World.size_alloc] at hq2
  have HB1 : Hid (BW w w1) := ((bw_alloc w _).alloc _).trans hq
  rw [← hA] at hq1 hq2 ⊢
  have HC1 : Hid (Boxed w1 A 9 (.string s)) := hq1
  have HC2 : Hid (Boxed w1 (A + 1) 4 (.bool false)) := hq2
  have HAA := Lib.hid hA
  clear hq hq1 hq2 hA
  obtain ⟨D, hD⟩ : ∃ D, D = w1.heap.size := ⟨_, rfl⟩
  obtain ⟨wX, hwX⟩ : ∃ wX, wX = (w1.alloc (.cells #[.int .i64 0] 3)).alloc (.cells #[.string ⟨#[]⟩] 9) := ⟨_, rfl⟩
  have HX1 : Hid (Boxed wX A 9 (.string s)) := by unfold Hid; rw [hwX]; exact (HC1.out.alloc _).alloc _
  have HX2 : Hid (Boxed wX (A + 1) 4 (.bool false)) := by unfold Hid; rw [hwX]; exact (HC2.out.alloc _).alloc _
  have HX3 : Hid (Boxed wX D 3 (.int .i64 0)) := by unfold Hid; rw [hwX, hD]; exact (Boxed.new w1 3 _).alloc _
  have HX4 : Hid (Boxed wX (D + 1) 9 (.string ⟨#[]⟩)) := by
    unfold Hid; rw [hwX, hD]
    have h := Boxed.new (w1.alloc (.cells #[.int .i64 0] 3)) 9 (.string ⟨#[]⟩)
    rw [World.size_alloc] at h; exact h
  have HBX : Hid (BW w wX) := by unfold Hid; rw [hwX]; exact (HB1.out.alloc _).alloc _
  have HXS : Hid (wX.heap.size = D + 2) := by unfold Hid; rw [hwX, hD]; simp
  have HLT1 : Hid (A + 1 < D) := by unfold Hid; rw [hD]; exact HC2.out.lt
  have c1 : w1.cell? ⟨A, 0, none⟩ = some (.string s) := HC1.out.cell
  have hlt1 : A < w1.heap.size := HC1.out.lt
  have c1X : ((w1.alloc (.cells #[.int .i64 0] 3)).alloc (.cells #[.string ⟨#[]⟩] 9)).cell? ⟨A, 0, none⟩ = some (.string s) := by rw [← hwX]; exact HX1.out.cell
  have HWX := Lib.hid hwX
  have HDD := Lib.hid hD
  clear hwX hD
  gi_wp2
  rw [← HWX.out]
  refine ⟨trivial, ?_⟩
  refine (callsIn_wide.2 (HV.out _ HBX.out)).mono ?_
  rintro e w2 ⟨rfl, hq⟩
  have H21 : Hid (Boxed w2 A 9 (.string s)) := boxed_bw HX1.out hq
  have H22 : Hid (Boxed w2 (A + 1) 4 (.bool false)) := boxed_bw HX2.out hq
  have H23 : Hid (Boxed w2 D 3 (.int .i64 0)) := boxed_bw HX3.out hq
  have H24 : Hid (Boxed w2 (D + 1) 9 (.string ⟨#[]⟩)) := boxed_bw HX4.out hq
  have HB2 := Lib.hid (HBX.out.trans hq)
  clear hq c1 c1X hlt1
  obtain ⟨wY, hwY⟩ : ∃ wY, wY = w2.alloc (.cells #[.bool false] 4) := ⟨_, rfl⟩
  have c2 : (w2.alloc (.cells #[.bool false] 4)).cell? ⟨A, 0, none⟩ = some (.string s) := (H21.out.alloc _).cell
  have HWY := Lib.hid hwY
  have c2' : w2.cell? ⟨A, 0, none⟩ = some (.string s) := H21.out.cell
  have hlt2 : A < w2.heap.size := H21.out.lt
  rw [← HDD.out]
  clear hwY
  gi_wp2
  rw [← HWY.out]
  refine ⟨trivial, ?_⟩
  refine (callsIn_wide.2 (HIN.out _)).mono ?_
  rintro e wR ⟨rfl, hwR⟩
  obtain ⟨E, hE⟩ : ∃ E, E = w2.heap.size := ⟨_, rfl⟩
  have hYS : wY.heap.size = E + 1 := by rw [HWY.out, hE]; simp
  have HDE : Hid (D + 1 < E) := by unfold Hid; rw [hE]; exact H24.out.lt
  have HR1 : Hid (Boxed wR A 9 (.string s)) := by unfold Hid; rw [← hwR, HWY.out]; exact (H21.out.alloc _).alloc _
  have HR2 : Hid (Boxed wR (A + 1) 4 (.bool false)) := by unfold Hid; rw [← hwR, HWY.out]; exact (H22.out.alloc _).alloc _
  have HR3 : Hid (Boxed wR D 3 (.int .i64 0)) := by unfold Hid; rw [← hwR, HWY.out]; exact (H23.out.alloc _).alloc _
  have HR4 : Hid (Boxed wR (D + 1) 9 (.string ⟨#[]⟩)) := by unfold Hid; rw [← hwR, HWY.out]; exact (H24.out.alloc _).alloc _
  have HR6 : Hid (Boxed wR E 4 (.bool false)) := by unfold Hid; rw [← hwR, HWY.out, hE]; exact (Boxed.new w2 4 _).alloc _
  have HRB : Hid (Boxed wR (E + 1) 9 (.string s)) := by unfold Hid; rw [← hwR, ← hYS]; exact Boxed.new wY 9 _
  have HBR : Hid (BW w wR) := by unfold Hid; rw [← hwR, HWY.out]; exact (HB2.out.alloc _).alloc _
  have HRS : Hid (wR.heap.size = E + 2) := by unfold Hid; rw [← hwR, World.size_alloc, hYS]
  rw [hYS, ← hE]
  clear hwR hYS hE HIN HV c2 c2' hlt2
  gi_wp2
  refine range_two (j1 := 7) (j2 := 8) (by decide) (gf := 25) (lb := #[.pointer (some ⟨E + 1, 0, none⟩)]) rfl (enters_of Tryd.func25 (by kernel_rfl) rfl)
    (HST.out _ (E + 1) (by decide) wR (by have := HRS.out; omega) HRB.out.cell) (fun h k => KeepsWalks.trans h k) (kpB_b (B := 0))
    (fun pre W => (Boxed W A 9 (.string s) ∧ Boxed W (A + 1) 4 (.bool false) ∧ Boxed W (E + 1) 9 (.string s) ∧ ∃ (k : Nat) (ov : Bool), Boxed W D 3 (.int .i64 (k : Int)) ∧ Boxed W (D + 1) 9 (.string ⟨(l.take k).toArray⟩) ∧ Boxed W E 4 (.bool ov) ∧ k ≤ l.length ∧ ps = vals pre ++ placesC k (cutsL (l.drop k)) ∧ v = (!ov && validL (l.drop k))) ∧ RowKit.Below w.heap.size w W)
    (fun _ pre _ => ¬ vals pre <+: ps)
    ?own ?ownx ?start ?assign ?body ?done ?stop (fun _ => KeepsWalks.refl _)
  case own =>
    rintro pre W W' row ⟨⟨b1, b2, b5, k, ov, b3, b4, b6, r⟩, hb⟩ hg hr
    have hr' : ∀ r, row = some r → ∃ o : Obj, W.heap[r]? = some o ∧ o.isCells = false := fun r e => (hr r e).2
    exact ⟨⟨boxed_keep b1 hg hr', boxed_keep b2 hg hr', boxed_keep b5 hg hr', k, ov, boxed_keep b3 hg hr', boxed_keep b4 hg hr', boxed_keep b6 hg hr', r⟩, hb.grown hg hb.size (fun q e => by have := (hr q e).1; have := HBR.out.size; omega)⟩
  case ownx => exact fun _ _ _ _ _ hs _ _ => hs
  case start => exact ⟨⟨HR1.out, HR2.out, HRB.out, 0, false, HR3.out, by rw [List.take_zero]; exact HR4.out, HR6.out, Nat.zero_le _, by rw [HPS.out, List.drop_zero]; rfl, by rw [HVV.out, List.drop_zero]; rfl⟩, HBR.out⟩
  case assign =>
    intro l x W K hK
    gi_wp2
    simpa using hK
  case body =>
    rintro l' pre0 x W ⟨⟨b1, b2, b5, k, ov, b3, b4, b6, hkl, hpl, hvl⟩, hbel⟩ hlt
    obtain ⟨⟨x1, x2⟩, hxb⟩ := x
    have hvs : vals (pre0 ++ [(⟨(x1, x2), hxb⟩ : RX)]) = vals pre0 ++ [(x1, x2)] := by unfold vals; rw [List.map_append]; rfl
    have hkl2 : k < l.length := by
      rcases Nat.lt_or_ge k l.length with h | h
      · exact h
      · rw [List.drop_eq_nil_of_le h, cuts_nil, placesC, List.append_nil] at hpl
        have h2 := congrArg List.length hpl
        unfold vals at h2
        rw [List.length_map] at h2
        omega
    have HVS := Lib.hid hvs
    obtain ⟨pre, hpr⟩ : ∃ pre, pre = vals pre0 := ⟨_, rfl⟩
    rw [← hpr] at hpl HVS
    have HKL := Lib.hid hkl2
    have HPL := Lib.hid hpl
    have HVL := Lib.hid hvl
    have HB1' := Lib.hid b1; have HB2' := Lib.hid b2; have HB3' := Lib.hid b3; have HB4' := Lib.hid b4; have HB5' := Lib.hid b5; have HB6' := Lib.hid b6
    have HBEL := Lib.hid hbel
    have c1 := b1.cell
    have HC := Lib.hid (HNX.out x1 hxb.1)
    have HXB := Lib.hid hxb
    obtain ⟨q, hq⟩ : ∃ q, q = nextAt l (x1 : Int) := ⟨_, rfl⟩
    rw [← hq] at HC
    obtain ⟨q1, q2⟩ := q
    have HQ := Lib.hid hq
    clear hvs hpr hpl hvl hkl hkl2 b1 b2 b3 b4 b5 b6 hbel hlt hq
    simp only [List.setIfInBounds_toArray, List.set_cons_zero, List.set_cons_succ]
    gi_wp2
    refine ⟨trivial, ?_⟩
    refine (CallsIn.inRound l' (callsIn_wide.2 (HC.out _ HBEL.out))).mono ?_
    rintro e W1 ⟨rfl, hq⟩
    have G1 := Lib.hid (boxed_bw HB1'.out hq); have G2 := Lib.hid (boxed_bw HB2'.out hq); have G3 := Lib.hid (boxed_bw HB3'.out hq); have G4 := Lib.hid (boxed_bw HB4'.out hq); have G5 := Lib.hid (boxed_bw HB5'.out hq); have G6 := Lib.hid (boxed_bw HB6'.out hq)
    have HK1 := Lib.hid (KeepsOthers.of_bw hq)
    have HG1 : Hid (RowKit.Below w.heap.size w W1) := HBEL.out.trans (hq.mono HBEL.out.size)
    have c1 := G1.out.cell; have c2 := G2.out.cell; have c3 := G3.out.cell
    have f2 := G2.out.frozen
    clear hq HC
    by_cases hxk : x1 = k
    · obtain rfl : k = x1 := hxk.symm
      have t1 : ((k : Int) != (k : Int)) = false := by simp
      have hnl : nextL (l.drop k) = (q1, q2) := by rw [HQ.out, nextAt_in HKL.out]
      have hp := next_at HKL.out
      have hrn := piece_rune (drop_ne HKL.out)
      have hbk := next_back (drop_ne HKL.out)
      have hvs := valid_step (drop_ne HKL.out)
      have hpn := fun (y : Nat × Nat) => prefix_not (x := y) HKL.out HPL.out
      have hpa := prefix_at HKL.out HPL.out
      rw [hnl] at hp hrn hbk hvs hpn hpa
      simp only at hp hrn hbk hvs hpn hpa
      rw [List.drop_drop] at hvs
      by_cases hx2 : x2 = q1
      case neg =>
        have t2 : ((q1 : Int) != (x2 : Int)) = true := by simp; omega
        have HP : Hid (¬ vals (pre0 ++ [(⟨(k, x2), HXB.out⟩ : RX)]) <+: ps) := by
          unfold Hid; rw [HVS.out]; exact hpn _ (fun e => hx2 (congrArg Prod.snd e))
        clear hx2 hnl hp hrn hbk hvs hpn hpa hxk
        gi_wp2
        exact ⟨(HK1.out.trans (KeepsOthers.setCell _ _ _)).from _, HP.out⟩
      case pos =>
        subst hx2
        have t2 : ((x2 : Int) != (x2 : Int)) = false := by simp
        obtain ⟨t, ht⟩ : ∃ t, t = k + q2 := ⟨_, rfl⟩
        have hti : (k : Int) + (q2 : Int) = (t : Int) := by omega
        have hts : (t : Int) ≤ (s.size : Int) := by have := HSZ.out; omega
        have hkt : (k : Int) ≤ (t : Int) := by omega
        have ht0 : 0 ≤ (t : Int) := by omega
        have hk0 : 0 ≤ (k : Int) := by omega
        have htb : (t : Int) ≤ 140737488351232 := by have := HLL.out; have := HSZ.out; omega
        have d1 : decide ((q2 : Int) < 1) = false := decide_eq_false (by omega)
        have d2 : decide (4 < (q2 : Int)) = false := decide_eq_false (by omega)
        have d3 : decide ((s.size : Int) < (t : Int)) = false := decide_eq_false (by omega)
        have d3' : decide (s.size < t) = false := decide_eq_false (by omega)
        have HPUT := Lib.hid (put_yes (r := (x2 : Int)) (by have := isRune_nat.1 hrn; omega) (by have := isRune_nat.1 hrn; omega) hrn W1)
        rw [Int.toNat_natCast] at HPUT
        have HTK : Hid ((s.extract k t).data.toList = (l.drop k).take q2) := by
          unfold Hid; rw [HS.out, ByteArray.extract_mk, ht, show k + q2 - k = q2 by omega]
        have HTK2 : Hid ((s.extract k t).toList = (l.drop k).take q2) := by
          unfold Hid; rw [HS.out, ByteArray.extract_mk, ByteArray.toList_mk, ht, show k + q2 - k = q2 by omega]
        have HTT : Hid (l.take t = l.take k ++ (l.drop k).take q2) := by unfold Hid; rw [ht, List.take_add]
        obtain ⟨ag, hag⟩ : ∃ ag : ByteArray, ag = ⟨(l.take k).toArray⟩ := ⟨_, rfl⟩
        have hagz : ag.size = k := by rw [hag, text_size, List.length_take]; have := HKL.out; omega
        have HPA : Hid (ps = vals (pre0 ++ [(⟨(k, x2), HXB.out⟩ : RX)]) ++ placesC t (cutsL (l.drop t))) := by
          unfold Hid; rw [HVS.out, ht]; exact hpa
        have HTL : Hid (t ≤ l.length) := by unfold Hid; omega
        have G4' : Hid (Boxed W1 (D + 1) 9 (.string ag)) := by unfold Hid; rw [hag]; exact G4.out
        have HAG := Lib.hid hag
        have HT := Lib.hid ht
        obtain ⟨fr, hfr⟩ : ∃ fr, fr = formP x2 := ⟨_, rfl⟩
        rw [← hfr] at HPUT
        have hfl : (fr.length : Int) ≤ 4 := by rw [hfr, form_len]; split <;> (try split) <;> (try split) <;> omega
        have hsum : (ag.size : Int) + (fr.length : Int) ≤ 140737488355328 := by rw [hagz]; omega
        by_cases hodd : x2 = 65533 ∧ q2 = 1
        · obtain ⟨rfl, rfl⟩ := hodd
          have HV1 : Hid (v = (!true && validL (l.drop t))) := by
            unfold Hid; rw [HVL.out, hvs]; simp
          have HES : Hid (ag ++ s.extract k t = ⟨(l.take t).toArray⟩) := by
            unfold Hid
            have e : s.extract k t = ⟨((l.drop k).take 1).toArray⟩ := by rw [HS.out, ByteArray.extract_mk, ht, show k + 1 - k = 1 by omega]
            rw [e, HAG.out, ByteArray.mk_append_mk, HTT.out]
          have hexz : (ag.size : Int) + ((s.extract k t).size : Int) ≤ 140737488355328 := by
            have h := congrArg List.length HTK.out
            rw [List.length_take] at h
            have h2 : (s.extract k t).data.toList.length = (s.extract k t).size := by rw [Array.length_toList]; rfl
            omega
          clear hnl hp hrn hbk hvs hpn hpa hxk ht hag hagz hfr
          gi_wp2
          refine ⟨trivial, ?_⟩
          refine (CallsIn.inRound l' (callsIn_wide.2 HPUT.out)).mono ?_
          rintro e W2 ⟨rfl, hq⟩
          have P1 := Lib.hid (boxed_bw G1.out hq); have P2 := Lib.hid (boxed_bw G2.out hq); have P3 := Lib.hid (boxed_bw G3.out hq); have P4 := Lib.hid (boxed_bw G4'.out hq); have P5 := Lib.hid (boxed_bw G5.out hq); have P6 := Lib.hid (boxed_bw G6.out hq)
          have HK2 := Lib.hid (HK1.out.trans (KeepsOthers.of_bw hq))
          have HG2 : Hid (RowKit.Below w.heap.size w W2) := HG1.out.trans (hq.mono HG1.out.size)
          have c1 := P1.out.cell; have c3 := P3.out.cell; have c4 := P4.out.cell; have c6 := P6.out.cell
          have f3 := P3.out.frozen; have f4 := P4.out.frozen; have f6 := P6.out.frozen
          have n1 : ¬ A = E := by have := HLT1.out; have := HDE.out; omega
          have n2 : ¬ E = A := by have := HLT1.out; have := HDE.out; omega
          have n3 : ¬ D + 1 = E := by have := HDE.out; omega
          have n4 : ¬ E = D + 1 := by have := HDE.out; omega
          have n5 : ¬ D = E := by have := HDE.out; omega
          have n6 : ¬ E = D := by have := HDE.out; omega
          have n7 : ¬ A = D + 1 := by have := HLT1.out; omega
          have n8 : ¬ D + 1 = A := by have := HLT1.out; omega
          clear hq HPUT c2 f2
          gi_wp2
          have hne : A + 1 < D := HLT1.out
          have hde : D + 1 < E := HDE.out
          have e1 : ag ++ s.extract k (k + 1) = ⟨(l.take (k + 1)).toArray⟩ := by have h := HES.out; rw [HT.out] at h; exact h
          rw [e1]
          refine ⟨(((HK2.out.trans (KeepsOthers.setCell _ _ _)).trans (KeepsOthers.setCell _ _ _)).trans (KeepsOthers.setCell _ _ _)).from _, (((HK2.out.trans (KeepsOthers.setCell _ _ _)).trans (KeepsOthers.setCell _ _ _)).trans (KeepsOthers.setCell _ _ _)).walks,
            ⟨⟨((P1.out.other (by omega) _).other (by omega) _).other (by omega) _, ((P2.out.other (by omega) _).other (by omega) _).other (by omega) _, ((P5.out.other (by omega) _).other (by omega) _).other (by omega) _, k + 1, true, ((P3.out.other (by omega) _).other (by omega) _).set _, ((P4.out.other (by omega) _).set _).other (by omega) _, ((P6.out.set _).other (by omega) _).other (by omega) _, by have := HTL.out; have := HT.out; omega, by have h := HPA.out; rw [HT.out] at h; exact h, by have h := HV1.out; rw [HT.out] at h; exact h⟩, ?_⟩⟩
          exact ((HG2.out.setCell (p := ⟨E, 0, none⟩) (by show w.heap.size ≤ E; have := HAA.out; omega) _).setCell (p := ⟨D + 1, 0, none⟩) (by show w.heap.size ≤ D + 1; have := HAA.out; omega) _).setCell (p := ⟨D, 0, none⟩) (by show w.heap.size ≤ D; have := HAA.out; omega) _
        · have hne1 : nextL (l.drop k) ≠ (65533, 1) := by rw [hnl]; intro e; injection e with e1 e2; exact hodd ⟨e1, e2⟩
          have hform := (hbk (by rw [hnl] at hne1; exact hne1)).2
          have HV1 : Hid (v = (!ov && validL (l.drop t))) := by
            unfold Hid; rw [HVL.out, hvs, ht]
            have : (decide (x2 = 65533) && decide (q2 = 1)) = false := by
              rw [Bool.and_eq_false_iff, decide_eq_false_iff_not, decide_eq_false_iff_not]; omega
            rw [this]; rfl
          have HES : Hid (ag ++ ⟨fr.toArray⟩ = ⟨(l.take t).toArray⟩) := by
            unfold Hid
            rw [hag, hfr, hform, ByteArray.mk_append_mk, HTT.out]
          have hcmp : (fr == (s.extract k t).toList) = true := by rw [HTK2.out, hfr, hform]; exact beq_self_eq_true _
          have HW : Hid (∀ W2 : World, BW W1 W2 → Hid (Boxed W2 A 9 (.string s)) ∧ Hid (Boxed W2 (A + 1) 4 (.bool false)) ∧ Hid (Boxed W2 D 3 (.int .i64 (k : Int))) ∧ Hid (Boxed W2 (D + 1) 9 (.string ag)) ∧ Hid (Boxed W2 (E + 1) 9 (.string s)) ∧ Hid (Boxed W2 E 4 (.bool ov)) ∧ Hid (KeepsOthers W W2) ∧ Hid (RowKit.Below w.heap.size w W2)) := fun W2 hq =>
            ⟨boxed_bw G1.out hq, boxed_bw G2.out hq, boxed_bw G3.out hq, boxed_bw G4'.out hq, boxed_bw G5.out hq, boxed_bw G6.out hq, HK1.out.trans (KeepsOthers.of_bw hq), HG1.out.trans (hq.mono HG1.out.size)⟩
          have n7 : ¬ A = D + 1 := by have := HLT1.out; omega
          have n8 : ¬ D + 1 = A := by have := HLT1.out; omega
          have hfin : ∀ W2, Hid (Boxed W2 A 9 (.string s)) → Hid (Boxed W2 (A + 1) 4 (.bool false)) → Hid (Boxed W2 D 3 (.int .i64 (k : Int))) → Hid (Boxed W2 (D + 1) 9 (.string ag)) → Hid (Boxed W2 (E + 1) 9 (.string s)) → Hid (Boxed W2 E 4 (.bool ov)) → Hid (KeepsOthers W W2) → Hid (RowKit.Below w.heap.size w W2) →
              KeepsFrom wR.heap.size W ((W2.setCell ⟨D + 1, 0, none⟩ (.string (ag ++ ⟨fr.toArray⟩))).setCell ⟨D, 0, none⟩ (.int .i64 (t : Int))) ∧ KpB (E + 1) W ((W2.setCell ⟨D + 1, 0, none⟩ (.string (ag ++ ⟨fr.toArray⟩))).setCell ⟨D, 0, none⟩ (.int .i64 (t : Int))) ∧
              (fun (pre : List RX) (W : World) => (Boxed W A 9 (.string s) ∧ Boxed W (A + 1) 4 (.bool false) ∧ Boxed W (E + 1) 9 (.string s) ∧ ∃ (k : Nat) (ov : Bool), Boxed W D 3 (.int .i64 (k : Int)) ∧ Boxed W (D + 1) 9 (.string ⟨(l.take k).toArray⟩) ∧ Boxed W E 4 (.bool ov) ∧ k ≤ l.length ∧ ps = vals pre ++ placesC k (cutsL (l.drop k)) ∧ v = (!ov && validL (l.drop k))) ∧ RowKit.Below w.heap.size w W) (pre0 ++ [(⟨(k, x2), HXB.out⟩ : RX)]) ((W2.setCell ⟨D + 1, 0, none⟩ (.string (ag ++ ⟨fr.toArray⟩))).setCell ⟨D, 0, none⟩ (.int .i64 (t : Int))) := by
            intro W2 P1 P2 P3 P4 P5 P6 HK2 HG2
            have hne : A + 1 < D := HLT1.out
            have hde : D + 1 < E := HDE.out
            rw [HES.out]
            refine ⟨((HK2.out.trans (KeepsOthers.setCell _ _ _)).trans (KeepsOthers.setCell _ _ _)).from _, ((HK2.out.trans (KeepsOthers.setCell _ _ _)).trans (KeepsOthers.setCell _ _ _)).walks,
              ⟨⟨(P1.out.other (by omega) _).other (by omega) _, (P2.out.other (by omega) _).other (by omega) _, (P5.out.other (by omega) _).other (by omega) _, t, ov, (P3.out.other (by omega) _).set _, (P4.out.set _).other (by omega) _, (P6.out.other (by omega) _).other (by omega) _, HTL.out, HPA.out, HV1.out⟩, ?_⟩⟩
            exact (HG2.out.setCell (p := ⟨D + 1, 0, none⟩) (by show w.heap.size ≤ D + 1; have := HAA.out; omega) _).setCell (p := ⟨D, 0, none⟩) (by show w.heap.size ≤ D; have := HAA.out; omega) _
          have HFIN := Lib.hid hfin
          have hsp : (x2 = 65533 ∧ ¬ q2 = 1) ∨ ¬ x2 = 65533 := by omega
          clear hfin hnl hp hrn hbk hvs hpn hpa hxk ht hag hagz hfr hne1 hform hodd
          rcases hsp with ⟨hs1, hs2⟩ | hs1
          · have u1 : ((x2 : Int) == 65533) = true := by simp [hs1]
            have u2 : ((q2 : Int) == 1) = false := by simp; omega
            clear hs1 hs2
            gi_wp2
            refine ⟨trivial, ?_⟩
            refine (CallsIn.inRound l' (callsIn_wide.2 HPUT.out)).mono ?_
            rintro e W2 ⟨rfl, hq⟩
            obtain ⟨P1, P2, P3, P4, P5, P6, HK2, HG2⟩ := HW.out W2 hq
            have c1 := P1.out.cell; have c3 := P3.out.cell; have c4 := P4.out.cell; have c6 := P6.out.cell
            have f3 := P3.out.frozen; have f4 := P4.out.frozen; have f6 := P6.out.frozen
            clear hq HPUT c2 f2
            gi_wp2
            exact HFIN.out W2 P1 P2 P3 P4 P5 P6 HK2 HG2
          · have u1 : ((x2 : Int) == 65533) = false := by simp; omega
            clear hs1
            gi_wp2
            refine ⟨trivial, ?_⟩
            refine (CallsIn.inRound l' (callsIn_wide.2 HPUT.out)).mono ?_
            rintro e W2 ⟨rfl, hq⟩
            obtain ⟨P1, P2, P3, P4, P5, P6, HK2, HG2⟩ := HW.out W2 hq
            have c1 := P1.out.cell; have c3 := P3.out.cell; have c4 := P4.out.cell; have c6 := P6.out.cell
            have f3 := P3.out.frozen; have f4 := P4.out.frozen; have f6 := P6.out.frozen
            clear hq HPUT c2 f2
            gi_wp2
            exact HFIN.out W2 P1 P2 P3 P4 P5 P6 HK2 HG2
    · have t1 : ((x1 : Int) != (k : Int)) = true := by simp; omega
      have HP : Hid (¬ vals (pre0 ++ [(⟨(x1, x2), HXB.out⟩ : RX)]) <+: ps) := by
        unfold Hid; rw [HVS.out]; exact prefix_not HKL.out HPL.out (fun e => hxk (congrArg Prod.fst e))
      clear hxk
      gi_wp2
      exact ⟨(HK1.out.trans (KeepsOthers.setCell _ _ _)).from _, HP.out⟩
  case done =>
    rintro D' ys W hD' hys ⟨⟨b1, b2, b5, k, ov, b3, b4, b6, hkl, hpl, hvl⟩, hbel⟩ hK
    have hk : k = l.length := by
      rcases Nat.lt_or_ge k l.length with h | h
      · rw [hys, cuts_step (drop_ne h), placesC] at hpl
        have h2 := congrArg List.length hpl
        rw [List.length_append, List.length_cons] at h2
        omega
      · omega
    have hv : v = !ov := by rw [hvl, List.drop_eq_nil_of_le (by omega)]; simp [validL, cuts_nil]
    obtain ⟨lk, hlk⟩ : ∃ lk, lk = l.take k := ⟨_, rfl⟩
    have hll : lk = l := by rw [hlk, List.take_of_length_le (by omega)]
    have hcmp : (lk == s.toList) = true := by rw [HS.out, ByteArray.toList_mk, hll]; exact beq_self_eq_true _
    rw [← hlk] at b4
    have hkk : ((k : Int) == (s.size : Int)) = true := beq_iff_eq.2 (by rw [hk, ← HSZ.out])
    have hvv : (v == !ov) = true := by rw [hv]; simp
    have c1 := b1.cell; have c2 := b2.cell; have c3 := b3.cell; have c4 := b4.cell; have c6 := b6.cell
    have f2 := b2.frozen
    have hA0 : w.heap.size ≤ A + 1 := by rw [HAA.out]; omega
    clear hk hv hlk hll hkl hpl hvl hys
    gi_wp2
    have hK2 : (W.setCell ⟨A + 1, 0, none⟩ (.bool true)).heap[D']? = some (.deferred (some [])) := (KeepsOthers.setCell W ⟨A + 1, 0, none⟩ (.bool true)).same D' _ hK rfl
    have c5 := cell_kept (b2.set (.bool true)).cell (grownBy_putObj' _ D' (.deferred none)) (fun r e => by cases e; exact ⟨_, hK2, rfl⟩)
    refine ⟨by simp, .inl ⟨_, _, rfl, run_takeDeferred hK2, ?_⟩⟩
    exact ⟨.bool true, by simp [results, Tryd.results4, go_sem, c5], rfl, (hbel.setCell (p := ⟨A + 1, 0, none⟩) hA0 _).trans (belowK_b (w := w) (Nat.le_refl _) _ D' _ _ (by have := HBR.out.size; omega) hK2 rfl rfl)⟩
  case stop =>
    rintro D' c pre W _ hp h _
    exact absurd hp h
end Go.Proofs.YthhdmpdnfelhnaaDoor
