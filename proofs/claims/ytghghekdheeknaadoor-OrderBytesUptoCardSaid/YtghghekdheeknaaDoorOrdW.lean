/- Stage 7, the laws: OrderBytes. -/
import Derived.Test.YtghghekdheeknaaDoorOrdVs
import Derived.Test.YtghghekdheeknaaDoorOrdG
namespace Go.Proofs.YtghghekdheeknaaDoor
open Go.RowKit Go.Maps Odr Go.Shelf
attribute [local go_sem] Oper.semAt_some

theorem KSrc.of_row {w : World} {B n : Nat} {v : Value} {l : List PKey} (h : w.ownsRow B 45 3 v n (keyCells l)) (hn : n = l.length) : KSrc w v l := by
  obtain ⟨hx, ⟨rfl, h0⟩ | ⟨g, cap, cur, rfl, hg, hh, hnc, hc, hcs, htk⟩⟩ := h
  · refine ⟨none, 0, by rw [← hn, h0], fun j u hu => ?_⟩
    have : l = [] := List.eq_nil_of_length_eq_zero (by omega)
    subst this; simp [keyCells] at hu
  · refine ⟨_, cap, by rw [← hn], fun j u hu => ⟨g, 0, rfl, cell_of hh ?_⟩⟩
    rw [← htk, List.getElem?_take] at hu
    split at hu
    · rw [Array.getElem?_toList] at hu
      rw [Nat.zero_add]; exact hu
    · cases hu
set_option maxRecDepth 100000 in
theorem sign_any (s t : List UInt8) (w : World) : Calls Tryd.prog 32 #[textV s, textV t] w (SameInt (cmpT s t) w) := by
  obtain ⟨ts, hts⟩ : ∃ x, x = ByteArray.mk s.toArray := ⟨_, rfl⟩
  obtain ⟨tt, htt⟩ : ∃ x, x = ByteArray.mk t.toArray := ⟨_, rfl⟩
  have is : ts.toList = s := by rw [hts]; exact text_list s
  have it : tt.toList = t := by rw [htt]; exact text_list t
  have vs : textV s = .string ts := by rw [hts]; rfl
  have vt : textV t = .string tt := by rw [htt]; rfl
  have l1 : Op.bytesLess ts.toList tt.toList = decide (cmpT s t < 0) := by rw [is, it]; exact less_cmp s t
  have l2 : Op.bytesLess tt.toList ts.toList = decide (cmpT t s < 0) := by rw [is, it]; exact less_cmp t s
  rw [cmpT_neg t s] at l2
  rw [vs, vt]
  have r := cmpT_range s t
  have he : (ts.toList == tt.toList) = decide (cmpT s t = 0) := by
    rw [is, it]
    by_cases e : s = t
    · rw [decide_eq_true ((cmpT_zero s t).2 e)]; simp [e]
    · rw [decide_eq_false (fun h => e ((cmpT_zero s t).1 h))]; exact beq_eq_false_iff_ne.2 e
  generalize cmpT s t = x at l1 l2 r he ⊢
  clear hts htt is it vs vt
  rcases r with rfl | rfl | rfl
  · have l1 : Op.bytesLess ts.toList tt.toList = true := l1
    go_enter Tryd.func32, Tryd.ntmps32
    go_wp2
    go_ret
    exact ⟨rfl, rfl⟩
  · have l1 : Op.bytesLess ts.toList tt.toList = false := l1
    have l2 : Op.bytesLess tt.toList ts.toList = false := l2
    have he : (ts.toList == tt.toList) = true := he
    go_enter Tryd.func32, Tryd.ntmps32
    go_wp2
    go_ret
    exact ⟨rfl, rfl⟩
  · have l1 : Op.bytesLess ts.toList tt.toList = false := l1
    have l2 : Op.bytesLess tt.toList ts.toList = true := l2
    have he : (ts.toList == tt.toList) = false := he
    go_enter Tryd.func32, Tryd.ntmps32
    go_wp2
    go_ret
    exact ⟨rfl, rfl⟩
theorem all_take {l : List PKey} {i : Nat} (h : i < l.length) : (l.take (i + 1)).all rightB = ((l.take i).all rightB && rightB l[i]) := by
  rw [List.take_add_one, List.getElem?_eq_getElem h, Option.toList_some, List.all_append]; simp
set_option maxRecDepth 100000 in
set_option maxHeartbeats 2000000 in
theorem orderBytes_any {W0 : World} {a0 a1 : Option Addr} {n0 n1 c0 c1 : Nat} {la lb : List PKey} (ha : KRow W0 (.slice a0 n0 c0) la) (hb : KRow W0 (.slice a1 n1 c1) lb) (la0 : wt la ≤ 17000000 ∧ la.length ≤ 1048576) (lb0 : wt lb ≤ 17000000 ∧ lb.length ≤ 1048576)
    (hna : ∀ k ∈ la, i64 k.kind ∧ i64 k.num) (hnb : ∀ k ∈ lb, i64 k.kind ∧ i64 k.num) (w : World) (hw : w = W0) (hE : Env w) : Calls Tryd.prog 7 #[.slice a0 n0 c0, .slice a1 n1 c1] w (TrueB w) := by
  subst hw
  have hla : n0 = la.length := by obtain ⟨⟨_, _, e, _⟩, _⟩ := ha; injection e
  have hlb : n1 = lb.length := by obtain ⟨⟨_, _, e, _⟩, _⟩ := hb; injection e
  have HA := Lib.hid ha.1; have HB := Lib.hid hb.1
  have HBA : Hid (∀ W, BW w W → Calls Tryd.prog 15 #[.slice a0 n0 c0] W (BytesPost W (bytesR la))) := fun W h => bytes_any (ha.1.bw h) (by omega) (by omega) (fun k hk => (hna k hk).2)
  have HBB : Hid (∀ W, BW w W → Calls Tryd.prog 15 #[.slice a1 n1 c1] W (BytesPost W (bytesR lb))) := fun W h => bytes_any (hb.1.bw h) (by omega) (by omega) (fun k hk => (hnb k hk).2)
  have HNA := Lib.hid hla; have HNB := Lib.hid hlb
  have hn0 : (n0 : Int) ≤ 1048576 := by omega
  have HR := Lib.hid (fun k W => right_any k W)
  have HE := Lib.hid hE
  have HGA : Hid (∀ k ∈ la, i64 k.num) := fun k hk => (hna k hk).2
  have HGB : Hid (∀ k ∈ lb, i64 k.num) := fun k hk => (hnb k hk).2
  have HLA := Lib.hid la0; have HLB := Lib.hid lb0
  obtain ⟨qa, hqa⟩ : ∃ q, q = la.all rightB := ⟨_, rfl⟩
  obtain ⟨qb, hqb⟩ : ∃ q, q = lb.all rightB := ⟨_, rfl⟩
  have HQA := Lib.hid hqa; have HQB := Lib.hid hqb
  obtain ⟨ra, hra⟩ : ∃ r, r = bytesR la := ⟨_, rfl⟩
  obtain ⟨rb, hrb⟩ : ∃ r, r = bytesR lb := ⟨_, rfl⟩
  have HRA : Hid (ra = if qa = true then (bytesK la, 0) else ([], 1)) := by unfold Hid; rw [hra, hqa]; rfl
  have HRB : Hid (rb = if qb = true then (bytesK lb, 0) else ([], 1)) := by unfold Hid; rw [hrb, hqb]; rfl
  rw [← hra] at HBA
  rw [← hrb] at HBB
  obtain ⟨sa, ea⟩ := ra
  obtain ⟨sb, eb⟩ := rb
  obtain ⟨ta, hta⟩ : ∃ t, t = ByteArray.mk sa.toArray := ⟨_, rfl⟩
  obtain ⟨tb, htb⟩ : ∃ t, t = ByteArray.mk sb.toArray := ⟨_, rfl⟩
  have va : textV sa = .string ta := by rw [hta]; rfl
  have vb : textV sb = .string tb := by rw [htb]; rfl
  have HTA := Lib.hid hta; have HTB := Lib.hid htb
  have HBA2 : Hid (∀ W, BW w W → Calls Tryd.prog 15 #[.slice a0 n0 c0] W fun e W' => e = .returned (.tuple #[.string ta, .int .i64 ea]) ∧ BW W W') := fun W h => by rw [← va]; exact HBA.out W h
  have HBB2 : Hid (∀ W, BW w W → Calls Tryd.prog 15 #[.slice a1 n1 c1] W fun e W' => e = .returned (.tuple #[.string tb, .int .i64 eb]) ∧ BW W W') := fun W h => by rw [← vb]; exact HBB.out W h
  clear ha hb la0 lb0 hna hnb hla hlb hqa hqb hra hrb hta htb va vb HBA HBB hE
  go_enter Tryd.func7, Tryd.ntmps7
  go_wp2_with fail
  refine (HBA2.out _ (BW.refl _)).mono ?_
  rintro e W1 ⟨rfl, h1⟩
  have B1 := Lib.hid h1
  clear h1 HBA2
  go_wp2_with fail
  refine (HBB2.out _ B1.out).mono ?_
  rintro e W2 ⟨rfl, h2⟩
  have B2 := Lib.hid (B1.out.trans h2)
  clear h2 HBB2 B1
  go_wp2
  go_loopw [9, 10] (fun s9 s10 wr => ∃ (i : Nat), i ≤ n0 ∧ s10 = .int .i64 (i : Int) ∧ s9 = .bool ((la.take i).all rightB) ∧ BW w wr) (fun _ s10 _ => n0 - (intOf s10).toNat)
  case atStart => exact ⟨0, Nat.zero_le _, rfl, rfl, B2.out⟩
  case round =>
    obtain ⟨i, hi, rfl, rfl, hbw⟩ := hrel
    have HBW := Lib.hid hbw
    clear hbw
    have hi0 : 0 ≤ (i : Int) := by omega
    by_cases hlt : i < n0
    · have hlti : (i : Int) < (n0 : Int) := by omega
      have h1 : i < la.length := by rw [← HNA.out]; exact hlt
      have HAL := Lib.hid (all_take h1)
      obtain ⟨q, hq⟩ : ∃ q, q = (la.take i).all rightB := ⟨_, rfl⟩
      rw [← hq] at HAL ⊢
      obtain ⟨b, o, e1, x0, x1, x2⟩ := (HA.out.bw HBW.out).cells h1
      subst e1
      obtain ⟨x, hx⟩ : ∃ x, x = la[i] := ⟨_, rfl⟩
      rw [← hx] at x0 x1 x2 HAL
      obtain ⟨tx, htx⟩ : ∃ tx, textV x.text = .string tx := ⟨_, rfl⟩
      rw [htx] at x2
      have HC : Hid (∀ W, Calls Tryd.prog 23 #[.agg #[.int .i64 x.kind, .int .i64 x.num, .string tx]] W (BwVal (.bool (rightB x)) W)) := fun W => by
        have := HR.out x W
        unfold keyV at this
        rw [htx] at this; exact this
      have HLT := Lib.hid hlt
      obtain ⟨qx, hqx⟩ : ∃ q, q = rightB x := ⟨_, rfl⟩
      rw [← hqx] at HC HAL
      clear hq htx hlt hi hx h1 hqx
      cases q with
      | false =>
        have HAL2 : Hid ((la.take (i + 1)).all rightB = false) := by unfold Hid; rw [HAL.out]; rfl
        go_wp2
        go_roundw
        case rel => exact ⟨i + 1, HLT.out, by first | rfl | go_num, by rw [HAL2.out], HBW.out⟩
        case measure => simp [intOf]; have := HLT.out; omega
      | true =>
        have HAL2 : Hid ((la.take (i + 1)).all rightB = qx) := by unfold Hid; rw [HAL.out]; rfl
        go_wp2_with fail
        refine (HC.out _).mono ?_
        rintro e W3 ⟨rfl, h3⟩
        have H3 := Lib.hid h3
        clear h3
        go_wp2
        go_roundw
        case rel => exact ⟨i + 1, HLT.out, by first | rfl | go_num, by rw [HAL2.out], HBW.out.trans H3.out⟩
        case measure => simp [intOf]; have := HLT.out; omega
    · have hlti : (n0 : Int) ≤ (i : Int) := by omega
      have hqi : (la.take i).all rightB = qa := by rw [List.take_of_length_le (by have := HNA.out; omega), HQA.out]
      rw [hqi]
      clear hlt hi hqi
      cases qa with
      | false =>
        have he : (sa, ea) = (([] : List UInt8), (1 : Int)) := HRA.out
        obtain rfl : ea = 1 := (Prod.mk.inj he).2
        clear he HRA HRB
        have HAW := Lib.hid (awake_any wr (HE.out.bw HBW.out))
        go_wp2_with fail
        refine HAW.out.mono ?_
        rintro e W3 ⟨rfl, h3⟩
        have H3 := Lib.hid h3
        clear h3 HAW
        go_wp2
        go_ret
        exact ⟨rfl, HBW.out.trans H3.out⟩
      | true =>
        have he : (sa, ea) = (bytesK la, (0 : Int)) := HRA.out
        obtain rfl : ea = 0 := (Prod.mk.inj he).2
        have HSA := Lib.hid (Prod.mk.inj he).1
        clear he HRA
        cases qb with
        | false =>
          have he : (sb, eb) = (([] : List UInt8), (1 : Int)) := HRB.out
          obtain rfl : eb = 1 := (Prod.mk.inj he).2
          clear he HRB
          have HAW := Lib.hid (awake_any wr (HE.out.bw HBW.out))
          go_wp2_with fail
          refine HAW.out.mono ?_
          rintro e W3 ⟨rfl, h3⟩
          have H3 := Lib.hid h3
          clear h3 HAW
          go_wp2
          go_ret
          exact ⟨rfl, HBW.out.trans H3.out⟩
        | true =>
          have he : (sb, eb) = (bytesK lb, (0 : Int)) := HRB.out
          obtain rfl : eb = 0 := (Prod.mk.inj he).2
          have HSB := Lib.hid (Prod.mk.inj he).1
          clear he HRB
          have hga : goodK la := fun k hk => ⟨(rightB_iff k).1 (List.all_eq_true.1 HQA.out.symm k hk), HGA.out k hk⟩
          have hgb : goodK lb := fun k hk => ⟨(rightB_iff k).1 (List.all_eq_true.1 HQB.out.symm k hk), HGB.out k hk⟩
          have hlsa : sa.length ≤ 17000000 := by rw [HSA.out]; exact Nat.le_trans (bytesK_le la) HLA.out.1
          have hlsb : sb.length ≤ 17000000 := by rw [HSB.out]; exact Nat.le_trans (bytesK_le lb) HLB.out.1
          have hkr : keysR sa = (la, 0) := by
            unfold keysR keysK
            rw [HSA.out, keys_bytes la hga _ (Nat.le_refl _)]
          have HK : Hid (∀ W, Calls Tryd.prog 17 #[.string ta] W fun e W' => ∃ ao c, e = .returned (.tuple #[.slice ao n0 c, .int .i64 0]) ∧ KSrc W' (.slice ao n0 c) la ∧ BW W W') := fun W => by
            have h := keys_any sa (by omega) W
            rw [hkr, show textV sa = .string ta by rw [HTA.out]; rfl] at h
            refine h.mono ?_
            rintro e W' ⟨v, rfl, ho, hb⟩
            have hs := KSrc.of_row ho rfl
            obtain ⟨ao, c, hv⟩ := hs.form
            simp only at hs hv ⊢
            subst hv
            exact ⟨ao, c, by rw [HNA.out], by rw [HNA.out]; exact hs, hb⟩
          have HKEQ : Hid (∀ W ao c, BW w W → KSrc W (.slice ao n0 c) la → Calls Tryd.prog 21 #[.slice ao n0 c, .slice a0 n0 c0] W fun e w' => e = .returned (.bool true) ∧ ∃ k, w' = W.drewN k) := fun W ao c hW hs => by
            have := keysEq_any hs (HA.out.bw hW) (by have := HLA.out; omega) (by have := HLA.out; omega)
            rw [decide_eq_true rfl] at this; exact this
          have HSG : Hid (∀ W, Calls Tryd.prog 32 #[.string ta, .string tb] W (SameInt (cmpT sa sb) W)) := fun W => by
            have := sign_any sa sb W
            rw [show textV sa = .string ta by rw [HTA.out]; rfl, show textV sb = .string tb by rw [HTB.out]; rfl] at this
            exact this
          have HRW : Hid (∀ W, BW w W → Calls Tryd.prog 19 #[.slice a0 n0 c0, .slice a1 n1 c1] W (BwVal (.int .i64 (cmpT sa sb)) W)) := fun W hW => by
            have := rows_any (HA.out.bw hW) (HB.out.bw hW) (by have := HLA.out; omega) (by have := HLB.out; omega)
            rw [← bytes_go la lb hga hgb, ← HSA.out, ← HSB.out] at this; exact this
          have HKAB : Hid (∀ W, BW w W → Calls Tryd.prog 21 #[.slice a0 n0 c0, .slice a1 n1 c1] W fun e w' => e = .returned (.bool (decide (la = lb))) ∧ ∃ k, w' = W.drewN k) := fun W hW => keysEq_any (HA.out.bw hW) (HB.out.bw hW) (by have := HLA.out; omega) (by have := HLB.out; omega)
          have HAW : Hid (∀ W, BW w W → Calls Tryd.prog 13 #[] W (TrueB W)) := fun W hW => awake_any W (HE.out.bw hW)
          have hsta : ta.size = sa.length := by rw [HTA.out]; exact text_size sa
          have hstb : tb.size = sb.length := by rw [HTB.out]; exact text_size sb
          have hia : (ta.size : Int) ≤ 17000000 := by omega
          have hib : (tb.size : Int) ≤ 17000000 := by omega
          have HBEG : Hid (la.length = lb.length → (ta.size ≤ tb.size ∧ ((tb.extract 0 ta.size).toList == ta.toList) = decide (la = lb)) ∨ (tb.size < ta.size ∧ decide (la = lb) = false)) := fun hl => by
            have hbb := bytes_begin la lb hga hgb hl
            rw [← HSA.out, ← HSB.out] at hbb
            by_cases hle : ta.size ≤ tb.size
            · refine .inl ⟨hle, ?_⟩
              rw [extract_text HTB.out, List.drop_zero, Nat.sub_zero, text_list, HTA.out, text_list, text_size]
              by_cases e : la = lb
              · rw [decide_eq_true e]
                have h := List.prefix_iff_eq_take.1 (hbb.2 e)
                rw [← h]; simp
              · rw [decide_eq_false e]
                refine beq_eq_false_iff_ne.2 (fun h => e (hbb.1 (List.prefix_iff_eq_take.2 h.symm)))
            · refine .inr ⟨by omega, decide_eq_false (fun e => hle ?_)⟩
              have := List.IsPrefix.length_le (hbb.2 e); omega
          generalize cmpT sa sb = x at HSG HRW
          obtain ⟨q, hq⟩ : ∃ q, q = decide (la = lb) := ⟨_, rfl⟩
          rw [← hq] at HKAB HBEG
          have hn1 : (n1 : Int) ≤ 1048576 := by have := HLB.out; have := HNB.out; omega
          have HNN : Hid (n0 = n1 ↔ la.length = lb.length) := by unfold Hid; rw [HNA.out, HNB.out]
          clear hga hgb hlsa hlsb hkr hsta hstb hq HSA HSB
          go_wp2_with fail
          refine (HK.out _).mono ?_
          rintro e W3 ⟨ao, c, rfl, hs3, h3⟩
          have B3 := Lib.hid (HBW.out.trans h3)
          have HS3 := Lib.hid hs3
          clear h3 hs3 HK
          go_wp2_with fail
          refine (HKEQ.out _ _ _ B3.out HS3.out).mono ?_
          rintro e W4 ⟨rfl, k4, hk4⟩
          have B4 : Hid (BW w W4) := by unfold Hid; rw [hk4]; exact bw_drew B3.out k4
          clear hk4 HKEQ
          go_wp2_with fail
          refine (HSG.out _).mono ?_
          rintro e W5 ⟨rfl, rfl⟩
          go_wp2_with fail
          refine (HRW.out _ B4.out).mono ?_
          rintro e W6 ⟨rfl, h6⟩
          have B6 := Lib.hid (B4.out.trans h6)
          clear h6 HRW HSG
          by_cases hnn : n0 = n1
          · subst hnn
            rcases HBEG.out (HNN.out.1 rfl) with ⟨hle, heq⟩ | ⟨hlt2, hqf⟩
            · have hli : (ta.size : Int) ≤ (tb.size : Int) := by omega
              clear HBEG HNN
              cases q with
              | true =>
                go_wp2_with fail
                refine (HKAB.out _ B6.out).mono ?_
                rintro e W7 ⟨rfl, k7, hk7⟩
                have B7 : Hid (BW w W7) := by unfold Hid; rw [hk7]; exact bw_drew B6.out k7
                clear hk7
                go_wp2_with fail
                refine (HAW.out _ B7.out).mono ?_
                rintro e W8 ⟨rfl, h8⟩
                have B8 := Lib.hid (B7.out.trans h8)
                clear h8
                go_wp2
                go_ret
                exact ⟨ret_bool (by simp), B8.out⟩
              | false =>
                go_wp2_with fail
                refine (HKAB.out _ B6.out).mono ?_
                rintro e W7 ⟨rfl, k7, hk7⟩
                have B7 : Hid (BW w W7) := by unfold Hid; rw [hk7]; exact bw_drew B6.out k7
                clear hk7
                go_wp2_with fail
                refine (HAW.out _ B7.out).mono ?_
                rintro e W8 ⟨rfl, h8⟩
                have B8 := Lib.hid (B7.out.trans h8)
                clear h8
                go_wp2
                go_ret
                exact ⟨ret_bool (by simp), B8.out⟩
            · have hli : (tb.size : Int) < (ta.size : Int) := by omega
              subst hqf
              clear HBEG HNN
              go_wp2_with fail
              refine (HKAB.out _ B6.out).mono ?_
              rintro e W7 ⟨rfl, k7, hk7⟩
              have B7 : Hid (BW w W7) := by unfold Hid; rw [hk7]; exact bw_drew B6.out k7
              clear hk7
              go_wp2_with fail
              refine (HAW.out _ B7.out).mono ?_
              rintro e W8 ⟨rfl, h8⟩
              have B8 := Lib.hid (B7.out.trans h8)
              clear h8
              go_wp2
              go_ret
              exact ⟨ret_bool (by simp), B8.out⟩
          · have hne : ((n0 : Int) != (n1 : Int)) = true := by simp; omega
            clear HBEG HNN hnn
            by_cases hle : ta.size ≤ tb.size
            · have hli : (ta.size : Int) ≤ (tb.size : Int) := by omega
              go_wp2_with fail
              refine (HAW.out _ B6.out).mono ?_
              rintro e W7 ⟨rfl, h7⟩
              have B7 := Lib.hid (B6.out.trans h7)
              clear h7
              go_wp2
              go_ret
              exact ⟨ret_bool (by simp), B7.out⟩
            · have hli : (tb.size : Int) < (ta.size : Int) := by omega
              go_wp2_with fail
              refine (HAW.out _ B6.out).mono ?_
              rintro e W7 ⟨rfl, h7⟩
              have B7 := Lib.hid (B6.out.trans h7)
              clear h7
              go_wp2
              go_ret
              exact ⟨ret_bool (by simp), B7.out⟩
end Go.Proofs.YtghghekdheeknaaDoor
