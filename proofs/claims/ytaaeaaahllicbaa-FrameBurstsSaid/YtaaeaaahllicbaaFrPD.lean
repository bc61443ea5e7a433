/- The program's slices.Concat; its Seal. -/
import Derived.Test.YtaaeaaahllicbaaFrPC
import Derived.Test.YtaaeaaahllicbaaFrPB
namespace Go.Proofs.Ytaaeaaahllicbaa
open Go.RowKit Go.Maps Crc

set_option maxHeartbeats 4000000 in
set_option maxRecDepth 100000 in
theorem concat_any {w : World} {v : Value} {ss : List (List UInt8)} (h : SrcRows w v ss) (hn : (ss.length : Int) ≤ 9223372036854775807) (hl : ss.flatten.length ≤ 16777216) : Calls Try.prog 27 #[v] w (BytesPost w ss.flatten) := by
  obtain ⟨ao, cap, rfl⟩ := h.len
  obtain ⟨n, hnn⟩ : ∃ n, n = ss.length := ⟨_, rfl⟩
  rw [← hnn] at h hn ⊢
  have H := Lib.hid h
  have HN := Lib.hid hnn
  have HZB : Hid (∀ i, i ≤ ss.length → sizeU ss i ≤ 16777216) := fun i _ => by
    have h1 := flat_part ss i
    have h2 : sizeU ss i = (ss.take i).flatten.length := by unfold sizeU; rw [List.length_flatten]
    omega
  have HTOT := Lib.hid hl
  clear h hnn hl
  go_enter Try.func27, Try.ntmps27
  go_wp2
  go_loopg [3, 11] n (fun g s3 s11 wx => ∃ (i z : Nat), i + g = n ∧ s11 = .int .i64 i ∧ s3 = .int .i64 (z : Int) ∧ z = sizeU ss i ∧ w = wx)
  case atStart => exact ⟨0, 0, by omega, rfl, rfl, rfl, rfl⟩
  case round =>
    obtain ⟨i, z, hig, rfl, rfl, hz, rfl⟩ := hrel
    have HIG := Lib.hid hig
    have hzb : (z : Int) ≤ 16777216 := by
      have h1 := HZB.out i (by have := HN.out; omega)
      omega
    have hz0 : 0 ≤ (z : Int) := by omega
    have HZ := Lib.hid hz
    clear hz
    cases gk with
    | zero =>
      have hge : (n : Int) ≤ (i : Int) := by omega
      have hd0 : decide (i < n) = false := decide_eq_false (by omega)
      have HGR := Lib.hid (grow_any z (by omega) w)
      clear hig
      go_wp2_with fail
      refine HGR.out.mono ?_
      rintro e w1 ⟨v1, rfl, ho1, hb1⟩
      have HO1 := Lib.hid ho1
      have HB1 := Lib.hid hb1
      clear ho1 hb1 HGR
      go_wp2
      go_loopg [6, 27] n (fun g s6 s27 wx => ∃ i : Nat, i + g = n ∧ s27 = .int .i64 i ∧ wx.ownsRow w.heap.size 5 1 s6 (ss.take i).flatten.length ((ss.take i).flatten.map bV) ∧ BW w wx)
      case atStart => exact ⟨0, by omega, rfl, HO1.out, HB1.out⟩
      case round =>
        obtain ⟨j, hjg, rfl, hrow, hbx⟩ := hrel
        have HROW := Lib.hid hrow
        have HBX := Lib.hid hbx
        have HJG := Lib.hid hjg
        clear hrow hbx
        cases gk with
        | zero =>
          have hge2 : (n : Int) ≤ (j : Int) := by omega
          have hd2 : decide (j < n) = false := decide_eq_false (by omega)
          have HALL : Hid (ss.take j = ss) := by unfold Hid; exact List.take_of_length_le (by have := HN.out; omega)
          clear hjg
          go_wp2
          go_ret
          refine ⟨_, rfl, ?_, HBX.out⟩
          have h1 := HROW.out
          rw [HALL.out] at h1; exact h1
        | succ g =>
          have hj : (j : Int) < (n : Int) := by omega
          have hj0 : (0 : Int) ≤ (j : Int) := by omega
          have hjl : j < ss.length := by have := HN.out; omega
          obtain ⟨x, hx⟩ : ∃ x, x = ss[j] := ⟨_, rfl⟩
          obtain ⟨b0, off, xo, xc, rfl, hc0, hsrc⟩ := (H.out.below HBX.out).get (i := j) (s := x) (by rw [hx]; exact List.getElem?_eq_getElem hjl)
          have HSRC := Lib.hid hsrc
          have HNX : Hid ((ss.take (j + 1)).flatten = (ss.take j).flatten ++ x) := by
            unfold Hid
            rw [List.take_succ_eq_append_getElem hjl, List.flatten_append, ← hx]; simp
          have HLE : Hid ((ss.take j).flatten.length + x.length ≤ 16777216) := by
            have h1 := congrArg List.length HNX.out
            rw [List.length_append] at h1
            have h2 := flat_part ss (j + 1)
            have h3 := HTOT.out
            unfold Hid; omega
          obtain ⟨sl, hsl⟩ : ∃ sl, sl = x.length := ⟨_, rfl⟩
          rw [← hsl] at hc0 HSRC HLE
          have HSL := Lib.hid hsl
          clear hsrc hx hjl hsl hjg
          go_wp2_with (at_builtin; refine append_bytes rfl (.tmp 31) (.tmp 32) rfl w.heap.size _ (ss.take j).flatten.length (ss.take j).flatten rfl HROW.out _ rfl _ HSRC.out ?_ ?_ ?_)
          · have := HLE.out; have := HSL.out; omega
          · exact HBX.out.size
          intro v5 w5 ho5 hg5
          have HO5 : Hid (w5.ownsRow w.heap.size 5 1 v5 (ss.take (j + 1)).flatten.length ((ss.take (j + 1)).flatten.map bV)) := by
            unfold Hid
            rw [HNX.out, List.length_append]; simpa using ho5
          have HB5 := Lib.hid (bw_grown HBX.out hg5 (row_own HROW.out))
          clear ho5 hg5
          go_wp2
          go_roundg g
          case measure => omega
          case rel => exact ⟨j + 1, by have := HJG.out; omega, by first | rfl | simp, HO5.out, HB5.out⟩
    | succ g =>
      have hi : (i : Int) < (n : Int) := by omega
      have hi0 : (0 : Int) ≤ (i : Int) := by omega
      have hil : i < ss.length := by have := HN.out; omega
      obtain ⟨x, hx⟩ : ∃ x, x = ss[i] := ⟨_, rfl⟩
      obtain ⟨b0, off, xo, xc, rfl, hc0, hcl⟩ := H.out.get (i := i) (s := x) (by rw [hx]; exact List.getElem?_eq_getElem hil)
      clear hcl
      have HSN := Lib.hid (sizeU_next hil)
      have hnx := HZB.out (i + 1) (by omega)
      rw [HSN.out, ← HZ.out, ← hx] at hnx
      rw [← hx] at HSN
      obtain ⟨sl, hsl⟩ : ∃ sl, sl = x.length := ⟨_, rfl⟩
      rw [← hsl] at hc0 HSN hnx
      have hsl0 : 0 ≤ (sl : Int) := by omega
      have hnxi : (z : Int) + (sl : Int) ≤ 16777216 := by omega
      clear hx hil hsl hig hnx
      go_wp2
      go_roundg g
      case measure => omega
      case rel => exact ⟨i + 1, z + sl, by have := HIG.out; omega, by first | rfl | simp, by first | rfl | simp, by rw [HSN.out, HZ.out], rfl⟩

theorem info_rows : (Try.prog.info? 23).map (fun i => (i.zero, i.size, i.bytes)) = some (some (.slice none 0 0), 1, 24) := by kernel_rfl
/-- rows that are made of readable ones -/
theorem rows_mk {w : World} {v : Value} {vs : List Value} {ss : List (List UInt8)} (h : Src w v vs) (hl : vs.length = ss.length) (hr : ∀ (i : Nat) (x : Value) (s : List UInt8), vs[i]? = some x → ss[i]? = some s → Src w x (s.map bV)) : SrcRows w v ss := ⟨vs, hl, h, hr⟩
theorem rows_ones {w : World} {vs : List Value} {ss : List (List UInt8)} (hl : vs.length = ss.length) (hr : ∀ (i : Nat) (x : Value) (s : List UInt8), vs[i]? = some x → ss[i]? = some s → Src w x (s.map bV)) : ∀ u ∈ vs, u.oneCell' = true := by
  intro u hu
  obtain ⟨i, hi, he⟩ := List.getElem_of_mem hu
  have h1 := hr i u ss[i] (by rw [← he]; exact List.getElem?_eq_getElem hi) (List.getElem?_eq_getElem (by omega))
  obtain ⟨a, c, rfl⟩ := h1.len
  rfl
theorem rows_cons {w : World} {x : Value} {s : List UInt8} {vs : List Value} {ss : List (List UInt8)} (h : Src w x (s.map bV)) (hr : ∀ (i : Nat) (x : Value) (s : List UInt8), vs[i]? = some x → ss[i]? = some s → Src w x (s.map bV)) : ∀ (i : Nat) (y : Value) (t : List UInt8), (x :: vs)[i]? = some y → (s :: ss)[i]? = some t → Src w y (t.map bV) := by
  intro i y t hy ht
  cases i with
  | zero => simp at hy ht; subst hy; subst ht; exact h
  | succ i => exact hr i y t (by simpa using hy) (by simpa using ht)
theorem rows_snoc {w : World} {x : Value} {s : List UInt8} {vs : List Value} {ss : List (List UInt8)} (hl : vs.length = ss.length) (h : Src w x (s.map bV)) (hr : ∀ (i : Nat) (x : Value) (s : List UInt8), vs[i]? = some x → ss[i]? = some s → Src w x (s.map bV)) : ∀ (i : Nat) (y : Value) (t : List UInt8), (vs ++ [x])[i]? = some y → (ss ++ [s])[i]? = some t → Src w y (t.map bV) := by
  intro i y t hy ht
  rcases Nat.lt_or_ge i vs.length with hj | hj
  · rw [List.getElem?_append_left hj] at hy
    rw [List.getElem?_append_left (by omega)] at ht
    exact hr i y t hy ht
  · rw [List.getElem?_append_right hj] at hy
    rw [List.getElem?_append_right (by omega)] at ht
    rw [hl] at hy
    cases hk : i - ss.length with
    | zero => rw [hk] at hy ht; simp at hy ht; subst hy; subst ht; exact h
    | succ k => rw [hk] at hy; simp at hy

set_option maxHeartbeats 8000000 in
set_option maxRecDepth 100000 in
theorem seal_any {w : World} {kind : UInt8} {v : Value} {ss : List (List UInt8)} (h : SrcRows w v ss) (hl : ∀ s ∈ ss, (s.length : Int) ≤ 140737488351232) (hn : (ss.length : Int) ≤ 9223372036854775807) : Calls Try.prog 10 #[bV kind, v] w (SealPost w kind ss) := by
  obtain ⟨ao, cap, rfl⟩ := h.len
  obtain ⟨n, hnn⟩ : ∃ n, n = ss.length := ⟨_, rfl⟩
  rw [← hnn] at h hn ⊢
  by_cases h1024 : 1024 < n
  · have hd : decide (1024 < n) = true := decide_eq_true h1024
    have hd' : decide ((1024 : Int) < (n : Int)) = true := decide_eq_true (by omega)
    have HNO := Lib.hid (sealP_many (kind := kind) (ss := ss) (by rw [← hnn]; exact h1024))
    clear h hl hnn h1024
    go_enter Try.func10, Try.ntmps10
    go_wp2
    go_ret2
    exact ⟨_, _, rfl, BW.refl _, .inr ⟨HNO.out, rfl, rfl⟩⟩
  have hd : decide (1024 < n) = false := decide_eq_false h1024
  have hd' : decide ((1024 : Int) < (n : Int)) = false := decide_eq_false (by omega)
  have hn2 : (n : Int) ≤ 1024 := by omega
  obtain ⟨vs, hvl, hvs, hvr⟩ := h
  have HVL := Lib.hid hvl
  have HVS := Lib.hid hvs
  have HVR := Lib.hid hvr
  have HN := Lib.hid hnn
  have HL := Lib.hid hl
  have HHEAD := Lib.hid (head_any (kind := kind) (v := .slice ao n cap) ⟨vs, hvl, hvs, hvr⟩ hl (by omega))
  have HHL : Hid ((headF kind ss).length ≤ 20000) := by
    have h1 := headU_le (kind := kind) (by omega) hl ss.length (Nat.le_refl _)
    rw [headU_all kind ss (Nat.le_refl _)] at h1
    unfold Hid; omega
  clear hl hnn h1024 hn hvl hvs hvr
  go_enter Try.func10, Try.ntmps10
  go_wp2_with fail
  refine HHEAD.out.mono ?_
  rintro e w1 ⟨hv, rfl, ho1, hb1⟩
  have HO1 := Lib.hid (Src.of_row ho1)
  have HB1 := Lib.hid hb1
  obtain ⟨o1, n1, c1, rfl⟩ := row_form ho1
  clear ho1 hb1 HHEAD
  have HROWP := Lib.hid (own_new w1 #[.slice o1 n1 c1] 23 1 rfl (by decide))
  have HONES := Lib.hid (rows_ones HVL.out HVR.out)
  have HVS1 := Lib.hid ((HVS.out.below HB1.out).below (bw_alloc w1 (.cells #[.slice o1 n1 c1] 23)))
  go_wp2_with (at_builtin; refine append_any Try.underlying22 info_rows rfl (by decide) rfl (.tmp 14) (.tmp 15) rfl w1.heap.size _ 1 _ rfl HROWP.out _ rfl vs HVS1.out HONES.out ?_ ?_ ?_)
  · have := HVL.out; have := HN.out; omega
  · simp
  intro v2 w2 ho2 hg2
  have HB2 : Hid (BW w1 w2) := bw_grown (bw_alloc w1 _) hg2 (fun k hk => by obtain ⟨a, n', c', e1, e2⟩ := own_some hk; cases e1; rw [← e2]; exact Nat.le_refl _)
  have HO2 := Lib.hid ho2
  have HROWS2 : Hid (SrcRows w2 v2 (headF kind ss :: ss)) := by
    refine rows_mk (vs := .slice o1 n1 c1 :: vs) ?_ (by simp [HVL.out]) (rows_cons (HO1.out.below HB2.out) fun i x s hx hs => (HVR.out i x s hx hs).below (HB1.out.trans HB2.out))
    exact Src.of_row ho2
  obtain ⟨o2, n2, c2, rfl⟩ := row_form ho2
  have HLP : Hid (∀ s ∈ headF kind ss :: ss, (s.length : Int) ≤ 140737488351232) := fun s hs => by
    rcases List.mem_cons.1 hs with rfl | hs
    · have := HHL.out; omega
    · exact HL.out s hs
  have HNP : Hid (((headF kind ss :: ss).length : Int) ≤ 9223372036854775807) := by
    unfold Hid; have := HN.out; rw [List.length_cons]; omega
  have HFE : Hid (fitB (headF kind ss :: ss) 16777212 = decide ((sealF kind ss).length ≤ 16777216)) := by
    unfold Hid
    rw [fitB_eq, sealF_len, List.flatten_cons, List.length_append, decide_eq_decide]; omega
  clear ho2 hg2
  by_cases hfit : (sealF kind ss).length ≤ 16777216
  case neg =>
    have HF := Lib.hid (fit_any HROWS2.out HLP.out HNP.out 16777212 (by decide) false (by rw [HFE.out]; exact decide_eq_false hfit))
    have HNO := Lib.hid (sealP_long (kind := kind) (ss := ss) (by omega))
    have HBB := Lib.hid (HB1.out.trans HB2.out)
    clear hfit
    go_wp2_with fail
    refine HF.out.mono ?_
    rintro e w3 ⟨rfl, rfl⟩
    go_wp2
    go_ret2
    exact ⟨_, _, rfl, HBB.out, .inr ⟨HNO.out, rfl, rfl⟩⟩
  case pos =>
    have HF := Lib.hid (fit_any HROWS2.out HLP.out HNP.out 16777212 (by decide) true (by rw [HFE.out]; exact decide_eq_true hfit))
    have HYES : Hid (sealP kind ss = some (sealF kind ss)) := sealP_yes (by have := HN.out; omega) hfit
    have HFIT := Lib.hid hfit
    have HSUM := Lib.hid (sum_any HROWS2.out HLP.out HNP.out)
    have hc32 := crcP_lt (headF kind ss :: ss).flatten
    obtain ⟨c, hc⟩ : ∃ c, c = crcP (headF kind ss :: ss).flatten := ⟨_, rfl⟩
    rw [← hc] at hc32
    have HC := Lib.hid hc
    have HCF := Lib.hid (fun w => checkForm_any c hc32 w)
    clear hfit hc hc32
    go_wp2_with fail
    refine HF.out.mono ?_
    rintro e w3 ⟨rfl, rfl⟩
    clear HF
    go_wp2_with fail
    refine HSUM.out.mono ?_
    rintro e w3 ⟨rfl, hb3⟩
    rw [← HC.out]
    have HB3 := Lib.hid hb3
    clear HSUM hb3
    go_wp2_with fail
    refine (HCF.out _).mono ?_
    rintro e w4 ⟨v4, rfl, ho4, hb4⟩
    have HB4 := Lib.hid hb4
    have HO4 := Lib.hid ho4
    obtain ⟨o4, n4, c4, rfl⟩ := row_form ho4
    clear ho4 hb4 HCF
    have HB24 := Lib.hid (HB3.out.trans HB4.out)
    have HO25 : Hid ((w4.alloc (.cells #[.slice o4 n4 c4] 23)).ownsRow w1.heap.size 23 1 (.slice o2 n2 c2) (1 + vs.length) (.slice o1 n1 c1 :: vs)) := by
      exact (row_keep HO2.out fun a n c e => HB24.out.block _ (row_lt HO2.out e)).alloc _
    go_wp2_with (at_builtin; refine append_any Try.underlying22 info_rows rfl (by decide) rfl (.tmp 23) (.tmp 25) rfl w1.heap.size _ (1 + vs.length) _ rfl HO25.out (.slice (some ⟨w4.heap.size, 0, none⟩) 1 1) rfl [.slice o4 n4 c4] (src_new w4 #[.slice o4 n4 c4] 23 1 rfl (by decide)) (by intro u hu; rw [List.mem_singleton.1 hu]; rfl) ?_ ?_ ?_)
    · have := HVL.out; have := HN.out; simp; omega
    · have := HB2.out.size; have := HB24.out.size; simp; omega
    intro v6 w6 ho6 hg6
    have HOWN2 : Hid (∀ k, (Value.slice o2 n2 c2).ownBlock = some k → w1.heap.size ≤ k ∧ k < w2.heap.size) := fun k hk => row_block HO2.out hk
    have HB16 : Hid (BW w1 w6) := bw_grown ((HB2.out.trans HB24.out).alloc _) hg6 fun k hk => (HOWN2.out k hk).1
    have HS4 : Hid (Src w6 (.slice o4 n4 c4) ((le4 c).map bV)) := by
      refine ((Src.of_row HO4.out).below (bw_alloc w4 (.cells #[.slice o4 n4 c4] 23))).keep hg6.size fun _ a n' c' e => ?_
      have h1 := row_lt HO4.out e
      have h2 := new_of_row HO4.out e
      refine hg6.block _ (by simp; omega) fun e2 => ?_
      have h3 := HOWN2.out _ (by first | exact e2 | exact e2.symm)
      have h4 := HB3.out.size
      omega
    have HROWS6 : Hid (SrcRows w6 v6 ((headF kind ss :: ss) ++ [le4 c])) := by
      refine rows_mk (vs := (.slice o1 n1 c1 :: vs) ++ [.slice o4 n4 c4]) (Src.of_row ho6) (by simp [HVL.out]) (rows_snoc (by simp [HVL.out]) HS4.out (rows_cons (HO1.out.below HB16.out) fun i x s hx hs => (HVR.out i x s hx hs).below (HB1.out.trans HB16.out)))
    obtain ⟨o6, n6, c6, rfl⟩ := row_form ho6
    have HFL : Hid (((headF kind ss :: ss) ++ [le4 c]).flatten = sealF kind ss) := by
      unfold Hid sealF bodyF
      rw [HC.out]; simp
    have HCAT := Lib.hid (concat_any HROWS6.out (by have := HN.out; simp; omega) (by rw [HFL.out]; exact HFIT.out))
    clear ho6 hg6
    go_wp2_with fail
    refine HCAT.out.mono ?_
    rintro e w7 ⟨v7, rfl, ho7, hb7⟩
    rw [HFL.out] at ho7
    have HBB := Lib.hid ((HB1.out.trans HB16.out).trans hb7)
    have HO7 := Lib.hid (row_base ho7 (HB1.out.trans HB16.out).size)
    obtain ⟨o7, n7, c7, rfl⟩ := row_form ho7
    clear ho7 hb7 HCAT
    go_wp2
    go_ret2
    exact ⟨_, _, rfl, HBB.out, .inl ⟨_, HYES.out, rfl, HO7.out⟩⟩
end Go.Proofs.Ytaaeaaahllicbaa
