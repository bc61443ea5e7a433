/- Stage 6, the program: the other filters. -/
import Derived.Test.YtljjaepadnmmeaaDoorAnbM
namespace Go.Proofs.YtljjaepadnmmeaaDoor
open Go.RowKit Go.Maps Fld Ana Go.Shelf
attribute [local go_sem] Oper.semAt_some

theorem short_take (s : List UInt8) : one 14 s = [s.take (atM s 16)] := by
  unfold one
  rw [if_neg (by decide), if_neg (by decide), if_neg (by decide), if_pos rfl]
  by_cases h : 16 < (cutsL s).length
  · rw [if_pos h, ← slice_pieces (Nat.zero_le _) (Nat.le_of_lt h)]
    have h0 : atL s 0 = 0 := by unfold atL; simp [atC]
    rw [h0, List.drop_zero, Nat.sub_zero]
    unfold atM; rw [Nat.min_eq_left (by omega)]
  · rw [if_neg h]
    unfold atM; rw [Nat.min_eq_right (by omega), at_end, List.take_length]
set_option maxRecDepth 100000 in
set_option maxHeartbeats 1000000 in
theorem shortened_ok (w0 w : World) (hN : NextOk w) : FiltOk w0 w 45 #[] (one 14) := by
  intro W s hb hs
  show Calls Tryd.prog 45 #[textV s] W _
  rw [short_take]
  have HB : Hid (Calls Tryd.prog 65 #[textV s, .int .i64 0, .int .i64 16] W fun e w' => e = .returned (.int .i64 (atM s 16 : Int)) ∧ BW W w') := by
    have h := behind_any s (by omega) 0 16 (by decide) W (hN.bw hb)
    rw [atM_zero, Nat.zero_add] at h; exact h
  obtain ⟨k, hk⟩ : ∃ k, k = atM s 16 := ⟨_, rfl⟩
  have hkl : k ≤ s.length := by rw [hk]; exact atM_le s 16
  have HR := Lib.hid (fun (X : World) => row_one w0 (X.alloc (.cells #[textV (s.take k)] 9)) X.heap.size (s.take k) (Boxed.new X _ _))
  rw [← hk] at HB ⊢
  obtain ⟨tx, htx⟩ : ∃ tx, tx = ByteArray.mk s.toArray := ⟨_, rfl⟩
  have htv : textV s = .string tx := by rw [htx]; rfl
  have hts : tx.size = s.length := by rw [htx]; exact text_size s
  have hpx : textV (s.take k) = .string (tx.extract 0 k) := by
    unfold textV; rw [htx, ByteArray.extract_mk, List.drop_zero, Nat.sub_zero]
  rw [htv] at HB ⊢
  rw [hpx] at HR
  obtain ⟨px, hp⟩ : ∃ px, tx.extract 0 k = px := ⟨_, rfl⟩
  rw [hp] at HR
  have s1 : (k : Int) ≤ (tx.size : Int) := by omega
  have s2 : 0 ≤ (k : Int) := by omega
  clear htx htv hpx hs hb hk hkl hts hN
  go_enter Tryd.func45, Tryd.ntmps45
  go_wp2_with fail
  refine HB.out.mono ?_
  rintro e X ⟨rfl, hq⟩
  go_wp2_with fail
  refine (HR.out X).mono ?_
  rintro e X2 ⟨gi, lbi, rfl, hq2, he, ht⟩
  go_wp2
  go_ret
  exact ⟨gi, lbi, rfl, (hq.alloc _).trans hq2, he, ht⟩
set_option maxRecDepth 100000 in
set_option maxHeartbeats 1000000 in
theorem unmarked_ok (w0 w : World) (hN : NextOk w) : FiltOk w0 w 46 #[] (one 15) := by
  intro W s hb hs
  show Calls Tryd.prog 46 #[textV s] W _
  rw [show one 15 s = (if bare s = [] then [] else [bare s]) from by unfold one; rw [if_neg (by decide), if_neg (by decide), if_neg (by decide), if_neg (by decide), if_pos rfl]]
  have HU := Lib.hid (unmark_any s hs W (hN.bw hb))
  have HR := Lib.hid (fun (X : World) => row_one w0 (X.alloc (.cells #[textV (bare s)] 9)) X.heap.size (bare s) (Boxed.new X _ _))
  have HNo := Lib.hid (fun (X : World) => row_none w0 X)
  unfold TextPost at HU
  obtain ⟨tx, htx⟩ : ∃ tx, textV s = .string tx := ⟨_, rfl⟩
  obtain ⟨fx, hfx⟩ : ∃ tx, tx = ByteArray.mk (bare s).toArray := ⟨_, rfl⟩
  have hfv : textV (bare s) = .string fx := by rw [hfx]; rfl
  have hfl : fx.toList = bare s := by rw [hfx]; exact text_list _
  rw [htx] at HU ⊢
  rw [hfv] at HU HR
  by_cases h : bare s = []
  · rw [if_pos h]
    have t1 : fx.toList.isEmpty = true := by rw [hfl, h]; rfl
    clear htx hfx hs hb hfv hfl h hN
    go_enter Tryd.func46, Tryd.ntmps46
    go_wp2_with fail
    refine HU.out.mono ?_
    rintro e X ⟨rfl, hq⟩
    go_wp2_with fail
    refine (HNo.out X).mono ?_
    rintro e X2 ⟨gi, lbi, rfl, hq2, he, ht⟩
    go_wp2
    go_ret
    exact ⟨gi, lbi, rfl, hq.trans hq2, he, ht⟩
  · rw [if_neg h]
    have t1 : fx.toList.isEmpty = false := by rw [hfl]; cases hb2 : bare s with | nil => exact absurd hb2 h | cons => rfl
    clear htx hfx hs hb hfv hfl h hN
    go_enter Tryd.func46, Tryd.ntmps46
    go_wp2_with fail
    refine HU.out.mono ?_
    rintro e X ⟨rfl, hq⟩
    go_wp2_with fail
    refine (HR.out X).mono ?_
    rintro e X2 ⟨gi, lbi, rfl, hq2, he, ht⟩
    go_wp2
    go_ret
    exact ⟨gi, lbi, rfl, (hq.alloc _).trans hq2, he, ht⟩
/-- a gram's bytes -/
def gramW (s : List UInt8) (q : Nat × Nat) : List UInt8 := (s.drop q.1).take (q.2 - q.1)
theorem grams_one {n : Nat} (hn : n = 2 ∨ n = 3) (s : List UInt8) : one ((10 : Int) + n) s = (gramsB s n).map (gramW s) := by
  have e : ((10 : Int) + n - 10).toNat = n := by omega
  unfold one
  rw [if_neg (by omega), if_neg (by omega), if_pos (by omega), e]
  unfold gramsB
  rw [List.map_map]
  by_cases h : n < (cutsL s).length
  · rw [if_pos h]
    refine List.map_congr_left fun i hi => ?_
    have := List.mem_range.1 hi
    simp only [Function.comp_apply, gramW, gramAt, atM]
    rw [Nat.min_eq_left (by omega), Nat.min_eq_left (by omega), slice_pieces (by omega) (by omega)]
  · rw [if_neg h, show (cutsL s).length - n + 1 = 1 by omega]
    simp only [List.range_succ, List.range_zero, List.nil_append, List.map_cons, List.map_nil, Function.comp_apply, gramW, gramAt, atM_zero, Nat.zero_add, List.drop_zero, Nat.sub_zero]
    unfold atM; rw [Nat.min_eq_right (by omega), at_end, List.take_length]
set_option maxRecDepth 100000 in
set_option maxHeartbeats 4000000 in
theorem grams_tells (w0 X : World) (s : List UInt8) (hs : (s.length : Int) ≤ 1000000000000) (n Bw Bn : Nat) (hn : n ≤ 100) (hN : NextOk w0) (hb0 : BW w0 X) (hw : Boxed X Bw 9 (textV s)) (hnb : Boxed X Bn 3 (.int .i64 (n : Int))) :
    Tells w0 X 64 #[.pointer (some ⟨Bw, 0, none⟩), .pointer (some ⟨Bn, 0, none⟩)] ((gramsB s n).map (gramW s)) := by
  intro Y hY ly J Jx W hl1 hl2 hbel hJ hJx hR h0
  show Calls Tryd.prog 64 #[.func (.yield ly) #[] #[], .pointer (some ⟨Bw, 0, none⟩), .pointer (some ⟨Bn, 0, none⟩)] W _
  have hbW : BW X W := hY.trans hbel
  have hbx := boxed_on hw hbW
  have hbn := boxed_on hnb hbW
  obtain ⟨tx, htxe⟩ : ∃ tx, tx = ByteArray.mk s.toArray := ⟨_, rfl⟩
  have hts : tx.size = s.length := by rw [htxe]; exact text_size s
  have htv : textV s = .string tx := by rw [htxe]; rfl
  have hmf : ∀ (fn : Fn) (first cap : Array Value) (w : World), (Instr.makeFunc fn first cap).run Tryd.prog w = .ok (.func fn first cap) w := fun _ _ _ _ => rfl
  have HG := Lib.hid (fun Z => grams_any s n Z)
  rw [htv] at HG
  obtain ⟨N, hNn⟩ : ∃ N, N = W.heap.size := ⟨_, rfl⟩
  obtain ⟨W1, hW1⟩ : ∃ W1, W1 = W.alloc (.cells #[.func (.yield ly) #[] #[]] 38) := ⟨_, rfl⟩
  have HQ1 : Hid (BW W W1) := by unfold Hid; rw [hW1]; exact bw_alloc W _
  have HY1 : Hid (Boxed W1 N 38 (.func (.yield ly) #[] #[])) := by unfold Hid; rw [hW1, hNn]; exact Boxed.new W _ _
  have HZ1 : Hid (W1.heap.size = N + 1) := by unfold Hid; rw [hW1, hNn, World.size_alloc]
  have c1 : (W.alloc (.cells #[.func (.yield ly) #[] #[]] 38)).cell? ⟨Bw, 0, none⟩ = some (.string tx) := by rw [← htv]; exact (hbx.alloc _).cell
  have c2 : (W.alloc (.cells #[.func (.yield ly) #[] #[]] 38)).cell? ⟨Bn, 0, none⟩ = some (.int .i64 (n : Int)) := (hbn.alloc _).cell
  have HW1 := Lib.hid hW1; have HNN := Lib.hid hNn
  have HR := Lib.hid hR; have HJ := Lib.hid hJ; have HJX := Lib.hid hJx; have H0 := Lib.hid h0; have HNX := Lib.hid hN
  have HBX := Lib.hid hbx; have HBW0 : Hid (BW w0 W) := hb0.trans hbW
  have HTV := Lib.hid htv; have HTS := Lib.hid hts; have HTXE := Lib.hid htxe; have HS := Lib.hid hs; have HNL := Lib.hid hn
  have HLY : Hid (ly < W.heap.size) := hl2
  have HBLY : Hid (Bw < ly) := by unfold Hid; have h1 := hw.lt; have h2 := hY.size; omega
  clear hl1 hl2 hbel hJ hJx hR h0 hbW hbx hbn htxe hts htv hY hw hnb hb0 hN hs hn hW1
  refine (callsIn_wide (n := 5)).1 ?_
  refine callsIn_of_wp_marks Tryd.func64 rfl trivial ?_ rfl
  simp only [Tryd.ntmps64, List.size_toArray, List.length_cons, List.length_nil, Nat.reduceAdd, Nat.reduceSub, Array.replicate_succ, Array.replicate_zero, List.push_toArray, List.append_toArray, List.nil_append, List.cons_append]
  gi_wp2
  rw [← HW1.out, ← hNn]
  clear hNn
  refine ⟨trivial, ?_⟩
  refine (callsIn_wide.2 (HG.out _)).mono ?_
  rintro e W3 ⟨rfl, hw3⟩
  have HB3 : Hid (BW W W3) := by unfold Hid; rw [← hw3]; exact (HQ1.out.alloc _).alloc _
  have HS3 : Hid (Boxed W3 (N + 1) 9 (textV s)) := by unfold Hid; rw [← hw3, HTV.out, ← HZ1.out]; exact (Boxed.new W1 _ _).alloc _
  have HI3 : Hid (Boxed W3 (N + 1 + 1) 3 (.int .i64 (n : Int))) := by
    unfold Hid; rw [← hw3]
    have := Boxed.new (W1.alloc (.cells #[.string tx] 9)) 3 (.int .i64 (n : Int))
    rw [World.size_alloc, HZ1.out] at this; exact this
  have HY3 : Hid (Boxed W3 N 38 (.func (.yield ly) #[] #[])) := by unfold Hid; rw [← hw3]; exact (HY1.out.alloc _).alloc _
  have HZ3 : Hid (W3.heap.size = N + 3) := by unfold Hid; rw [← hw3, World.size_alloc, World.size_alloc, HZ1.out]
  have hz1 := HZ1.out
  rw [hz1]
  clear hw3 hz1 c1 c2
  have hnn := func_is_not_nil W3 Tryd.underlying76 ⟨_, _, _, rfl⟩ (.func 75) #[] #[.pointer (some ⟨N + 1, 0, none⟩), .pointer (some ⟨N + 1 + 1, 0, none⟩)]
  have HCB : Hid (BW w0 W3) := HBW0.out.trans HB3.out
  gi_wp2
  refine range_k (enc := encG (L := s.length)) (Kp := fun _ => GK w0 (N + 1) (textV s)) (S := fun xs => valG xs = gramsB s n) (Sp := fun pre => valG pre <+: gramsB s n) (Tr := fun pre => pre.length ≤ (cutsL s).length - n + 1) (by decide) (gf := 75) (lb := #[.pointer (some ⟨N + 1, 0, none⟩), .pointer (some ⟨N + 1 + 1, 0, none⟩)]) rfl (enters_of Tryd.func75 (by kernel_rfl) rfl) (fun _ => rfl)
    (grams_iter s (by have := HS.out; omega) n HNL.out (N + 1) (N + 1 + 1) w0 W3 HNX.out HCB.out HS3.out HI3.out)
    (fun h k => h.trans k) (fun Z o o' h hc _ => GK.books (N := W3.heap.size + 1) (by have := HCB.out.size; omega) Z _ o o' (Nat.le_refl _) h hc)
    (fun pre Z => J ((valG pre).map (gramW s)) Z ∧ Boxed Z N 38 (.func (.yield ly) #[] #[]) ∧ Boxed Z Bw 9 (textV s) ∧ Boxed Z (N + 1) 9 (textV s) ∧ BW w0 Z)
    (fun c pre Z => c = .ret ∧ Jx ((valG pre).map (gramW s)) Z) ?own ?ownx ?start (fun x => #[.func (.yield ly) #[] #[], .pointer (some ⟨Bw, 0, none⟩), .pointer (some ⟨Bn, 0, none⟩), .pointer (some ⟨N, 0, none⟩), .int .i64 (x.1.1 : Int), .int .i64 (x.1.2 : Int), .string tx, .int .i64 (n : Int), .func (.func 75) #[] #[.pointer (some ⟨N + 1, 0, none⟩), .pointer (some ⟨N + 1 + 1, 0, none⟩)], .int .i64 (x.1.1 : Int), .int .i64 (x.1.2 : Int), undef, undef, undef, undef, undef, undef, undef]) ?assign ?body ?done ?stop
  case own =>
    rintro pre Z Z' row ⟨h1, h2, h3, h4, h5⟩ hg hr
    exact ⟨HJ.out _ Z Z' row h1 hg (fun r e => by obtain ⟨h, h'⟩ := hr r e; exact ⟨Nat.le_trans HB3.out.size h, h'⟩), boxed_own1 h2 hg (fun r e => (hr r e).2), boxed_own1 h3 hg (fun r e => (hr r e).2), boxed_own1 h4 hg (fun r e => (hr r e).2), RowKit.Below.grown h5 hg h5.size (fun r e => by have := (hr r e).1; have := HCB.out.size; omega)⟩
  case ownx =>
    rintro c pre Z Z' row ⟨h1, h2⟩ hg hr
    exact ⟨h1, HJX.out _ Z Z' row h2 hg (fun r e => by obtain ⟨h, h'⟩ := hr r e; exact ⟨Nat.le_trans HB3.out.size h, h'⟩)⟩
  case start => exact ⟨HJ.out _ _ _ none H0.out (bw_grow HB3.out) (fun r e => by cases e), HY3.out, boxed_on HBX.out HB3.out, HS3.out, HCB.out⟩
  case assign =>
    intro l' x Z K hK
    gi_wp2
    simpa [encG] using hK
  case body =>
    rintro pre x Z hsz ⟨h1, h2, h3, h4, h5⟩ htr
    have hx := x.2
    obtain ⟨f, hf⟩ : ∃ f, f = x.1.1 := ⟨_, rfl⟩
    obtain ⟨t, ht⟩ : ∃ t, t = x.1.2 := ⟨_, rfl⟩
    have HXV : Hid ((valG (pre ++ [x])).map (gramW s) = (valG pre).map (gramW s) ++ [gramW s (f, t)]) := by unfold Hid valG; rw [List.map_append, List.map_append, hf, ht]; rfl
    rw [← hf, ← ht] at hx ⊢
    have hgw : textV (gramW s (f, t)) = .string (tx.extract f t) := by unfold textV gramW; rw [HTXE.out, ByteArray.extract_mk]
    have hlen : ((valG pre).map (gramW s) ++ [gramW s (f, t)]).length ≤ ((gramsB s n).map (gramW s)).length := by
      rw [List.length_append, List.length_map, List.length_map, gramsB_len]
      unfold valG; rw [List.length_map]
      simp only [List.length_append, List.length_cons, List.length_nil] at htr ⊢; exact htr
    have hd : BW Z Z.drew := bw_drewn (BW.refl Z)
    have hY := HR.out _ (gramW s (f, t)) Z.drew (HJ.out _ _ _ none h1 (bw_grow hd) (fun r e => by cases e)) hlen
    unfold encW at hY
    rw [hgw] at hY
    have hcy := h2.cell
    have hcw := h3.cell
    rw [HTV.out] at hcw
    have hly : ly < N := by rw [HNN.out]; exact HLY.out
    refine wpIn_block ?_
    refine wpIn_seq_k ?_
    intro K1 hK1
    refine grams_region (Qt := fun W' => J ((valG pre).map (gramW s) ++ [gramW s (f, t)]) W' ∧ KX w0 ly Z.drew W') (Qf := fun W' => Jx ((valG pre).map (gramW s) ++ [gramW s (f, t)]) W' ∧ KX w0 ly Z.drew W') hcy hcw (by omega) (by have := HTS.out; omega) ?_ ?_ ?_
    · obtain ⟨fn, tmps, assign, body, hy, hRI⟩ := hY
      exact ⟨fn, tmps, assign, body, hy, hRI.mono fun e W' h => h.imp id id⟩
    · rintro W' ⟨hj, hk⟩
      have HJ2 := Lib.hid hj; have HK2 := Lib.hid hk; have H2 := Lib.hid h2; have H3 := Lib.hid h3; have H4 := Lib.hid h4; have H5 := Lib.hid h5; have HLYN := Lib.hid hly; have HHD := Lib.hid hd
      clear hj hk hY hgw hlen hcy hcw h1 h2 h3 h4 h5 hx hf ht hly hd htr
      have hkf : KeepsFrom W3.heap.size Z.drew W' := HK2.out.keeps (by have := HZ3.out; have := HLYN.out; omega)
      have hb1 := HK2.out.boxed H4.out (by have := HLYN.out; omega) (by decide) (by decide) (by decide)
      have hb2 := HK2.out.boxed H3.out (by have := HBLY.out; omega) (by decide) (by decide) (by decide)
      have hb3 := HK2.out.boxed H2.out (by have := HLYN.out; omega) (by decide) (by decide) (by decide)
      have hb4 := HK2.out.2.2 (H5.out.trans HHD.out)
      have HKF : Hid (KeepsFrom W3.heap.size Z W') := ⟨hkf.size, fun k o a b c => hkf.same k o a b c⟩
      have HQ1 := Lib.hid hb1; have HQ2 := Lib.hid hb2; have HQ3 := Lib.hid hb3; have HQ4 := Lib.hid hb4
      clear hkf hb1 hb2 hb3 hb4
      gi_wp2
      refine ⟨HKF.out, ⟨fun _ => HQ1.out.cell, fun _ => HQ4.out⟩, by rw [HXV.out]; exact HJ2.out, HQ3.out, HQ2.out, HQ1.out, HQ4.out⟩
    · rintro W' ⟨hj, hk⟩
      have HJ2 := Lib.hid hj; have HK2 := Lib.hid hk; have H2 := Lib.hid h2; have H3 := Lib.hid h3; have H4 := Lib.hid h4; have H5 := Lib.hid h5; have HLYN := Lib.hid hly; have HHD := Lib.hid hd
      clear hj hk hY hgw hlen hcy hcw h1 h2 h3 h4 h5 hx hf ht hly hd htr
      have hkf : KeepsFrom W3.heap.size Z.drew W' := HK2.out.keeps (by have := HZ3.out; have := HLYN.out; omega)
      have hb1 := HK2.out.boxed H4.out (by have := HLYN.out; omega) (by decide) (by decide) (by decide)
      have hb4 := HK2.out.2.2 (H5.out.trans HHD.out)
      have HKF : Hid (KeepsFrom W3.heap.size Z W') := ⟨hkf.size, fun k o a b c => hkf.same k o a b c⟩
      have HQ1 := Lib.hid hb1; have HQ4 := Lib.hid hb4
      clear hkf hb1 hb4
      gi_wp2
      refine ⟨HKF.out, ⟨fun _ => HQ1.out.cell, fun _ => HQ4.out⟩, rfl, by rw [HXV.out]; exact HJ2.out⟩
  case done =>
    rintro D' ys Z hD' hys ⟨h1, _, _, _, _⟩ hK
    rw [hys] at h1
    have H1 := Lib.hid h1; have HK := Lib.hid hK; have HD := Lib.hid hD'
    clear h1 hK hD' hys
    gi_wp2
    refine ⟨by simp, .inl ⟨_, _, rfl, run_takeDeferred HK.out, ?_⟩⟩
    refine ⟨_, results_none rfl _ _ _, ⟨_, rfl⟩, .inl ⟨_, rfl, ?_⟩⟩
    exact HJ.out.putObj _ H1.out (by have := HD.out; have := HB3.out.size; omega) HK.out rfl
  case stop =>
    rintro D' c pre Z hD' hSp ⟨rfl, h1⟩ hK
    have HPX : Hid ((valG pre).map (gramW s) <+: (gramsB s n).map (gramW s)) := hSp.map _
    have H1 := Lib.hid h1; have HK := Lib.hid hK; have HD := Lib.hid hD'
    clear h1 hK hD' hSp
    gi_wp2
    refine ⟨by simp, .inl ⟨_, _, rfl, run_takeDeferred HK.out, ?_⟩⟩
    refine ⟨_, results_none rfl _ _ _, ⟨_, rfl⟩, .inr ⟨_, HPX.out, ?_⟩⟩
    exact HJX.out.putObj _ H1.out (by have := HD.out; have := HB3.out.size; omega) HK.out rfl
set_option maxRecDepth 100000 in
set_option maxHeartbeats 1000000 in
theorem gramsOf1_ok (w0 w : World) (n : Nat) (hn : n = 2 ∨ n = 3) (Bn : Nat) (hN : NextOk w0) (hb0 : BW w0 w) (hnb : Boxed w Bn 3 (.int .i64 (n : Int))) : FiltOk w0 w 63 #[.pointer (some ⟨Bn, 0, none⟩)] (one ((10 : Int) + n)) := by
  intro W s hb hs
  show Calls Tryd.prog 63 #[textV s, .pointer (some ⟨Bn, 0, none⟩)] W _
  rw [grams_one hn]
  have hmf : ∀ (fn : Fn) (first cap : Array Value) (w : World), (Instr.makeFunc fn first cap).run Tryd.prog w = .ok (.func fn first cap) w := fun _ _ _ _ => rfl
  have HE : Hid (∃ gi lbi, Ending.returned (.func (.func 64) #[] #[.pointer (some ⟨W.heap.size, 0, none⟩), .pointer (some ⟨Bn, 0, none⟩)]) = .returned (.func (.func gi) #[] lbi) ∧ BW W (W.alloc (.cells #[textV s] 9)) ∧ (∀ args w, (callFunc gi args).run Tryd.prog w = .ok (.enter gi args) w) ∧ Tells w0 (W.alloc (.cells #[textV s] 9)) gi lbi ((gramsB s n).map (gramW s))) := by
    refine ⟨_, _, rfl, bw_alloc W _, enters_of Tryd.func64 (by kernel_rfl) rfl, ?_⟩
    exact grams_tells w0 _ s hs n W.heap.size Bn (by omega) hN ((hb0.trans hb).alloc _) (Boxed.new W _ _) ((boxed_on hnb hb).alloc _)
  obtain ⟨tx, htx⟩ : ∃ tx, textV s = .string tx := ⟨_, rfl⟩
  rw [htx] at HE ⊢
  clear htx hs hb hnb hb0 hN hn
  go_enter Tryd.func63, Tryd.ntmps63
  go_wp2
  go_ret
  exact HE.out
set_option maxHeartbeats 1000000 in
theorem gramsOf_any (n : Nat) (w : World) : Calls Tryd.prog 44 #[.int .i64 (n : Int)] w fun e w' => e = .returned (.func (.func 63) #[] #[.pointer (some ⟨w.heap.size, 0, none⟩)]) ∧ w.alloc (.cells #[.int .i64 (n : Int)] 3) = w' := by
  have hmf : ∀ (fn : Fn) (first cap : Array Value) (w : World), (Instr.makeFunc fn first cap).run Tryd.prog w = .ok (.func fn first cap) w := fun _ _ _ _ => rfl
  go_enter Tryd.func44, Tryd.ntmps44
  go_wp2
  go_ret
  exact ⟨rfl, rfl⟩
/-- what a filter's number finds -/
def FilterPost (w : World) (n : Int) (e : Ending) (w' : World) : Prop := BW w w' ∧
  ((filterI n = true ∧ ∃ ff lbf, e = .returned (.func (.func ff) #[] lbf) ∧ (∀ args w, (callFunc ff args).run Tryd.prog w = .ok (.enter ff args) w) ∧ FiltOk w w' ff lbf (one n)) ∨ (filterI n = false ∧ e = .returned .nilFunc))
set_option maxRecDepth 100000 in
set_option maxHeartbeats 2000000 in
theorem filterOf_any (n : Int) (w : World) (hN : NextOk w) : Calls Tryd.prog 29 #[.int .i64 n] w (FilterPost w n) := by
  have HG := Lib.hid (fun k => gramsOf_any k w)
  by_cases h : 10 ≤ n ∧ n ≤ 15
  · have hf : filterI n = true := by unfold filterI; exact decide_eq_true h
    have h6 : n = 10 ∨ n = 11 ∨ n = 12 ∨ n = 13 ∨ n = 14 ∨ n = 15 := by omega
    have HF := Lib.hid hf
    have HNX := Lib.hid hN
    clear h hf hN
    rcases h6 with rfl | rfl | rfl | rfl | rfl | rfl
    · go_enter Tryd.func29, Tryd.ntmps29
      go_wp2
      go_ret
      exact ⟨BW.refl w, .inl ⟨HF.out, _, _, rfl, enters_of Tryd.func42 (by kernel_rfl) rfl, lowered_ok w w⟩⟩
    · go_enter Tryd.func29, Tryd.ntmps29
      go_wp2
      go_ret
      exact ⟨BW.refl w, .inl ⟨HF.out, _, _, rfl, enters_of Tryd.func43 (by kernel_rfl) rfl, unstopped_ok w w⟩⟩
    · go_enter Tryd.func29, Tryd.ntmps29
      go_wp2_with fail
      refine (HG.out 2).mono ?_
      rintro e X ⟨rfl, rfl⟩
      go_wp2
      go_ret
      exact ⟨bw_alloc w _, .inl ⟨HF.out, _, _, rfl, enters_of Tryd.func63 (by kernel_rfl) rfl, gramsOf1_ok w _ 2 (.inl rfl) _ HNX.out (bw_alloc w _) (Boxed.new w _ _)⟩⟩
    · go_enter Tryd.func29, Tryd.ntmps29
      go_wp2_with fail
      refine (HG.out 3).mono ?_
      rintro e X ⟨rfl, rfl⟩
      go_wp2
      go_ret
      exact ⟨bw_alloc w _, .inl ⟨HF.out, _, _, rfl, enters_of Tryd.func63 (by kernel_rfl) rfl, gramsOf1_ok w _ 3 (.inr rfl) _ HNX.out (bw_alloc w _) (Boxed.new w _ _)⟩⟩
    · go_enter Tryd.func29, Tryd.ntmps29
      go_wp2
      go_ret
      exact ⟨BW.refl w, .inl ⟨HF.out, _, _, rfl, enters_of Tryd.func45 (by kernel_rfl) rfl, shortened_ok w w HNX.out⟩⟩
    · go_enter Tryd.func29, Tryd.ntmps29
      go_wp2
      go_ret
      exact ⟨BW.refl w, .inl ⟨HF.out, _, _, rfl, enters_of Tryd.func46 (by kernel_rfl) rfl, unmarked_ok w w HNX.out⟩⟩
  · have hf : filterI n = false := by unfold filterI; exact decide_eq_false h
    have HF := Lib.hid hf
    have e1 : (n == 10) = false := by simp; omega
    have e2 : (n == 11) = false := by simp; omega
    have e3 : (n == 12) = false := by simp; omega
    have e4 : (n == 13) = false := by simp; omega
    have e5 : (n == 14) = false := by simp; omega
    have e6 : (n == 15) = false := by simp; omega
    clear h hf hN
    go_enter Tryd.func29, Tryd.ntmps29
    go_wp2
    go_ret
    exact ⟨BW.refl w, .inr ⟨HF.out, rfl⟩⟩
end Go.Proofs.YtljjaepadnmmeaaDoor
