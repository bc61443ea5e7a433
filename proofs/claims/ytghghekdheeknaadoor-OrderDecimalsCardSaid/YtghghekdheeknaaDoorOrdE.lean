/- Stage 7, the program: Text (made by wip/mkOrdD.py). -/
import Derived.Test.YtghghekdheeknaaDoorOrdD
namespace Go.Proofs.YtghghekdheeknaaDoor
open Go.RowKit Go.Maps Odr Go.Shelf
attribute [local go_sem] Oper.semAt_some

theorem prefix_no {c : UInt8} {t : List UInt8} (h : c ≠ 45) : Lib.hasPrefix (c :: t) [45] = false ∧ Lib.trimPrefix (c :: t) [45] = c :: t := by
  have h1 : Lib.hasPrefix (c :: t) [45] = false := by
    unfold Lib.hasPrefix
    rw [List.isPrefixOf]
    have : (45 == c) = false := beq_eq_false_iff_ne.2 (Ne.symm h)
    rw [this]; rfl
  exact ⟨h1, by unfold Lib.trimPrefix; rw [h1]; rfl⟩
theorem prefix_yes (t : List UInt8) : Lib.hasPrefix (45 :: t) [45] = true ∧ Lib.trimPrefix (45 :: t) [45] = t := by
  have h1 : Lib.hasPrefix (45 :: t) [45] = true := by unfold Lib.hasPrefix; simp
  exact ⟨h1, by unfold Lib.trimPrefix; rw [h1]; rfl⟩
theorem dec_no45 (u : Nat) : Lib.hasPrefix (dec u) [45] = false ∧ Lib.trimPrefix (dec u) [45] = dec u := by
  obtain ⟨c, t, h, _⟩ := dec_head u
  have : c ≠ 45 := by
    intro e
    have := dec_dig u c (by rw [h]; exact List.mem_cons_self ..)
    rw [e] at this; exact absurd this (by decide)
  rw [h]; exact prefix_no this
/-- the pieces of a number's decimal -/
theorem text_pieces (n : Int) (sc : Nat) : textN n sc = (if n < 0 then [45] else []) ++ ((padded n.natAbs sc).take ((padded n.natAbs sc).length - sc) ++ (if sc = 0 then [] else 46 :: (padded n.natAbs sc).drop ((padded n.natAbs sc).length - sc))) := text_padded n sc
set_option maxRecDepth 100000 in
set_option maxHeartbeats 1000000 in
theorem text_any (n : Int) (sc : Int) (h0 : -9223372036854775808 ≤ n) (h1 : n ≤ 9223372036854775807) (w : World) (hE : Env w) : Calls Tryd.prog 11 #[.int .i64 n, .int .i64 sc] w (WritPost w (textR n sc)) := by
  by_cases hsc : 0 ≤ sc ∧ sc ≤ 9
  · obtain ⟨k, rfl⟩ : ∃ k : Nat, sc = (k : Int) := ⟨sc.toNat, by omega⟩
    have hr : textR n (k : Int) = (textN n k, 0) := by unfold textR; rw [if_pos hsc, Int.toNat_natCast]
    have HSC := Lib.hid (fun W => isScale_yes (sc := (k : Int)) hsc.1 hsc.2 W)
    rw [hr, text_pieces]
    have hn0 : 0 ≤ (k : Int) := hsc.1
    have hn9 : (k : Int) ≤ 9 := hsc.2
    have HF := Lib.hid (fun W h => formatInt_any n h0 h1 W h)
    obtain ⟨u, hu⟩ : ∃ u, u = n.natAbs := ⟨_, rfl⟩
    have hu20 : (dec u).length ≤ 20 := dec_len 20 u (by omega) (by omega)
    have hu1 := dec_pos u
    have hpl := padded_len u k
    rw [← hu] at HF ⊢
    -- the minus
    obtain ⟨td, htd⟩ : ∃ t, t = ByteArray.mk (dec u).toArray := ⟨_, rfl⟩
    obtain ⟨tn, htn⟩ : ∃ t, t = ByteArray.mk ((if n < 0 then [45] else []) ++ dec u).toArray := ⟨_, rfl⟩
    obtain ⟨below, hbl⟩ : ∃ b : Bool, b = decide (n < 0) := ⟨_, rfl⟩
    have HC : Hid (∀ W, Calls Tryd.prog 37 #[.string tn, .string ⟨#[45]⟩] W fun e w' => e = .returned (.tuple #[.string td, .bool below]) ∧ w' = W) := fun W => by
      have h := cutPrefix_any ((if n < 0 then [45] else []) ++ dec u) [45] W
      have e : Lib.hasPrefix ((if n < 0 then [45] else []) ++ dec u) [45] = below ∧ Lib.trimPrefix ((if n < 0 then [45] else []) ++ dec u) [45] = dec u := by
        rw [hbl]
        by_cases hn : n < 0
        · rw [if_pos hn, decide_eq_true hn]; exact prefix_yes _
        · rw [if_neg hn, decide_eq_false hn]; exact dec_no45 u
      rw [e.1, e.2] at h
      rw [htn, htd]; exact h
    have HF2 : Hid (∀ W, Env W → Calls Tryd.prog 38 #[.int .i64 n, .int .i64 10] W fun e w' => e = .returned (.string tn) ∧ BW W w') := fun W h => by rw [htn]; exact HF.out W h
    have sd : td.size = (dec u).length := by rw [htd]; exact text_size _
    have sdi : (td.size : Int) ≤ 20 := by omega
    -- the padded digits
    obtain ⟨tD, htD⟩ : ∃ t, t = ByteArray.mk (padded u k).toArray := ⟨_, rfl⟩
    have sD : tD.size = max (k + 1) (dec u).length := by rw [htD, text_size, hpl]
    have sDi : (tD.size : Int) ≤ 20 := by omega
    obtain ⟨at', hat⟩ : ∃ a, a = tD.size - k := ⟨_, rfl⟩
    have hsub : (tD.size : Int) - (k : Int) = (at' : Int) := by omega
    have hat0 : 0 ≤ (at' : Int) := by omega
    have hatl : (at' : Int) ≤ (tD.size : Int) := by omega
    have hatn : at' ≤ tD.size := by omega
    obtain ⟨x1, hx1⟩ : ∃ x, x = tD.extract 0 at' := ⟨_, rfl⟩
    obtain ⟨x2, hx2⟩ : ∃ x, x = tD.extract at' tD.size := ⟨_, rfl⟩
    have e1 : x1 = ⟨((padded u k).take ((padded u k).length - k)).toArray⟩ := by
      rw [hx1, extract_text htD, List.drop_zero, Nat.sub_zero, hat, htD, text_size]
    have e2 : x2 = ⟨((padded u k).drop ((padded u k).length - k)).toArray⟩ := by
      rw [hx2, extract_text htD, List.take_of_length_le (by rw [List.length_drop, htD, text_size]; omega), hat, htD, text_size]
    have b1 : (x1.size : Int) ≤ 20 := by
      have : x1.size ≤ tD.size := by rw [e1, text_size, List.length_take, sD, hpl]; omega
      omega
    have b2 : (x2.size : Int) ≤ 20 := by
      have : x2.size ≤ tD.size := by rw [e2, text_size, List.length_drop, sD, hpl]; omega
      omega
    have HX1 := Lib.hid hx1; have HX2 := Lib.hid hx2
    have HOUT : Hid ((n < 0 → k = 0 → Value.string (⟨#[45]⟩ ++ x1) = textV ((if n < 0 then [45] else []) ++ ((padded u k).take ((padded u k).length - k) ++ (if k = 0 then [] else 46 :: (padded u k).drop ((padded u k).length - k))))) ∧ (¬ n < 0 → k = 0 → Value.string x1 = textV ((if n < 0 then [45] else []) ++ ((padded u k).take ((padded u k).length - k) ++ (if k = 0 then [] else 46 :: (padded u k).drop ((padded u k).length - k))))) ∧ (n < 0 → ¬ k = 0 → Value.string (⟨#[45]⟩ ++ (x1 ++ (⟨#[46]⟩ ++ x2))) = textV ((if n < 0 then [45] else []) ++ ((padded u k).take ((padded u k).length - k) ++ (if k = 0 then [] else 46 :: (padded u k).drop ((padded u k).length - k))))) ∧ (¬ n < 0 → ¬ k = 0 → Value.string (x1 ++ (⟨#[46]⟩ ++ x2)) = textV ((if n < 0 then [45] else []) ++ ((padded u k).take ((padded u k).length - k) ++ (if k = 0 then [] else 46 :: (padded u k).drop ((padded u k).length - k)))))) := by
      unfold Hid textV
      refine ⟨fun h1 h2 => ?_, fun h1 h2 => ?_, fun h1 h2 => ?_, fun h1 h2 => ?_⟩
      · rw [if_pos h1, if_pos h2, List.append_nil, ← text_cat (x := [45]) rfl e1]
      · rw [if_neg h1, if_pos h2, List.append_nil, List.nil_append, ← e1]
      · rw [if_pos h1, if_neg h2, text_cat (x := [45]) rfl (text_cat e1 (text_cat (x := [46]) rfl e2))]; rfl
      · rw [if_neg h1, if_neg h2, List.nil_append, text_cat e1 (text_cat (x := [46]) rfl e2)]; rfl
    have HE1 := Lib.hid hE
    generalize hT : (if n < 0 then [45] else []) ++ ((padded u k).take ((padded u k).length - k) ++ (if k = 0 then [] else 46 :: (padded u k).drop ((padded u k).length - k))) = T at HOUT ⊢
    have HNK : Hid (tD.size = max (k + 1) (dec u).length ∧ td.size = (dec u).length) := ⟨sD, sd⟩
    have SZ := Lib.hid (fun W => zeros_any (k + 1 - (dec u).length) (by omega) W)
    obtain ⟨tz, htz⟩ : ∃ t, t = ByteArray.mk (List.replicate (k + 1 - (dec u).length) (48 : UInt8)).toArray := ⟨_, rfl⟩
    have HZ : Hid (tz ++ td = tD) := by unfold Hid; rw [text_cat htz htd, htD]; rfl
    have HPD : Hid (¬ td.size < k + 1 → td = tD) := fun h => by
      rw [htd, htD]
      have : k + 1 - (dec u).length = 0 := by omega
      unfold padded; rw [this]; rfl
    have szi : (tz.size : Int) ≤ 20 := by rw [htz, text_size, List.length_replicate]; omega
    have hsz : (k : Int) + 1 - (td.size : Int) = (k + 1 - (dec u).length : Nat) ∨ ¬ td.size < k + 1 := by omega
    have vz : textV (List.replicate (k + 1 - (dec u).length) 48) = .string tz := by rw [htz]; rfl
    rw [vz] at SZ
    generalize k + 1 - (dec u).length = m at SZ hsz
    have HBL : Hid (below = decide (n < 0)) := hbl
    have HDP : Hid (1 ≤ td.size) := by unfold Hid; omega
    clear hT hr hx1 hx2 e1 e2 hat sD sd htz vz htD htd htn hpl hu1 hu20 hu HF hE hbl hsc h0 h1
    by_cases hsh : td.size < k + 1
    · have shi : (td.size : Int) < (k : Int) + 1 := by omega
      have hsz2 : (k : Int) + 1 - (td.size : Int) = (m : Int) := by omega
      clear hsz hsh HPD
      by_cases hb : n < 0
      · obtain rfl : below = true := by rw [HBL.out]; exact decide_eq_true hb
        by_cases hk : k = 0
        · have HO := Lib.hid (HOUT.out.1 hb hk)
          exfalso; have := HDP.out; omega
        · have HO := Lib.hid (HOUT.out.2.2.1 hb hk)
          have hkp : 0 < (k : Int) := by omega
          clear HOUT hb HBL HNK
          go_enter Tryd.func11, Tryd.ntmps11
          go_wp2_with (first | (go_at_call 38; refine (HF2.out _ HE1.out).mono ?_; rintro e w2 ⟨rfl, h2⟩; have H2 := Lib.hid h2; clear h2) | (go_at_call 37; refine (HC.out _).mono ?_; rintro e w3 ⟨rfl, rfl⟩; go_upto_region 5 with (fail)) | (go_at_call 33; refine (HSC.out _).mono ?_; rintro e w9 ⟨rfl, rfl⟩))
          go_wp2_with fail
          refine (SZ.out _).mono ?_; rintro e w4 ⟨rfl, h4⟩
          have H4 := Lib.hid h4
          clear h4 SZ
          go_upto_region 7 with (fail)
          rw [HZ.out]
          clear HZ
          go_upto_region 9 with (fail)
          rw [← HX1.out]
          go_upto_block 11 with (fail)
          go_wp2
          go_ret2
          exact ⟨by rw [← HO.out, HX2.out]; rfl, H2.out.trans H4.out⟩
      · obtain rfl : below = false := by rw [HBL.out]; exact decide_eq_false hb
        by_cases hk : k = 0
        · have HO := Lib.hid (HOUT.out.2.1 hb hk)
          exfalso; have := HDP.out; omega
        · have HO := Lib.hid (HOUT.out.2.2.2 hb hk)
          have hkp : 0 < (k : Int) := by omega
          clear HOUT hb HBL HNK
          go_enter Tryd.func11, Tryd.ntmps11
          go_wp2_with (first | (go_at_call 38; refine (HF2.out _ HE1.out).mono ?_; rintro e w2 ⟨rfl, h2⟩; have H2 := Lib.hid h2; clear h2) | (go_at_call 37; refine (HC.out _).mono ?_; rintro e w3 ⟨rfl, rfl⟩; go_upto_region 5 with (fail)) | (go_at_call 33; refine (HSC.out _).mono ?_; rintro e w9 ⟨rfl, rfl⟩))
          go_wp2_with fail
          refine (SZ.out _).mono ?_; rintro e w4 ⟨rfl, h4⟩
          have H4 := Lib.hid h4
          clear h4 SZ
          go_upto_region 7 with (fail)
          rw [HZ.out]
          clear HZ
          go_upto_region 9 with (fail)
          rw [← HX1.out]
          go_upto_block 11 with (fail)
          go_wp2
          go_ret2
          exact ⟨by rw [← HO.out, HX2.out]; rfl, H2.out.trans H4.out⟩
    · have shi : (k : Int) + 1 ≤ (td.size : Int) := by omega
      have htt := HPD.out hsh
      subst htt
      clear hsz hsh HPD HZ SZ
      by_cases hb : n < 0
      · obtain rfl : below = true := by rw [HBL.out]; exact decide_eq_true hb
        by_cases hk : k = 0
        · have HO := Lib.hid (HOUT.out.1 hb hk)
          subst hk
          clear HOUT hb HBL HNK
          have HXT : Hid (x1 = td) := by unfold Hid; rw [HX1.out, show at' = td.size by omega]; simp
          go_enter Tryd.func11, Tryd.ntmps11
          go_wp2_with (first | (go_at_call 38; refine (HF2.out _ HE1.out).mono ?_; rintro e w2 ⟨rfl, h2⟩; have H2 := Lib.hid h2; clear h2) | (go_at_call 37; refine (HC.out _).mono ?_; rintro e w3 ⟨rfl, rfl⟩; go_upto_region 5 with (fail)) | (go_at_call 33; refine (HSC.out _).mono ?_; rintro e w9 ⟨rfl, rfl⟩))
          go_wp2
          go_ret2
          exact ⟨by rw [← HO.out, HXT.out]; rfl, H2.out⟩
        · have HO := Lib.hid (HOUT.out.2.2.1 hb hk)
          have hkp : 0 < (k : Int) := by omega
          clear HOUT hb HBL HNK
          go_enter Tryd.func11, Tryd.ntmps11
          go_wp2_with (first | (go_at_call 38; refine (HF2.out _ HE1.out).mono ?_; rintro e w2 ⟨rfl, h2⟩; have H2 := Lib.hid h2; clear h2) | (go_at_call 37; refine (HC.out _).mono ?_; rintro e w3 ⟨rfl, rfl⟩; go_upto_region 5 with (fail)) | (go_at_call 33; refine (HSC.out _).mono ?_; rintro e w9 ⟨rfl, rfl⟩))
          go_upto_region 9 with (fail)
          rw [← HX1.out]
          go_upto_block 11 with (fail)
          go_wp2
          go_ret2
          exact ⟨by rw [← HO.out, HX2.out]; rfl, H2.out⟩
      · obtain rfl : below = false := by rw [HBL.out]; exact decide_eq_false hb
        by_cases hk : k = 0
        · have HO := Lib.hid (HOUT.out.2.1 hb hk)
          subst hk
          clear HOUT hb HBL HNK
          have HXT : Hid (x1 = td) := by unfold Hid; rw [HX1.out, show at' = td.size by omega]; simp
          go_enter Tryd.func11, Tryd.ntmps11
          go_wp2_with (first | (go_at_call 38; refine (HF2.out _ HE1.out).mono ?_; rintro e w2 ⟨rfl, h2⟩; have H2 := Lib.hid h2; clear h2) | (go_at_call 37; refine (HC.out _).mono ?_; rintro e w3 ⟨rfl, rfl⟩; go_upto_region 5 with (fail)) | (go_at_call 33; refine (HSC.out _).mono ?_; rintro e w9 ⟨rfl, rfl⟩))
          go_wp2
          go_ret2
          exact ⟨by rw [← HO.out, HXT.out]; rfl, H2.out⟩
        · have HO := Lib.hid (HOUT.out.2.2.2 hb hk)
          have hkp : 0 < (k : Int) := by omega
          clear HOUT hb HBL HNK
          go_enter Tryd.func11, Tryd.ntmps11
          go_wp2_with (first | (go_at_call 38; refine (HF2.out _ HE1.out).mono ?_; rintro e w2 ⟨rfl, h2⟩; have H2 := Lib.hid h2; clear h2) | (go_at_call 37; refine (HC.out _).mono ?_; rintro e w3 ⟨rfl, rfl⟩; go_upto_region 5 with (fail)) | (go_at_call 33; refine (HSC.out _).mono ?_; rintro e w9 ⟨rfl, rfl⟩))
          go_upto_region 9 with (fail)
          rw [← HX1.out]
          go_upto_block 11 with (fail)
          go_wp2
          go_ret2
          exact ⟨by rw [← HO.out, HX2.out]; rfl, H2.out⟩
  · have hr : textR n sc = ([], 1) := by unfold textR; rw [if_neg hsc]
    rw [hr]
    clear hr
    have HSC := Lib.hid (fun W => isScale_no hsc W)
    clear hsc hE h0 h1
    go_enter Tryd.func11, Tryd.ntmps11
    go_wp2_with (go_at_call 33; refine (HSC.out _).mono ?_; rintro e w9 ⟨rfl, rfl⟩)
    go_ret2
    exact ⟨rfl, BW.refl _⟩
end Go.Proofs.YtghghekdheeknaaDoor
