/- FrameOpens: the walk. -/
import Derived.Test.YtaaeaaahllicbaaFrmS
namespace Go.Proofs.Ytaaeaaahllicbaa
open Go.RowKit Go.Maps Crc

theorem below_lessF {b c : Nat} {w w' : World} (h : RowKit.Below b w w') (hc : c ≤ b) : RowKit.Below c w w' := ⟨h.os, h.tape, h.output, h.size, fun k hk => h.block k (Nat.lt_of_lt_of_le hk hc)⟩
/-- what Kind answers, in one -/
def kO (bs : List UInt8) : Value := match kindP bs with | some x => bV x | none => .int .u8 0
def isO (bs : List UInt8) : Bool := (kindP bs).isSome
theorem kind_res {w w' : World} {bs : List UInt8} {e : Ending} (h : KindPostB w (kindP bs) e w') : e = .returned (.tuple #[kO bs, .bool (isO bs)]) ∧ BW w w' := by
  obtain ⟨hb, ⟨x, h1, rfl⟩ | ⟨h1, rfl⟩⟩ := h
  · exact ⟨by unfold kO isO; rw [h1]; rfl, hb⟩
  · exact ⟨by unfold kO isO; rw [h1]; rfl, hb⟩
theorem kO_int (bs : List UInt8) : ∃ z : Int, kO bs = .int .u8 z := by
  unfold kO
  cases kindP bs with
  | none => exact ⟨_, rfl⟩
  | some x => exact ⟨_, rfl⟩

set_option maxHeartbeats 4000000 in
set_option maxRecDepth 100000 in
theorem frameOpens_any {w : World} {kind : UInt8} {v : Value} {bs : List UInt8} (h : Src w v (bs.map bV)) (hb : (bs.length : Int) ≤ 140737488351232) : Calls Try.prog 4 #[bV kind, v] w (TruePost w) := by
  obtain ⟨ao, cap, rfl⟩ := h.len
  rw [List.length_map] at h ⊢
  obtain ⟨n, hn⟩ : ∃ n, bs.length = n := ⟨_, rfl⟩
  rw [hn] at h ⊢
  obtain ⟨kv, hkv⟩ : ∃ kv, kv = bV kind := ⟨_, rfl⟩
  rw [← hkv]
  by_cases hf : 100000 < n ∧ n ≤ 16777216
  · have h1 : decide (100000 < n) = true := decide_eq_true hf.1
    have h1' : decide ((100000 : Int) < (n : Int)) = true := decide_eq_true (by omega)
    have h2 : decide (n ≤ 16777216) = true := decide_eq_true hf.2
    have h2' : decide ((n : Int) ≤ 16777216) = true := decide_eq_true (by omega)
    clear h hb hn hkv hf
    go_enter Try.func4, Try.ntmps4
    go_wp2_with (first | (go_at_call 9; refine (awake_any _).mono ?_; rintro e w' ⟨rfl, hb⟩))
    go_ret
    exact ⟨rfl, hb⟩
  have hcond : (decide (100000 < n) = false ∧ decide ((100000 : Int) < (n : Int)) = false) ∨ ((decide (100000 < n) = true ∧ decide ((100000 : Int) < (n : Int)) = true) ∧ (decide (n ≤ 16777216) = false ∧ decide ((n : Int) ≤ 16777216) = false)) := by
    by_cases h1 : 100000 < n
    · exact .inr ⟨⟨decide_eq_true h1, decide_eq_true (by omega)⟩, decide_eq_false fun h2 => hf ⟨h1, h2⟩, decide_eq_false fun h2 => hf ⟨h1, by omega⟩⟩
    · exact .inl ⟨decide_eq_false h1, decide_eq_false (by omega)⟩
  obtain ⟨er, her⟩ : ∃ er, er = erO kind bs := ⟨_, rfl⟩
  have hee : (er == er) = true := by simp
  obtain ⟨kz, hkz⟩ := kO_int bs
  have hkk : (kz == kz) = true := by simp
  obtain ⟨isb, his⟩ : ∃ isb, isb = isO bs := ⟨_, rfl⟩
  have hib : (isb == isb) = true := by cases isb <;> rfl
  have HER := Lib.hid her; have HKZ := Lib.hid hkz; have HIS := Lib.hid his; have HKV := Lib.hid hkv
  have H := Lib.hid h; have HBN := Lib.hid hb; have HN := Lib.hid hn
  obtain ⟨ss, hss⟩ : ∃ ss, ss = ssO kind bs := ⟨_, rfl⟩
  have HSS := Lib.hid hss
  have HSL := Lib.hid (ssO_len kind bs)
  rw [← hss] at HSL
  clear h hb hn hkv hf her hkz his hss
  rcases hcond with ⟨hc1, hc3⟩ | ⟨⟨hc1, hc3⟩, hc2, hc4⟩
  all_goals
    go_enter Try.func4, Try.ntmps4
    go_wp2_with fail
    refine (lent_any H.out HBN.out).mono ?_
    rintro e w1 ⟨g, gc, rfl, hl1, hb⟩
    have HL1 := Lib.hid hl1; have HB1 := Lib.hid hb
    rw [HN.out]
    have HS1 : Hid (Src w1 (.slice (some ⟨g, 0, none⟩) n gc) (bs.map bV)) := by have := hl1.src; rw [HN.out] at this; exact this
    clear hl1 hb
    have HC1 := Lib.hid (open_any (kind := kind) HS1.out HBN.out)
    rw [← HKV.out] at HC1
    go_wp2_with fail
    refine HC1.out.mono ?_
    intro e w2 hh
    obtain ⟨va, las, rfl, hb, hbag⟩ := open_res hh
    rw [← HER.out]
    have HBAGA := Lib.hid hbag; have HB12 := Lib.hid hb
    have HC2 := Lib.hid (open_any (kind := kind) (HS1.out.below hb) HBN.out)
    rw [← HKV.out] at HC2
    clear hh hb hbag HC1
    obtain ⟨ao1, an1, ac1, rfl⟩ := row_form HBAGA.out.out
    go_wp2_with fail
    refine HC2.out.mono ?_
    intro e w3 hh
    obtain ⟨vb, lbs, rfl, hb, hbag⟩ := open_res hh
    rw [← HER.out]
    have HBAGB := Lib.hid hbag; have HB23 := Lib.hid hb
    have HW3 : Hid (BW w w3) := (HB1.out.trans HB12.out).trans hb
    have HC3 := Lib.hid (refOpen_any (kind := kind) (H.out.below HW3.out) HBN.out)
    rw [← HKV.out] at HC3
    clear hh hb hbag HC2
    obtain ⟨bo1, bn1, bc1, rfl⟩ := row_form HBAGB.out.out
    go_wp2_with fail
    refine HC3.out.mono ?_
    intro e w4 hh
    obtain ⟨vc, lcs, rfl, hb, hbag⟩ := open_res hh
    rw [← HER.out]
    have HBAGC := Lib.hid hbag; have HB34 := Lib.hid hb
    have HW4 : Hid (BW w w4) := HW3.out.trans hb
    have HB14 : Hid (BW w1 w4) := (HB12.out.trans HB23.out).trans hb
    clear hh hb hbag HC3
    obtain ⟨co1, cn1, cc1, rfl⟩ := row_form HBAGC.out.out
    go_wp2_with fail
    refine (kind_any (HS1.out.below HB14.out) HBN.out).mono ?_
    intro e w5 hh
    obtain ⟨rfl, hb⟩ := kind_res hh
    rw [HKZ.out, ← HIS.out]
    have HB45 := Lib.hid hb
    clear hh hb
    go_wp2_with fail
    refine (refKind_any (H.out.below (HW4.out.trans HB45.out)) HBN.out).mono ?_
    intro e w6 hh
    obtain ⟨rfl, hk⟩ := hh
    obtain ⟨rfl, hb⟩ := kind_res (w := w5) (w' := w5) ⟨BW.refl _, hk⟩
    rw [HKZ.out, ← HIS.out]
    clear hk hb
    have HVA : Hid (Src w5 (.slice ao1 an1 ac1) las) := (Src.of_row HBAGA.out.out).below (HB23.out.trans (HB34.out.trans HB45.out))
    have HVB : Hid (Src w5 (.slice bo1 bn1 bc1) lbs) := (Src.of_row HBAGB.out.out).below (HB34.out.trans HB45.out)
    have HLA : Hid (las.length ≤ 1024) := by have := HBAGA.out.len; have := HSL.out.1; unfold Hid; rw [← HSS.out] at *; omega
    have HLB : Hid (lbs.length ≤ 1024) := by have := HBAGB.out.len; have := HSL.out.1; unfold Hid; rw [← HSS.out] at *; omega
    go_wp2_with (at_builtin; refine append_any Try.underlying22 info_bs rfl (by decide) rfl (.tmp 56) (.tmp 57) rfl w5.heap.size (.slice none 0 0) 0 [] rfl (World.ownsRow_nil _ _ _ _) _ rfl las HVA.out HBAGA.out.cells ?_ ?_ ?_)
    · have := HLA.out; omega
    · exact Nat.le_refl _
    intro v7 w7 ho7 hg7
    have HO7 : Hid (w7.ownsRow w5.heap.size 23 1 v7 las.length las) := by unfold Hid; simpa using ho7
    have HB57 : Hid (BW w5 w7) := bw_grown (BW.refl w5) hg7 (fun k e => by cases e)
    clear ho7 hg7
    obtain ⟨ao7, an7, ac7, rfl⟩ := row_form HO7.out
    go_wp2_with (at_builtin; refine append_any Try.underlying22 info_bs rfl (by decide) rfl (.tmp 59) (.tmp 60) rfl w5.heap.size _ las.length las rfl HO7.out _ rfl lbs (HVB.out.below HB57.out) HBAGB.out.cells ?_ ?_ ?_)
    · have := HLA.out; have := HLB.out; omega
    · exact HB57.out.size
    intro v8 w8 ho8 hg8
    have HO8 : Hid (w8.ownsRow w5.heap.size 23 1 v8 (las ++ lbs).length (las ++ lbs)) := by unfold Hid; rw [List.length_append]; exact ho8
    have HB58 : Hid (BW w5 w8) := bw_grown HB57.out hg8 (fun k e => (row_block HO7.out e).1)
    have HB28 : Hid (BW w2 w8) := (HB23.out.trans (HB34.out.trans HB45.out)).trans HB58.out
    have HB38 : Hid (BW w3 w8) := (HB34.out.trans HB45.out).trans HB58.out
    have HB48 : Hid (BW w4 w8) := HB45.out.trans HB58.out
    clear ho8 hg8
    have HSR : Hid (ss.length ≤ 1024) := HSL.out.1
    have HRA : Hid (SrcRows w8 (.slice ao1 an1 ac1) ss) := by rw [HSS.out]; exact HBAGA.out.rows.below HB28.out
    have HRB : Hid (SrcRows w8 (.slice bo1 bn1 bc1) ss) := by rw [HSS.out]; exact HBAGB.out.rows.below HB38.out
    have HRC : Hid (SrcRows w8 (.slice co1 cn1 cc1) ss) := by rw [HSS.out]; exact HBAGC.out.rows.below HB48.out
    obtain ⟨ao8, an8, ac8, rfl⟩ := row_form HO8.out
    go_wp2_with fail
    refine (blocks_b HRA.out HRC.out (by have := HSR.out; omega)).mono ?_
    rintro e w9 ⟨rfl, hb9⟩
    have HB89 := Lib.hid hb9
    clear hb9
    go_wp2_with fail
    refine (blocks_b (HRB.out.below HB89.out) (HRC.out.below HB89.out) (by have := HSR.out; omega)).mono ?_
    rintro e w10 ⟨rfl, hb10⟩
    have HB810 : Hid (BW w8 w10) := HB89.out.trans hb10
    have HB110 : Hid (BW w1 w10) := HB14.out.trans (HB48.out.trans HB810.out)
    have HW10 : Hid (BW w w10) := HB1.out.trans HB110.out
    clear hb10
    have HKP := Lib.hid (kept_any (HL1.out.keep (HB110.out.block g HL1.out.mark.2.2.2)) (H.out.below HW10.out) HBN.out)
    rw [HN.out] at HKP
    go_wp2_with fail
    refine HKP.out.mono ?_
    rintro e w11 ⟨rfl, n11, hw11⟩
    have HB1011 : Hid (BW w10 w11) := by unfold Hid; rw [hw11]; exact drewN_below _ _
    have HB111 : Hid (BW w1 w11) := HB110.out.trans HB1011.out
    have HB211 : Hid (BW w2 w11) := HB28.out.trans (HB810.out.trans HB1011.out)
    have HB311 : Hid (BW w3 w11) := HB38.out.trans (HB810.out.trans HB1011.out)
    have HO11 : Hid (w11.ownsRow w5.heap.size 23 1 (.slice ao8 an8 ac8) (las ++ lbs).length (las ++ lbs)) := row_keepB HO8.out fun b e => (HB810.out.trans HB1011.out).block b (row_block HO8.out e).2
    clear hw11
    -- the rows apart
    have HAP : Hid (Calls Try.prog 16 #[.slice ao8 an8 ac8] w11 fun e w' => e = .returned (.bool true) ∧ RowKit.Below w1.heap.size w11 w' ∧ w'.heap[g]? = w11.heap[g]?) := by
      have hs1 := HB111.out.size
      have hgl := HL1.out.mark.2.2.2
      obtain ⟨V, nn, role, hV, hap, hrn, hrb, hnn⟩ := bags_apart HBAGA.out HBAGB.out HB12.out.size HB23.out.size (fun b _ h2 => HB211.out.block b h2) (fun b _ h2 => HB311.out.block b h2)
      rcases HO11.out.2 with ⟨hv, hz⟩ | ⟨gg, cp, cur, hv, hgb, hgh, _⟩
      · rw [hv]
        refine (apart_nil w11).mono ?_
        rintro e w' ⟨rfl, rfl⟩
        exact ⟨rfl, RowKit.Below.refl _ _, rfl⟩
      · have hsrc := Src.of_row HO11.out
        rw [hv] at hsrc ⊢
        have hsrc2 : Src w11 (.slice (some ⟨gg, 0, none⟩) (las ++ lbs).length cp) ((List.range (las ++ lbs).length).map V) := by rw [hV]; exact hsrc
        refine (AK.apart_some hsrc2 ?_ (lt_of_heap hgh) hap hrn hs1 (fun j hj => ?_) ?_).mono ?_
        · cases hr : role gg with
          | none => rfl
          | some x =>
            have h9 := hrb gg (by rw [hr]; simp)
            have h10 := (HB34.out.trans HB45.out).size
            omega
        · obtain ⟨s, hs, e⟩ := hnn j hj
          have h11 := HSL.out.2 s (by rw [HSS.out]; rcases hs with hs | hs <;> exact hs)
          rw [e]; omega
        · have := HLA.out; have := HLB.out; rw [List.length_append]; omega
        · rintro e w' ⟨rfl, hbel, hkeep⟩
          refine ⟨rfl, hbel, hkeep g (by omega) ?_⟩
          cases hr : role g with
          | none => rfl
          | some x => have h9 := hrb g (by rw [hr]; simp); omega
    go_wp2_with fail
    refine HAP.out.mono ?_
    rintro e w12 ⟨rfl, hbel, hgk⟩
    have HW12 : Hid (BW w w12) := RowKit.Below.trans (HW10.out.trans HB1011.out) (below_lessF hbel HB1.out.size)
    have HL12 : Hid (Lent w12 w.heap.size g gc bs) := HL1.out.keep (hgk.trans (HB111.out.block g HL1.out.mark.2.2.2))
    have HKP2 := Lib.hid (kept_any HL12.out (H.out.below HW12.out) HBN.out)
    rw [HN.out] at HKP2
    clear hbel hgk HAP
    go_wp2_with fail
    refine HKP2.out.mono ?_
    rintro e w13 ⟨rfl, n13, hw13⟩
    have HW13 : Hid (BW w w13) := by unfold Hid; rw [hw13]; exact HW12.out.trans (drewN_below _ _)
    clear hw13
    go_wp2_with fail
    refine (awake_any _).mono ?_
    rintro e w14 ⟨rfl, hb14⟩
    have HW14 : Hid (BW w w14) := HW13.out.trans hb14
    clear hb14
    go_wp2
    go_ret
    exact ⟨rfl, HW14.out⟩
end Go.Proofs.Ytaaeaaahllicbaa
