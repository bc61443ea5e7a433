/- CodecPuts: the walk. -/
import Derived.Test.YthepoplekabcoaaKitF
import Derived.Test.YthepoplekabcoaaRefB
import Derived.Test.YthepoplekabcoaaCodR
namespace Go.Proofs.Ythepoplekabcoaa
open Go.RowKit Go.Maps

/-- three rows, made one behind the other -/
theorem ap_three {w1 w2 w3 w4 W : World} {vx vy vz : Value} {cx cy cz : List UInt8} (hx : w2.ownsRow w1.heap.size 5 1 vx cx.length (cx.map bV)) (hy : w3.ownsRow w2.heap.size 5 1 vy cy.length (cy.map bV)) (hz : w4.ownsRow w3.heap.size 5 1 vz cz.length (cz.map bV))
    (b12 : BW w1 w2) (b23 : BW w2 w3) (b34 : BW w3 w4) (b4 : BW w4 W) :
    ∃ (V : Nat → Value) (n : Nat → Nat) (role : Nat → Option Nat), Ap1 W w1.heap.size 3 V n role 0 0 ∧ (List.range 3).map V = [vx, vy, vz] ∧ (∀ x, role x ≠ some 3) ∧ (∀ b, w4.heap.size ≤ b → role b = none) ∧ (∀ j, j < 3 → n j = cx.length ∨ n j = cy.length ∨ n j = cz.length) := by
  have s12 := b12.size; have s23 := b23.size; have s34 := b34.size; have s4 := b4.size
  have rx : ∀ a m c, vx = .slice (some a) m c → w1.heap.size ≤ a.block ∧ a.block < w2.heap.size := fun a m c e => ⟨row_base' hx a m c e, row_lt hx e⟩
  have ry : ∀ a m c, vy = .slice (some a) m c → w2.heap.size ≤ a.block ∧ a.block < w3.heap.size := fun a m c e => ⟨row_base' hy a m c e, row_lt hy e⟩
  have rz : ∀ a m c, vz = .slice (some a) m c → w3.heap.size ≤ a.block ∧ a.block < w4.heap.size := fun a m c e => ⟨row_base' hz a m c e, row_lt hz e⟩
  refine ⟨fun j => if j = 0 then vx else if j = 1 then vy else vz, fun j => if j = 0 then cx.length else if j = 1 then cy.length else cz.length,
    fun b => if w1.heap.size ≤ b ∧ b < w2.heap.size then some 0 else if w2.heap.size ≤ b ∧ b < w3.heap.size then some 1 else if w3.heap.size ≤ b ∧ b < w4.heap.size then some 2 else none, ⟨?_, ?_, ⟨?_⟩, ?_⟩, by rfl, ?_, ?_, ?_⟩
  · intro j hj
    match j, hj with
    | 0, _ => exact ⟨cx, row_keep (row_base hx (Nat.le_refl _)) (fun a m c e => ((b23.trans b34).trans b4).block _ (rx a m c e).2), fun h => absurd h (Nat.not_lt_zero _), fun _ => by simp [full1]⟩
    | 1, _ => exact ⟨cy, row_keep (row_base hy s12) (fun a m c e => (b34.trans b4).block _ (ry a m c e).2), fun h => absurd h (Nat.not_lt_zero _), fun h => by omega⟩
    | 2, _ => exact ⟨cz, row_keep (row_base hz (Nat.le_trans s12 s23)) (fun a m c e => b4.block _ (rz a m c e).2), fun h => absurd h (Nat.not_lt_zero _), fun h => by omega⟩
  · intro j hj
    match j, hj with
    | 0, _ => intro a m c e; have := rx a m c e; show (if _ then _ else _ : Option Nat) = _; rw [if_pos this]
    | 1, _ => intro a m c e; have := ry a m c e; show (if _ then _ else _ : Option Nat) = _; rw [if_neg (by omega), if_pos this]
    | 2, _ => intro a m c e; have := rz a m c e; show (if _ then _ else _ : Option Nat) = _; rw [if_neg (by omega), if_neg (by omega), if_pos this]
  · intro b hb
    split at hb
    · omega
    · split at hb
      · omega
      · split at hb
        · omega
        · exact absurd rfl hb
  · intro b hb
    split at hb
    · omega
    · split at hb
      · omega
      · split at hb
        · omega
        · exact absurd rfl hb
  · intro x
    show (if _ then _ else _ : Option Nat) ≠ _
    split
    · simp
    · split
      · simp
      · split <;> simp
  · intro b hb
    show (if _ then _ else _ : Option Nat) = _
    rw [if_neg (by omega), if_neg (by omega), if_neg (by omega)]
  · intro j hj
    match j, hj with
    | 0, _ => exact .inl rfl
    | 1, _ => exact .inr (.inl rfl)
    | 2, _ => exact .inr (.inr rfl)

set_option maxHeartbeats 8000000 in
set_option maxRecDepth 100000 in
theorem puts_any {w : World} {v : Value} {bs : List UInt8} (h : Src w v (bs.map bV)) (u : Nat) (hu : u < 18446744073709551616) (n : Int) (hn1 : -9223372036854775808 ≤ n) (hn2 : n ≤ 9223372036854775807) (s : ByteArray) (hlen : bs.length + s.size ≤ 1048576) :
    Calls Try.prog 3 #[v, .int .u64 (u : Int), .int .i64 n, .string s] w (TruePost w) := by
  obtain ⟨ao, cap, rfl⟩ := h.len
  rw [List.length_map] at h ⊢
  have H := Lib.hid h
  have HLEN := Lib.hid hlen
  have HLE : Hid ((bs.length : Int) ≤ 140737488351232) := by unfold Hid; omega
  obtain ⟨m, hln⟩ : ∃ m, bs.length = m := ⟨_, rfl⟩
  have HLN := Lib.hid hln
  have H' : Hid (Src w (.slice ao m cap) (bs.map bV)) := by have := h; rw [hln] at this; exact this
  have HPU := Lib.hid (fun (W : World) (bv : Value) (hs : Src W bv (bs.map bV)) => putUint_any hs u hu (by omega))
  have HPI := Lib.hid (fun (W : World) (bv : Value) (hs : Src W bv (bs.map bV)) => putInt_any hs n hn1 hn2 (by omega))
  have HPT := Lib.hid (fun (W : World) (bv : Value) (hs : Src W bv (bs.map bV)) => putText_any hs s (by omega))
  have HRU := Lib.hid (fun W => refUint_any u hu W)
  have HRT := Lib.hid (fun W => refTurned_any n hn1 hn2 W)
  have HRU2 := Lib.hid (fun W => refUint_any (turned n) (turned_lt hn1 hn2) W)
  have HRX := Lib.hid (fun W => refText_any s (by omega) W)
  have HF1 := Lib.hid (form_len10 hu)
  have HF2 := Lib.hid (form_len10 (turned_lt hn1 hn2))
  have HF3 := Lib.hid (form_len10 (n := s.size) (by omega))
  have HSD : Hid (s.data.toList.length = s.size) := rfl
  rw [hln]
  clear h hln hlen hu hn1 hn2
  go_enter Try.func3, Try.ntmps3
  go_wp2_with fail
  refine (lent_any H'.out HLE.out).mono ?_
  rintro e w1 ⟨g, gc, rfl, hl, hb⟩
  have HL1 := Lib.hid hl; have HB1 := Lib.hid hb
  rw [HLN.out]
  have HS1 : Hid (Src w1 (.slice (some ⟨g, 0, none⟩) m gc) (bs.map bV)) := by have := hl.src; rw [HLN.out] at this; exact this
  clear hl hb
  go_wp2_with fail
  refine (HPU.out _ _ HS1.out).mono ?_
  rintro e w2 ⟨vx, rfl, hx, hb⟩
  have HX := Lib.hid hx; have HB12 := Lib.hid hb
  have HS2 := Lib.hid (HS1.out.below hb)
  clear hx hb
  go_wp2_with fail
  refine (HPI.out _ _ HS2.out).mono ?_
  rintro e w3 ⟨vy, rfl, hy, hb⟩
  have HY := Lib.hid hy; have HB23 := Lib.hid hb
  have HS3 := Lib.hid (HS2.out.below hb)
  clear hy hb
  go_wp2_with fail
  refine (HPT.out _ _ HS3.out).mono ?_
  rintro e w4 ⟨vz, rfl, hz, hb⟩
  have HZ := Lib.hid hz; have HB34 := Lib.hid hb
  have HW4 : Hid (BW w w4) := ((HB1.out.trans HB12.out).trans HB23.out).trans hb
  obtain ⟨xo, xn, xc, rfl⟩ := row_form HX.out
  obtain ⟨yo, yn, yc, rfl⟩ := row_form HY.out
  obtain ⟨zo, zn, zc, rfl⟩ := row_form hz
  clear hz hb HS1 HS2 HS3
  -- p
  go_wp2_with (at_builtin; refine append_bytes rfl (.tmp 27) (.tmp 28) rfl w4.heap.size (.slice none 0 0) 0 [] rfl ⟨rfl, .inl ⟨rfl, rfl⟩⟩ (.slice ao m cap) rfl bs (H'.out.below HW4.out) ?_ ?_ ?_)
  · have := HLEN.out; omega
  · exact Nat.le_refl _
  intro v5 w5 ho hg
  have HO5 : Hid (w5.ownsRow w4.heap.size 5 1 v5 bs.length (bs.map bV)) := by unfold Hid; simpa using ho
  have HB5 := Lib.hid (bw_grown (BW.refl w4) hg (fun k e => by cases e))
  clear ho hg
  go_wp2_with fail
  refine (HRU.out _).mono ?_
  rintro e w6 ⟨v6, rfl, ho, hb⟩
  have HO6 := Lib.hid (Src.of_row ho); have HB6 := Lib.hid (HB5.out.trans hb)
  have HO56 := Lib.hid (row_keep HO5.out (fun a k c e => hb.block _ (row_lt HO5.out e)))
  clear ho hb
  go_wp2_with (at_builtin; refine append_bytes rfl (.tmp 29) (.tmp 31) rfl w4.heap.size v5 bs.length bs rfl HO56.out v6 rfl (form u) HO6.out ?_ ?_ ?_)
  · have := HLEN.out; have := HF1.out; omega
  · exact HB6.out.size
  intro v7 w7 ho hg
  have HP7 : Hid (Src w7 v7 ((bs ++ form u).map bV)) := Src.of_row (base := w4.heap.size) (e := 5) (n := bs.length + (form u).length) (by simpa using ho)
  have HB7 := Lib.hid (bw_grown HB6.out hg (row_own HO56.out))
  have HW7 : Hid (BW w w7) := HW4.out.trans HB7.out
  clear ho hg HO5 HO6 HO56 HB5 HB6
  -- q
  go_wp2_with (at_builtin; refine append_bytes rfl (.tmp 33) (.tmp 34) rfl w7.heap.size (.slice none 0 0) 0 [] rfl ⟨rfl, .inl ⟨rfl, rfl⟩⟩ (.slice ao m cap) rfl bs (H'.out.below HW7.out) ?_ ?_ ?_)
  · have := HLEN.out; omega
  · exact Nat.le_refl _
  intro v8 w8 ho hg
  have HO8 : Hid (w8.ownsRow w7.heap.size 5 1 v8 bs.length (bs.map bV)) := by unfold Hid; simpa using ho
  have HB8 := Lib.hid (bw_grown (BW.refl w7) hg (fun k e => by cases e))
  clear ho hg
  go_wp2_with fail
  refine (HRT.out _).mono ?_
  rintro e w' ⟨rfl, rfl⟩
  go_wp2_with fail
  refine (HRU2.out _).mono ?_
  rintro e w9 ⟨v9, rfl, ho, hb⟩
  have HO9 := Lib.hid (Src.of_row ho); have HB9 := Lib.hid (HB8.out.trans hb)
  have HO89 := Lib.hid (row_keep HO8.out (fun a k c e => hb.block _ (row_lt HO8.out e)))
  clear ho hb
  go_wp2_with (at_builtin; refine append_bytes rfl (.tmp 35) (.tmp 38) rfl w7.heap.size v8 bs.length bs rfl HO89.out v9 rfl (form (turned n)) HO9.out ?_ ?_ ?_)
  · have := HLEN.out; have := HF2.out; omega
  · exact HB9.out.size
  intro v10 w10 ho hg
  have HQ10 : Hid (Src w10 v10 ((bs ++ form (turned n)).map bV)) := Src.of_row (base := w7.heap.size) (e := 5) (n := bs.length + (form (turned n)).length) (by simpa using ho)
  have HB10 := Lib.hid (bw_grown HB9.out hg (row_own HO89.out))
  have HW10 : Hid (BW w w10) := HW7.out.trans HB10.out
  have HP10 := Lib.hid (HP7.out.below HB10.out)
  clear ho hg HO8 HO9 HO89 HB8 HB9
  -- t
  go_wp2_with (at_builtin; refine append_bytes rfl (.tmp 40) (.tmp 41) rfl w10.heap.size (.slice none 0 0) 0 [] rfl ⟨rfl, .inl ⟨rfl, rfl⟩⟩ (.slice ao m cap) rfl bs (H'.out.below HW10.out) ?_ ?_ ?_)
  · have := HLEN.out; omega
  · exact Nat.le_refl _
  intro v11 w11 ho hg
  have HO11 : Hid (w11.ownsRow w10.heap.size 5 1 v11 bs.length (bs.map bV)) := by unfold Hid; simpa using ho
  have HB11 := Lib.hid (bw_grown (BW.refl w10) hg (fun k e => by cases e))
  clear ho hg
  go_wp2_with fail
  refine (HRX.out _).mono ?_
  rintro e w12 ⟨v12, rfl, ho, hb⟩
  have HO12 := Lib.hid (Src.of_row ho); have HB12' := Lib.hid (HB11.out.trans hb)
  have HO1112 := Lib.hid (row_keep HO11.out (fun a k c e => hb.block _ (row_lt HO11.out e)))
  clear ho hb
  go_wp2_with (at_builtin; refine append_bytes rfl (.tmp 42) (.tmp 44) rfl w10.heap.size v11 bs.length bs rfl HO1112.out v12 rfl (form s.size ++ s.data.toList) HO12.out ?_ ?_ ?_)
  · have := HLEN.out; have := HF3.out; have := HSD.out; rw [List.length_append]; omega
  · exact HB12'.out.size
  intro v13 w13 ho hg
  have HT13 : Hid (Src w13 v13 ((bs ++ form s.size ++ s.data.toList).map bV)) := Src.of_row (base := w10.heap.size) (e := 5) (n := bs.length + (form s.size ++ s.data.toList).length) (by simpa using ho)
  have HB13 := Lib.hid (bw_grown HB12'.out hg (row_own HO1112.out))
  have HW13 : Hid (BW w w13) := HW10.out.trans HB13.out
  have HP13 := Lib.hid (HP10.out.below HB13.out)
  have HQ13 := Lib.hid (HQ10.out.below HB13.out)
  have HB413 : Hid (BW w4 w13) := (HB7.out.trans HB10.out).trans HB13.out
  clear ho hg HO11 HO12 HO1112 HB11 HB12' HP10 HQ10 HP7
  -- the comparisons
  have HXS := Lib.hid ((Src.of_row HX.out).below ((HB23.out.trans HB34.out).trans HB413.out))
  have HYS := Lib.hid ((Src.of_row HY.out).below (HB34.out.trans HB413.out))
  have HZS := Lib.hid ((Src.of_row HZ.out).below HB413.out)
  go_wp2_with fail
  refine (bytes_b HXS.out HP13.out).mono ?_
  rintro e w14 ⟨rfl, hb14⟩
  have HB14 := Lib.hid hb14
  clear hb14
  go_wp2_with fail
  refine (bytes_b (HYS.out.below HB14.out) (HQ13.out.below HB14.out)).mono ?_
  rintro e w15 ⟨rfl, hb15⟩
  have HB15 := Lib.hid (HB14.out.trans hb15)
  clear hb15
  go_wp2_with fail
  refine (bytes_b (HZS.out.below HB15.out) (HT13.out.below HB15.out)).mono ?_
  rintro e w16 ⟨rfl, hb16⟩
  have HB16 := Lib.hid (HB15.out.trans hb16)
  clear hb16
  have HW16 : Hid (BW w w16) := HW13.out.trans HB16.out
  have HB116 : Hid (BW w1 w16) := (((HB12.out.trans HB23.out).trans HB34.out).trans HB413.out).trans HB16.out
  have HL16 := Lib.hid (HL1.out.keep (HB116.out.block g HL1.out.mark.2.2.2))
  have HKP := Lib.hid (kept_any HL16.out (H'.out.below HW16.out) HLE.out)
  rw [HLN.out] at HKP
  go_wp2_with fail
  refine HKP.out.mono ?_
  rintro e w17 ⟨rfl, n17, rfl⟩
  generalize hW17 : w16.drewN n17 = w17
  have HB1617 : Hid (BW w16 w17) := by unfold Hid; rw [← hW17]; exact drewN_below _ _
  clear hW17
  obtain ⟨V, nn, role, hap, hV, hrn, hrb, hnn⟩ := ap_three HX.out HY.out HZ.out HB12.out HB23.out HB34.out ((HB413.out.trans HB16.out).trans (HB1617.out.trans (bw_alloc w17 (.cells #[.slice xo xn xc, .slice yo yn yc, .slice zo zn zc] 22))))
  have HAP := Lib.hid hap
  have HSV : Hid (Src (w17.alloc (.cells #[.slice xo xn xc, .slice yo yn yc, .slice zo zn zc] 22)) (.slice (some ⟨w17.heap.size, 0, none⟩) 3 3) ((List.range 3).map V)) := by
    unfold Hid; rw [hV]; exact src_new w17 _ 22 3 rfl (by decide)
  have hs417 := ((HB413.out.trans HB16.out).trans HB1617.out).size
  have hs117 := (HB116.out.trans HB1617.out).size
  have HCALL := Lib.hid (apart_some (B := w1.heap.size) HSV.out (hrb _ hs417) (by simp) HAP.out hrn (by simp; omega) (fun j hj => by
    have h1 := HLEN.out; have h2 := HF1.out; have h3 := HF2.out; have h4 := HF3.out; have h5 := HSD.out
    rcases hnn j hj with e | e | e <;> · rw [e]; simp only [List.length_append]; omega) (by decide))
  clear hap hV hrn hrb hnn hs417 hs117
  go_wp2_with fail
  refine HCALL.out.mono ?_
  rintro e w18 ⟨rfl, hb18⟩
  have HG1 := Lib.hid HL1.out.mark.2.2.2
  have HB118 : Hid (RowKit.Below w1.heap.size w1 w18) := RowKit.Below.trans (HB116.out.trans (HB1617.out.trans (bw_alloc _ _))) hb18
  have HW18 : Hid (BW w w18) := HB1.out.trans HB118.out
  have HL18 := Lib.hid (HL1.out.keep (HB118.out.block g HG1.out))
  have HKP2 := Lib.hid (kept_any HL18.out (H'.out.below HW18.out) HLE.out)
  rw [HLN.out] at HKP2
  clear hb18
  go_wp2_with fail
  refine HKP2.out.mono ?_
  rintro e w19 ⟨rfl, n19, rfl⟩
  go_wp2_with fail
  refine (awake_any _).mono ?_
  rintro e w20 ⟨rfl, hb20⟩
  have HW20 : Hid (BW w w20) := (HW18.out.trans (drewN_below _ _)).trans hb20
  clear hb20
  go_wp2
  go_ret
  exact ⟨rfl, HW20.out⟩

end Go.Proofs.Ythepoplekabcoaa
