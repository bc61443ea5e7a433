/- FrameKnown: the walk. -/
import Derived.Test.YtaaeaaahllicbaaFrmW
import Derived.Laws.OwnMore
namespace Go.Proofs.Ytaaeaaahllicbaa
open Go.RowKit Go.Maps Crc

theorem made_zero (z : Value) (hz : z.cells = #[z]) (n : Nat) : (madeCells z.cells (n * 1)).toList = List.replicate n z := by
  rw [hz]
  apply List.ext_getElem?
  intro j
  rw [List.getElem?_replicate]
  by_cases hj : j < n
  · simp [madeCells, hj, Nat.mod_one]
  · simp [madeCells, hj]
theorem make_zero {t e : TypeId} {z : Value} {bytes : Nat} (ht : Try.prog.underlying t = some (.slice e)) (hinfo : (Try.prog.info? e).map (fun i => (i.zero, i.size, i.bytes)) = some (some z, 1, bytes)) (hz : z.cells = #[z]) (n : Nat) (hb : bytes * n ≤ 281474976710656) (hn : (n : Int) ≤ 9223372036854775807) (w : World) :
    ∃ w1, (Instr.makeSlice t (.int .i64 (n : Int)) (.int .i64 (n : Int))).run Try.prog w = .ok (.slice (some ⟨w.heap.size, 0, none⟩) n n) w1 ∧ w1.ownsRow w.heap.size e 1 (.slice (some ⟨w.heap.size, 0, none⟩) n n) n (List.replicate n z) ∧ BW w w1 := by
  obtain ⟨i0, hi, hz0, hz1, hz2⟩ := infoOf hinfo
  obtain ⟨w1, hr, ho, hg⟩ := run_make_full (P := Try.prog) (w := w) w.heap.size t e i0 z 1 ht hi hz0 hz1 .i64 .i64 n (by rw [hz2]; exact hb) (by unfold maxLen; omega) (Nat.le_refl _)
  rw [made_zero z hz] at ho
  exact ⟨w1, hr, ho, bw_grown (BW.refl w) hg (fun k e => by cases e)⟩
theorem rows_nils {w : World} {B n : Nat} {v : Value} (h : w.ownsRow B 23 1 v n (List.replicate n (.slice none 0 0))) : SrcRows w v (List.replicate n []) := by
  refine ⟨List.replicate n (.slice none 0 0), by simp, Src.of_row h, fun i x s hx hs => ?_⟩
  have h1 := List.mem_of_getElem? hx
  have h2 := List.mem_of_getElem? hs
  rw [List.eq_of_mem_replicate h1, List.eq_of_mem_replicate h2]
  exact Src.nil w
theorem nils_len (n : Nat) : ∀ s ∈ List.replicate n ([] : List UInt8), (s.length : Int) ≤ 140737488351232 := fun s hs => by
  rw [List.eq_of_mem_replicate hs]; decide
theorem flat_nils : ∀ n : Nat, (List.replicate n ([] : List UInt8)).flatten = []
  | 0 => rfl
  | n + 1 => by rw [List.replicate_succ, List.flatten_cons, flat_nils n]; rfl
theorem forms_nils : ∀ n : Nat, ((List.replicate n ([] : List UInt8)).flatMap fun s => form s.length).length = n
  | 0 => rfl
  | n + 1 => by
    rw [List.replicate_succ, List.flatMap_cons, List.length_append, forms_nils n]
    rw [show (form ([] : List UInt8).length).length = 1 by rw [form_last (by decide)]; rfl]; omega
theorem seal_1025 : sealP 1 (List.replicate 1025 []) = none := sealP_many (by rw [List.length_replicate]; decide)
theorem seal_nils (n : Nat) (hn : n ≤ 1024) : ∃ b, sealP 1 (List.replicate n []) = some b := by
  refine ⟨_, sealP_yes (by rw [List.length_replicate]; exact hn) ?_⟩
  have h := form_len10 (n := n) (by omega)
  have h2 := sealF_len 1 (List.replicate n [])
  rw [flat_nils] at h2
  rw [h2]
  unfold headF
  rw [List.length_append, List.length_append, forms_nils, List.length_replicate]
  simp only [List.length_cons, List.length_nil]; omega
theorem seal_1024 : ∃ b, sealP 1 (List.replicate 1024 []) = some b := seal_nils 1024 (by decide)
theorem open_far (n : Nat) (h1 : 16777216 < n) (h2 : (n : Int) ≤ 140737488351232) (w : World) : ∃ w1, (Instr.makeSlice 23 (.int .i64 (n : Int)) (.int .i64 (n : Int))).run Try.prog w = .ok (.slice (some ⟨w.heap.size, 0, none⟩) n n) w1 ∧ Calls Try.prog 17 #[.int .u8 1, .slice (some ⟨w.heap.size, 0, none⟩) n n] w1 fun e w' => e = .returned (.tuple #[.slice none 0 0, .int .i64 3]) ∧ BW w w' := by
  obtain ⟨w1, hr, ho, hb⟩ := make_zero (t := 23) (z := .int .u8 0) (bytes := 1) Try.underlying23 info_u8 rfl n (by omega) (by omega) w
  refine ⟨w1, hr, ?_⟩
  have hs : Src w1 (.slice (some ⟨w.heap.size, 0, none⟩) n n) ((List.replicate n (0 : UInt8)).map bV) := by
    rw [List.map_replicate]; exact Src.of_row ho
  have hc := open_any (kind := 1) hs (by rw [List.length_replicate]; exact h2)
  refine hc.mono ?_
  rintro e w2 ⟨v, er, rfl, hb2, ⟨_, rfl, rfl⟩ | ⟨h3, _⟩ | ⟨h3, _⟩⟩
  · exact ⟨rfl, hb.trans hb2⟩
  · rw [List.length_replicate] at h3; omega
  · rw [List.length_replicate] at h3; omega
/-- bytes with their check behind them, in new memory -/
theorem sealed_lit {w : World} {n : Nat} {cs : Array Value} {bs : List UInt8} (hn : cs.size = n) (hm : n ≤ 1000000) (hc : cs.toList = bs.map bV) : Calls Try.prog 22 #[.slice (some ⟨w.heap.size, 0, none⟩) n n] (w.alloc (.cells cs 5)) (SealedPost w bs) := by
  have h := own_new w cs 5 n hn hm
  rw [hc] at h
  have hl : bs.length = n := by have := h.1; simpa using this
  refine sealed_any (bw_alloc w _) (by rw [hl]; exact h) (by omega)
def seven : List UInt8 := [76, 84, 1, 7, 0]
theorem seal_7 : sealP 7 [] = some (seven ++ le4 (crcP seven)) := by
  have h : sealF 7 [] = seven ++ le4 (crcP seven) := by
    have h1 : bodyF 7 [] = seven := by
      show [76, 84, 1, 7] ++ (form 0 ++ []) ++ [] = _
      rw [form_last (by decide)]; rfl
    unfold sealF; rw [h1]
  unfold sealP
  rw [h, if_neg]
  rw [List.length_append, le4_len]; decide
theorem bad_8 : openP 8 (seven ++ le4 (crcP seven)) = none := by decide +kernel
theorem bad_cut : openP 7 ((seven ++ le4 (crcP seven)).take 8) = none := by decide +kernel
def bodyA : List UInt8 := [76, 84, 1, 1, 1, 2, 5]
def bodyB : List UInt8 := [76, 84, 1, 1, 0, 5]
def bodyC : List UInt8 := [76, 84, 2, 1, 0]
theorem bad_a : openP 1 (bodyA ++ le4 (crcP bodyA)) = none := by decide +kernel
theorem bad_b : openP 1 (bodyB ++ le4 (crcP bodyB)) = none := by decide +kernel
theorem bad_c : openP 1 (bodyC ++ le4 (crcP bodyC)) = none := by decide +kernel
theorem crc0 : crcP [] = 0 := by decide +kernel

set_option maxHeartbeats 8000000 in
set_option maxRecDepth 100000 in
theorem frameKnown_any (w : World) : Calls Try.prog 5 #[] w (TruePost w) := by
  have b7 : bV 7 = .int .u8 7 := rfl
  have b1 : bV 1 = .int .u8 1 := rfl
  have b8 : bV 8 = .int .u8 8 := rfl
  have HC1 := Lib.hid (seal_any (w := w) (kind := 7) (rows_nil w) (fun s h => (by cases h)) (by decide))
  rw [b7] at HC1
  have B1 := Lib.hid b1; have B7 := Lib.hid b7; have B8 := Lib.hid b8
  clear b1 b7 b8
  go_enter Try.func5, Try.ntmps5
  go_wp2_with fail
  refine HC1.out.mono ?_
  rintro e w1 ⟨v1, er, rfl, hb1, ⟨b, hs, rfl, ho1⟩ | ⟨hs, _⟩⟩
  case inr => rw [seal_7] at hs; cases hs
  rw [seal_7] at hs
  injection hs with hs
  subst hs
  have HW1 := Lib.hid hb1
  have HO1 := Lib.hid (Src.of_row ho1)
  have HC2 := Lib.hid (open_any (kind := 7) (Src.of_row ho1) (by decide))
  rw [B7.out] at HC2
  have HL1 : Hid ((seven ++ le4 (crcP seven)).length = 9) := rfl
  rw [HL1.out] at ho1
  obtain ⟨o1, n1, c1, rfl⟩ := row_form ho1
  obtain rfl : n1 = 9 := row_len ho1 rfl
  obtain ⟨g1, rfl⟩ : ∃ g1, o1 = some ⟨g1, 0, none⟩ := by
    rcases ho1.2 with ⟨_, h0⟩ | ⟨g, cp, cur, hv', _⟩
    · cases h0
    · injection hv' with e1 _ _; exact ⟨g, e1⟩
  have hcap1 : (9 : Int) ≤ (c1 : Int) := by
    rcases ho1.2 with ⟨_, h0⟩ | ⟨g, cp, cur, hv', _, _, h9, _⟩
    · cases h0
    · injection hv' with _ _ e3; omega
  have HCUT : Hid (Src w1 (.slice (some ⟨g1, 0, none⟩) 8 c1) (((seven ++ le4 (crcP seven)).take 8).map bV)) := by
    unfold Hid
    have h3 := HO1.out.taken (m := 8) (by rw [List.length_map]; decide)
    rw [List.map_take]; exact h3
  clear hb1 ho1 HC1
  go_wp2_with fail
  refine HC2.out.mono ?_
  rintro e w2 ⟨v2, er, rfl, hb2, ⟨h2, _⟩ | ⟨_, h2, _⟩ | ⟨_, ss, vs, h2, rfl, hbag⟩⟩
  case inl => exact absurd h2 (by decide)
  case inr.inl => rw [open_seal seal_7] at h2; cases h2
  rw [open_seal seal_7] at h2
  injection h2 with h2
  subst h2
  have HW2 : Hid (BW w w2) := HW1.out.trans hb2
  have HO2 := Lib.hid (HO1.out.below hb2)
  have HCUT2 := Lib.hid (HCUT.out.below hb2)
  obtain ⟨vo2, vn2, vc2, rfl⟩ := row_form hbag.out
  obtain rfl : vn2 = 0 := by have h3 := row_len hbag.out rfl; have h4 := hbag.len; simp at h4; rw [h3, h4]; rfl
  clear hb2 hbag HC2
  go_wp2_with fail
  refine (kind_any (bs := [76, 84, 1, 9]) (src_new1 w2 #[.int .u8 76, .int .u8 84, .int .u8 1, .int .u8 9] 4 [76, 84, 1, 9] rfl (by decide) rfl) (by decide)).mono ?_
  rintro e w3 ⟨hb3, ⟨x, hx, rfl⟩ | ⟨hx, _⟩⟩
  case inr => cases hx
  cases hx
  rw [show bV 9 = .int .u8 9 from rfl]
  have HB23 : Hid (BW w2 w3) := (bw_alloc w2 _).trans hb3
  clear hb3
  go_wp2_with fail
  refine (kind_any (bs := [76, 84, 1]) (src_new1 w3 #[.int .u8 76, .int .u8 84, .int .u8 1] 3 [76, 84, 1] rfl (by decide) rfl) (by decide)).mono ?_
  rintro e w4 ⟨hb4, ⟨x, hx, _⟩ | ⟨hx, rfl⟩⟩
  case inl => cases hx
  have HB24 : Hid (BW w2 w4) := HB23.out.trans ((bw_alloc w3 _).trans hb4)
  clear hb4 hx
  obtain ⟨w5, hr5, ho5, hb5⟩ := make_zero (t := 22) (z := .slice none 0 0) (bytes := 24) Try.underlying22 info_bs rfl 1025 (by decide) (by decide) w4
  have hr5' : (Instr.makeSlice 22 (.int .i64 1025) (.int .i64 1025)).run Try.prog w4 = .ok (.slice (some ⟨w4.heap.size, 0, none⟩) 1025 1025) w5 := hr5
  have HC5 := Lib.hid (seal_any (kind := 1) (rows_nils ho5) (nils_len _) (by rw [List.length_replicate]; decide))
  rw [B1.out] at HC5
  have HB25 : Hid (BW w2 w5) := HB24.out.trans hb5
  clear ho5 hb5 hr5
  go_wp2_with fail
  refine HC5.out.mono ?_
  rintro e w6 ⟨v6, er, rfl, hb6, ⟨b6, hs, _⟩ | ⟨_, rfl, rfl⟩⟩
  case inl => rw [seal_1025] at hs; cases hs
  have HB26 : Hid (BW w2 w6) := HB25.out.trans hb6
  clear hb6 hr5' HC5
  obtain ⟨w7, hr7, ho7, hb7⟩ := make_zero (t := 22) (z := .slice none 0 0) (bytes := 24) Try.underlying22 info_bs rfl 1024 (by decide) (by decide) w6
  have hr7' : (Instr.makeSlice 22 (.int .i64 1024) (.int .i64 1024)).run Try.prog w6 = .ok (.slice (some ⟨w6.heap.size, 0, none⟩) 1024 1024) w7 := hr7
  have HC7 := Lib.hid (seal_any (kind := 1) (rows_nils ho7) (nils_len _) (by rw [List.length_replicate]; decide))
  rw [B1.out] at HC7
  have HB27 : Hid (BW w2 w7) := HB26.out.trans hb7
  clear ho7 hb7 hr7
  go_wp2_with fail
  refine HC7.out.mono ?_
  rintro e w8 ⟨v8, er, rfl, hb8, ⟨b8, hs, rfl, _⟩ | ⟨hs, _⟩⟩
  case inr => obtain ⟨b, hb⟩ := seal_1024; rw [hb] at hs; cases hs
  have HB28 : Hid (BW w2 w8) := HB27.out.trans hb8
  clear hb8 hr7' HC7 hs
  obtain ⟨w9, hr9, hc9⟩ := open_far 16777217 (by decide) (by decide) w8
  have hr9' : (Instr.makeSlice 23 (.int .i64 16777217) (.int .i64 16777217)).run Try.prog w8 = .ok (.slice (some ⟨w8.heap.size, 0, none⟩) 16777217 16777217) w9 := hr9
  have HC9 := Lib.hid hc9
  clear hr9 hc9
  go_wp2_with fail
  refine HC9.out.mono ?_
  rintro e w10 ⟨rfl, hb10⟩
  have HB210 : Hid (BW w2 w10) := HB28.out.trans hb10
  clear hb10 hr9' HC9
  go_wp2_with fail
  refine (awake_any _).mono ?_
  rintro e w11 ⟨rfl, hb11⟩
  have HB211 : Hid (BW w2 w11) := HB210.out.trans hb11
  clear hb11
  go_wp2_with fail
  refine (sum_any (rows_nil w11) (fun s h => (by cases h)) (by decide)).mono ?_
  rintro e w12 ⟨rfl, hb12⟩
  rw [show ([] : List (List UInt8)).flatten = [] from rfl, crc0]
  have HB212 : Hid (BW w2 w12) := HB211.out.trans hb12
  clear hb12
  have HS13 : Hid (Calls Try.prog 22 #[.slice (some ⟨w12.heap.size, 0, none⟩) 5 5] (w12.alloc (.cells #[.int .u8 76, .int .u8 84, .int .u8 1, .int .u8 7, .int .u8 0] 5)) (SealedPost w12 seven)) := sealed_lit rfl (by decide) rfl
  go_wp2_with fail
  refine HS13.out.mono ?_
  rintro e w13 ⟨v13, rfl, ho13, hb13⟩
  have HB213 : Hid (BW w2 w13) := HB212.out.trans hb13
  have HV13 := Lib.hid (Src.of_row ho13)
  clear ho13 hb13 HS13
  go_wp2_with fail
  refine (bytes_b (HO2.out.below HB213.out) HV13.out).mono ?_
  rintro e w14 ⟨rfl, hb14⟩
  have HB214 : Hid (BW w2 w14) := HB213.out.trans hb14
  have HO14 := Lib.hid (HO2.out.below HB214.out)
  have HX15 := Lib.hid (bad_yes (kind := 8) HO14.out (by decide) bad_8)
  rw [B8.out] at HX15
  clear hb14
  go_wp2_with fail
  refine HX15.out.mono ?_
  rintro e w15 ⟨rfl, hb15⟩
  have HB215 : Hid (BW w2 w15) := HB214.out.trans hb15
  have HX16 := Lib.hid (bad_yes (kind := 7) (HCUT2.out.below HB215.out) (by decide) bad_cut)
  rw [B7.out] at HX16
  clear hb15 HX15
  go_wp2_with fail
  refine HX16.out.mono ?_
  rintro e w16 ⟨rfl, hb16⟩
  have HB216 : Hid (BW w2 w16) := HB215.out.trans hb16
  have HX17 := Lib.hid (bad_yes (kind := 7) (bs := []) (Src.nil w16) (by decide) (open_short (by decide)))
  rw [B7.out] at HX17
  clear hb16 HX16
  go_wp2_with fail
  refine HX17.out.mono ?_
  rintro e w17 ⟨rfl, hb17⟩
  have HB217 : Hid (BW w2 w17) := HB216.out.trans hb17
  clear hb17 HX17
  have HS18 : Hid (Calls Try.prog 22 #[.slice (some ⟨w17.heap.size, 0, none⟩) 7 7] (w17.alloc (.cells #[.int .u8 76, .int .u8 84, .int .u8 1, .int .u8 1, .int .u8 1, .int .u8 2, .int .u8 5] 5)) (SealedPost w17 bodyA)) := sealed_lit rfl (by decide) rfl
  go_wp2_with fail
  refine HS18.out.mono ?_
  rintro e w18 ⟨v18, rfl, ho18, hb18⟩
  have HB218 : Hid (BW w2 w18) := HB217.out.trans hb18
  have HX19 := Lib.hid (bad_yes (kind := 1) (Src.of_row ho18) (by decide) bad_a)
  rw [B1.out] at HX19
  clear ho18 hb18 HS18
  go_wp2_with fail
  refine HX19.out.mono ?_
  rintro e w19 ⟨rfl, hb19⟩
  have HB219 : Hid (BW w2 w19) := HB218.out.trans hb19
  clear hb19 HX19
  have HS20 : Hid (Calls Try.prog 22 #[.slice (some ⟨w19.heap.size, 0, none⟩) 6 6] (w19.alloc (.cells #[.int .u8 76, .int .u8 84, .int .u8 1, .int .u8 1, .int .u8 0, .int .u8 5] 5)) (SealedPost w19 bodyB)) := sealed_lit rfl (by decide) rfl
  go_wp2_with fail
  refine HS20.out.mono ?_
  rintro e w20 ⟨v20, rfl, ho20, hb20⟩
  have HB220 : Hid (BW w2 w20) := HB219.out.trans hb20
  have HX21 := Lib.hid (bad_yes (kind := 1) (Src.of_row ho20) (by decide) bad_b)
  rw [B1.out] at HX21
  clear ho20 hb20 HS20
  go_wp2_with fail
  refine HX21.out.mono ?_
  rintro e w21 ⟨rfl, hb21⟩
  have HB221 : Hid (BW w2 w21) := HB220.out.trans hb21
  clear hb21 HX21
  have HS22 : Hid (Calls Try.prog 22 #[.slice (some ⟨w21.heap.size, 0, none⟩) 5 5] (w21.alloc (.cells #[.int .u8 76, .int .u8 84, .int .u8 2, .int .u8 1, .int .u8 0] 5)) (SealedPost w21 bodyC)) := sealed_lit rfl (by decide) rfl
  go_wp2_with fail
  refine HS22.out.mono ?_
  rintro e w22 ⟨v22, rfl, ho22, hb22⟩
  have HB222 : Hid (BW w2 w22) := HB221.out.trans hb22
  have HX23 := Lib.hid (bad_yes (kind := 1) (Src.of_row ho22) (by decide) bad_c)
  rw [B1.out] at HX23
  clear ho22 hb22 HS22
  go_wp2_with fail
  refine HX23.out.mono ?_
  rintro e w23 ⟨rfl, hb23⟩
  have HW23 : Hid (BW w w23) := HW2.out.trans (HB222.out.trans hb23)
  clear hb23 HX23
  go_wp2
  go_ret
  exact ⟨rfl, HW23.out⟩
end Go.Proofs.Ytaaeaaahllicbaa
