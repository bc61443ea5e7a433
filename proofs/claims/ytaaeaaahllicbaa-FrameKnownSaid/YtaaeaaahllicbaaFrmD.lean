/- The document's Seal. -/
import Derived.Test.YtaaeaaahllicbaaFrmB
namespace Go.Proofs.Ytaaeaaahllicbaa
open Go.RowKit Go.Maps Crc

def SealPost (w : World) (kind : UInt8) (ss : List (List UInt8)) (e : Ending) (w' : World) : Prop := ∃ (v : Value) (er : Int), e = .returned (.tuple #[v, .int .i64 er]) ∧ BW w w' ∧ ((∃ b, sealP kind ss = some b ∧ er = 0 ∧ w'.ownsRow w.heap.size 5 1 v b.length (b.map bV)) ∨ (sealP kind ss = none ∧ er = 3 ∧ v = .slice none 0 0))
theorem sealP_many {kind : UInt8} {ss : List (List UInt8)} (h : 1024 < ss.length) : sealP kind ss = none := by unfold sealP; rw [if_pos (.inl h)]
theorem sealP_long {kind : UInt8} {ss : List (List UInt8)} (h : 16777216 < (sealF kind ss).length) : sealP kind ss = none := by unfold sealP; rw [if_pos (.inr h)]
theorem sealP_yes {kind : UInt8} {ss : List (List UInt8)} (h : ss.length ≤ 1024) (h2 : (sealF kind ss).length ≤ 16777216) : sealP kind ss = some (sealF kind ss) := by unfold sealP; rw [if_neg (by omega)]
/-- the forms of the lengths, up to a section -/
def headU (kind : UInt8) (ss : List (List UInt8)) (i : Nat) : List UInt8 := [76, 84, 1, kind] ++ form ss.length ++ ((ss.take i).flatMap fun s => form s.length)
theorem headU_next {kind : UInt8} {ss : List (List UInt8)} {i : Nat} (hi : i < ss.length) : headU kind ss (i + 1) = headU kind ss i ++ form (ss[i]).length := by
  unfold headU
  rw [List.take_succ_eq_append_getElem hi, List.flatMap_append, List.append_assoc]
  simp
theorem headU_all (kind : UInt8) (ss : List (List UInt8)) {i : Nat} (hi : ss.length ≤ i) : headU kind ss i = headF kind ss := by
  unfold headU headF; rw [List.take_of_length_le hi, List.append_assoc]
def sizeU (ss : List (List UInt8)) (i : Nat) : Nat := ((ss.take i).map List.length).sum
theorem sizeU_next {ss : List (List UInt8)} {i : Nat} (hi : i < ss.length) : sizeU ss (i + 1) = sizeU ss i + (ss[i]).length := by
  unfold sizeU
  rw [List.take_succ_eq_append_getElem hi, List.map_append, List.sum_append]; simp
theorem sizeU_all (ss : List (List UInt8)) {i : Nat} (hi : ss.length ≤ i) : sizeU ss i = ss.flatten.length := by
  unfold sizeU; rw [List.take_of_length_le hi, List.length_flatten]
theorem bodyU_next {kind : UInt8} {ss : List (List UInt8)} {i : Nat} (hi : i < ss.length) : (headF kind ss ++ (ss.take i).flatten) ++ ss[i] = headF kind ss ++ (ss.take (i + 1)).flatten := by
  rw [List.take_succ_eq_append_getElem hi, List.flatten_append, List.append_assoc]; simp
theorem flat_part (ss : List (List UInt8)) (i : Nat) : (ss.take i).flatten.length ≤ ss.flatten.length := by
  have h := congrArg List.length (congrArg List.flatten (List.take_append_drop i ss))
  rw [List.flatten_append, List.length_append] at h; omega

theorem own_new (w : World) (cs : Array Value) (e : TypeId) (n : Nat) (hn : cs.size = n) (hm : n ≤ 1000000) : (w.alloc (.cells cs e)).ownsRow w.heap.size e 1 (.slice (some ⟨w.heap.size, 0, none⟩) n n) n cs.toList :=
  ⟨by simp [hn], .inr ⟨w.heap.size, n, cs, rfl, Nat.le_refl _, heap_new _ _, Nat.le_refl _, by unfold maxLen; omega, by omega, by rw [List.take_of_length_le]; simp [hn]⟩⟩
theorem sizeU_le {ss : List (List UInt8)} (h : ∀ s ∈ ss, (s.length : Int) ≤ 140737488351232) : ∀ i : Nat, i ≤ ss.length → sizeU ss i ≤ 140737488351232 * i
  | 0, _ => by simp [sizeU]
  | i + 1, hi => by
    rw [sizeU_next (by omega)]
    have h1 := sizeU_le h i (by omega)
    have h2 := h ss[i] (List.getElem_mem _)
    omega
theorem headU_le {kind : UInt8} {ss : List (List UInt8)} (hn : ss.length ≤ 1024) (h : ∀ s ∈ ss, (s.length : Int) ≤ 140737488351232) : ∀ i : Nat, i ≤ ss.length → (headU kind ss i).length ≤ 14 + 10 * i
  | 0, _ => by
    have := form_len10 (n := ss.length) (by omega)
    simp [headU]; omega
  | i + 1, hi => by
    rw [headU_next (by omega), List.length_append]
    have h1 := headU_le (kind := kind) hn h i (by omega)
    have h2 := h ss[i] (List.getElem_mem _)
    have h3 := form_len10 (n := (ss[i]).length) (by omega)
    omega

set_option maxHeartbeats 8000000 in
set_option maxRecDepth 100000 in
theorem refSeal_any {w : World} {kind : UInt8} {v : Value} {ss : List (List UInt8)} (h : SrcRows w v ss) (hl : ∀ s ∈ ss, (s.length : Int) ≤ 140737488351232) (hn : (ss.length : Int) ≤ 9223372036854775807) : Calls Try.prog 11 #[bV kind, v] w (SealPost w kind ss) := by
  obtain ⟨ao, cap, rfl⟩ := h.len
  obtain ⟨n, hnn⟩ : ∃ n, n = ss.length := ⟨_, rfl⟩
  rw [← hnn] at h hn ⊢
  obtain ⟨kv, hkv⟩ : ∃ kv, kv = kind.toNat := ⟨_, rfl⟩
  unfold bV
  rw [← hkv]
  have hkv256 : kv < 256 := by rw [hkv]; exact UInt8.toNat_lt _
  have H := Lib.hid h
  have HL := Lib.hid hl
  have HN := Lib.hid hnn
  have HKV := Lib.hid hkv
  by_cases h1024 : 1024 < n
  · have hd : decide (1024 < n) = true := decide_eq_true h1024
    have hd' : decide ((1024 : Int) < (n : Int)) = true := decide_eq_true (by omega)
    have HNO := Lib.hid (sealP_many (kind := kind) (ss := ss) (by rw [← hnn]; exact h1024))
    clear h hl hnn hkv h1024
    go_enter Try.func11, Try.ntmps11
    go_wp2
    go_ret2
    exact ⟨_, _, rfl, BW.refl _, .inr ⟨HNO.out, rfl, rfl⟩⟩
  have hd : decide (1024 < n) = false := decide_eq_false h1024
  have hd' : decide ((1024 : Int) < (n : Int)) = false := decide_eq_false (by omega)
  have hn2 : (n : Int) ≤ 1024 := by omega
  have hn0 : 0 ≤ (n : Int) := by omega
  have hwn : IntKind.u64.wrap (n : Int) = (n : Int) := by rw [IntKind.wrap_u64]; omega
  have HN10 := Lib.hid (form_len10 (n := n) (by omega))
  have HU := Lib.hid (fun w => refUint_any n (by omega) w)
  have HK4 : Hid ([Value.int .u8 76, .int .u8 84, .int .u8 1, .int .u8 (kv : Int)] = ([76, 84, 1, kind] : List UInt8).map bV) := by
    unfold Hid; simp only [List.map_cons, List.map_nil]; unfold bV; rw [hkv]; rfl
  clear h hl hnn hkv h1024 hn
  go_enter Try.func11, Try.ntmps11
  go_wp2_with fail
  refine (HU.out _).mono ?_
  rintro e w1 ⟨v1, rfl, ho1, hb1⟩
  have HO1 := Lib.hid (Src.of_row ho1)
  have HB1 : Hid (BW w w1) := (bw_alloc w _).trans hb1
  have HR1 : Hid (w1.ownsRow w.heap.size 5 1 (.slice (some ⟨w.heap.size, 0, none⟩) 4 4) 4 (([76, 84, 1, kind] : List UInt8).map bV)) := by
    unfold Hid
    have h1 : (w.alloc (.cells #[Value.int .u8 76, Value.int .u8 84, Value.int .u8 1, Value.int .u8 (kv : Int)] 5)).ownsRow w.heap.size 5 1 (.slice (some ⟨w.heap.size, 0, none⟩) 4 4) 4 (([76, 84, 1, kind] : List UInt8).map bV) := by
      rw [← HK4.out]; exact own_new w _ 5 4 rfl (by decide)
    exact row_keep h1 fun a n c e => hb1.block _ (row_lt h1 e)
  clear ho1 hb1
  obtain ⟨o1, n1, c1, rfl⟩ : ∃ o1 n1 c1, v1 = .slice o1 n1 c1 := by obtain ⟨o, c, e⟩ := HO1.out.len; exact ⟨_, _, _, e⟩
  go_wp2_with (at_builtin; refine append_bytes rfl (.tmp 21) (.tmp 22) rfl w.heap.size _ 4 [76, 84, 1, kind] rfl HR1.out _ rfl (form n) HO1.out ?_ ?_ ?_)
  · have := HN10.out; omega
  · exact HB1.out.size
  intro v2 w2 ho2 hg2
  have HO2 : Hid (w2.ownsRow w.heap.size 5 1 v2 (headU kind ss 0).length ((headU kind ss 0).map bV)) := by
    unfold Hid
    have e1 : headU kind ss 0 = [76, 84, 1, kind] ++ form n := by unfold headU; rw [HN.out]; simp
    rw [e1, List.length_append]; exact ho2
  have HB2 := Lib.hid (bw_grown HB1.out hg2 (row_own HR1.out))
  clear ho2 hg2
  go_wp2
  go_loopg [6, 8, 9] n (fun g s6 s8 s9 wx => ∃ (i z : Nat), i + g = n ∧ s9 = .int .i64 i ∧ s8 = .int .i64 (z : Int) ∧ z = sizeU ss i ∧ wx.ownsRow w.heap.size 5 1 s6 (headU kind ss i).length ((headU kind ss i).map bV) ∧ BW w wx)
  case atStart => exact ⟨0, 0, by omega, rfl, rfl, rfl, HO2.out, HB2.out⟩
  case round =>
    obtain ⟨i, z, hig, rfl, rfl, hz, hrow, hbx⟩ := hrel
    have HROW := Lib.hid hrow
    have HBX := Lib.hid hbx
    have HIG := Lib.hid hig
    have hzb : (z : Int) ≤ 144115188075855872 := by
      have h1 := sizeU_le HL.out i (by have := HN.out; omega)
      have h2 : i ≤ 1024 := by omega
      omega
    have hz0 : 0 ≤ (z : Int) := by omega
    have HZ := Lib.hid hz
    clear hrow hbx hz
    cases gk with
    | zero =>
      have hge : (n : Int) ≤ (i : Int) := by omega
      have hd0 : decide (i < n) = false := decide_eq_false (by omega)
      obtain ⟨hl, hhl⟩ : ∃ hl, hl = (headF kind ss).length := ⟨_, rfl⟩
      have HHL := Lib.hid hhl
      have HROW2 : Hid (wr.ownsRow w.heap.size 5 1 u6 hl ((headF kind ss).map bV)) := by
        unfold Hid
        have h1 := HROW.out
        rw [headU_all kind ss (by have := HN.out; omega), ← hhl] at h1; exact h1
      have HZF : Hid (z = ss.flatten.length) := by unfold Hid; rw [HZ.out]; exact sizeU_all ss (by have := HN.out; omega)
      have hlb : (hl : Int) ≤ 10254 := by
        have h1 := headU_le (kind := kind) (by have := HN.out; omega) HL.out n (by have := HN.out; omega)
        rw [headU_all kind ss (by have := HN.out; omega), ← hhl] at h1; omega
      have hl0 : 0 ≤ (hl : Int) := by omega
      obtain ⟨o6, n6, c6, rfl⟩ := row_form HROW2.out
      obtain rfl : n6 = hl := row_len HROW2.out rfl
      clear hig HIG HROW hhl HZ
      by_cases hlong : 16777216 < n6 + z + 4
      · have hd2 : decide ((16777216 : Int) < (n6 : Int) + (z : Int) + 4) = true := decide_eq_true (by omega)
        have HNO : Hid (sealP kind ss = none) := sealP_long (by rw [sealF_len, ← HHL.out, ← HZF.out]; exact hlong)
        clear hlong
        go_wp2
        go_ret2
        exact ⟨_, _, rfl, HBX.out, .inr ⟨HNO.out, rfl, rfl⟩⟩
      · have hd2 : decide ((16777216 : Int) < (n6 : Int) + (z : Int) + 4) = false := decide_eq_false (by omega)
        have HYES : Hid (sealP kind ss = some (sealF kind ss)) := sealP_yes (by have := HN.out; omega) (by rw [sealF_len, ← HHL.out, ← HZF.out]; omega)
        have HTOT : Hid (n6 + z + 4 ≤ 16777216) := by unfold Hid; omega
        clear hlong
        go_wp2
        go_loopg [6, 11] n (fun g s6 s11 wx => ∃ i : Nat, i + g = n ∧ s11 = .int .i64 i ∧ wx.ownsRow w.heap.size 5 1 s6 (headF kind ss ++ (ss.take i).flatten).length ((headF kind ss ++ (ss.take i).flatten).map bV) ∧ BW w wx)
        case atStart => exact ⟨0, by omega, rfl, by rw [List.take_zero, List.flatten_nil, List.append_nil, ← HHL.out]; exact HROW2.out, HBX.out⟩
        case round =>
          obtain ⟨i, hig, rfl, hrow, hbx⟩ := hrel
          have HROWY := Lib.hid hrow
          have HBY := Lib.hid hbx
          have HIG := Lib.hid hig
          clear hrow hbx
          cases gk with
          | zero =>
            have hge2 : (n : Int) ≤ (i : Int) := by omega
            have hd3 : decide (i < n) = false := decide_eq_false (by omega)
            have HBODY : Hid (wr.ownsRow w.heap.size 5 1 u6 (bodyF kind ss).length ((bodyF kind ss).map bV)) := by
              unfold Hid
              have h1 := HROWY.out
              rw [List.take_of_length_le (by have := HN.out; omega)] at h1; exact h1
            have HSE := Lib.hid (refSealed_any HBY.out HBODY.out (by
              have h1 := HTOT.out; have h2 := HHL.out; have h3 := HZF.out
              unfold bodyF; rw [List.length_append]; omega))
            obtain ⟨o7, n7, c7, rfl⟩ := row_form HBODY.out
            clear hig HIG HROWY
            go_wp2_with fail
            refine HSE.out.mono ?_
            rintro e w8 ⟨v8, rfl, ho8, hb8⟩
            have HO8 := Lib.hid ho8
            have HB8 := Lib.hid hb8
            clear ho8 hb8
            obtain ⟨o8, n8, c8, rfl⟩ := row_form HO8.out
            go_wp2
            go_ret2
            exact ⟨_, _, rfl, HB8.out, .inl ⟨_, HYES.out, rfl, HO8.out⟩⟩
          | succ g =>
            have hi : (i : Int) < (n : Int) := by omega
            have hi0 : (0 : Int) ≤ (i : Int) := by omega
            have hil : i < ss.length := by have := HN.out; omega
            obtain ⟨x, hx⟩ : ∃ x, x = ss[i] := ⟨_, rfl⟩
            obtain ⟨b0, off, xo, xc, rfl, hc0, hsrc⟩ := (H.out.below HBY.out).get (i := i) (s := x) (by rw [hx]; exact List.getElem?_eq_getElem hil)
            have HSRC := Lib.hid hsrc
            have HNX := Lib.hid (bodyU_next (kind := kind) hil)
            rw [← hx] at HNX
            have HLE : Hid ((headF kind ss ++ (ss.take i).flatten).length + x.length ≤ 16777216) := by
              unfold Hid
              rw [hx]
              have h1 := congrArg List.length (bodyU_next (kind := kind) hil)
              rw [List.length_append] at h1
              have h2 := flat_part ss (i + 1)
              have h3 := HTOT.out; have h4 := HHL.out; have h5 := HZF.out
              rw [h1, List.length_append]; omega
            obtain ⟨sl, hsl⟩ : ∃ sl, sl = x.length := ⟨_, rfl⟩
            rw [← hsl] at hc0 HSRC HLE
            have HSL := Lib.hid hsl
            clear hsrc hx hil hsl hig
            go_wp2_with (at_builtin; refine append_bytes rfl (.tmp 59) (.tmp 63) rfl w.heap.size _ (headF kind ss ++ (ss.take i).flatten).length (headF kind ss ++ (ss.take i).flatten) rfl HROWY.out _ rfl _ HSRC.out ?_ ?_ ?_)
            · have := HLE.out; have := HSL.out; omega
            · exact HBY.out.size
            intro v5 w5 ho5 hg5
            have HO5 : Hid (w5.ownsRow w.heap.size 5 1 v5 (headF kind ss ++ (ss.take (i + 1)).flatten).length ((headF kind ss ++ (ss.take (i + 1)).flatten).map bV)) := by
              unfold Hid
              rw [← HNX.out, List.length_append]; simpa using ho5
            have HB5 := Lib.hid (bw_grown HBY.out hg5 (row_own HROWY.out))
            clear ho5 hg5
            go_wp2
            go_roundg g
            case measure => omega
            case rel => exact ⟨i + 1, by have := HIG.out; omega, by first | rfl | simp, HO5.out, HB5.out⟩
    | succ g =>
      have hi : (i : Int) < (n : Int) := by omega
      have hi0 : (0 : Int) ≤ (i : Int) := by omega
      have hil : i < ss.length := by have := HN.out; omega
      obtain ⟨x, hx⟩ : ∃ x, x = ss[i] := ⟨_, rfl⟩
      obtain ⟨b0, off, xo, xc, rfl, hc0, hcl⟩ := (H.out.below HBX.out).get (i := i) (s := x) (by rw [hx]; exact List.getElem?_eq_getElem hil)
      clear hcl
      have HNX := Lib.hid (headU_next (kind := kind) hil)
      have HSN := Lib.hid (sizeU_next hil)
      rw [← hx] at HNX HSN
      obtain ⟨sl, hsl⟩ : ∃ sl, sl = x.length := ⟨_, rfl⟩
      have hslb : (sl : Int) ≤ 140737488351232 := by rw [hsl, hx]; exact HL.out _ (List.getElem_mem _)
      have hsl0 : 0 ≤ (sl : Int) := by omega
      have hws : IntKind.u64.wrap (sl : Int) = (sl : Int) := by rw [IntKind.wrap_u64]; omega
      have HUS := Lib.hid (fun w => refUint_any sl (by omega) w)
      have HF10 := Lib.hid (form_len10 (n := sl) (by omega))
      have HHU := Lib.hid (headU_le (kind := kind) (by have := HN.out; omega) HL.out i (by omega))
      rw [← hsl] at hc0 HNX HSN
      have HGET : Hid (∀ W, BW w W → W.cell? ⟨b0, off + i, none⟩ = some (.slice xo sl xc)) := fun W hW => by
        obtain ⟨b2, off2, xo2, xc2, e2, hc2, _⟩ := H.out.get (i := i) (s := x) (by rw [hx]; exact List.getElem?_eq_getElem hil)
        cases e2
        have h1 := cell_lt hc2
        have h2 : wr.cell? ⟨b0, off + i, none⟩ = w.cell? ⟨b0, off + i, none⟩ := World.cell?_of_block (w := w) (a := ⟨b0, off + i, none⟩) (HBX.out.block _ h1)
        have h3 : W.cell? ⟨b0, off + i, none⟩ = w.cell? ⟨b0, off + i, none⟩ := World.cell?_of_block (w := w) (a := ⟨b0, off + i, none⟩) (hW.block _ h1)
        rw [h3, ← h2]; exact hc0
      clear hx hil hsl hig
      go_wp2_with fail
      refine (HUS.out _).mono ?_
      rintro e w3 ⟨v3, rfl, ho3, hb3⟩
      have HO3 := Lib.hid (Src.of_row ho3)
      have HB3 := Lib.hid (HBX.out.trans hb3)
      have HROW3 := Lib.hid (row_keep HROW.out fun a n c e => hb3.block _ (row_lt HROW.out e))
      obtain ⟨o3, n3, c3, rfl⟩ := row_form ho3
      clear ho3 hb3
      go_wp2_with (at_builtin; refine append_bytes rfl (.tmp 37) (.tmp 38) rfl w.heap.size _ (headU kind ss i).length (headU kind ss i) rfl HROW3.out _ rfl (form sl) HO3.out ?_ ?_ ?_)
      · have := HF10.out; have := HHU.out; omega
      · exact HB3.out.size
      intro v4 w4 ho4 hg4
      have HO4 : Hid (w4.ownsRow w.heap.size 5 1 v4 (headU kind ss (i + 1)).length ((headU kind ss (i + 1)).map bV)) := by
        unfold Hid
        rw [HNX.out, List.length_append, List.map_append]; exact ho4
      have HB4 := Lib.hid (bw_grown HB3.out hg4 (row_own HROW3.out))
      have hc4 := HGET.out w4 HB4.out
      clear ho4 hg4 hc0
      go_wp2
      go_roundg g
      case measure => omega
      case rel => exact ⟨i + 1, z + sl, by have := HIG.out; omega, by first | rfl | simp, by first | rfl | simp, by rw [HSN.out, HZ.out], HO4.out, HB4.out⟩
end Go.Proofs.Ytaaeaaahllicbaa
