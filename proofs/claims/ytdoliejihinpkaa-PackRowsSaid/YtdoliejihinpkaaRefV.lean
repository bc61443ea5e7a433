/- The document's one: a block's form. -/
import Derived.Test.YtdoliejihinpkaaRefU
import Derived.Test.YtdoliejihinpkaaRefI
namespace Go.Proofs.Ytdoliejihinpkaa
open Go.RowKit Go.Maps

set_option maxRecDepth 100000 in
set_option maxHeartbeats 4000000 in
theorem refOne_any {w : World} {v : Value} {l : List Int} (h : Src w v (l.map iV)) (h0 : l ≠ []) (hl : I64s l) (hlen : l.length ≤ 128) : Calls Try.prog 41 #[v] w (BytesPost w (blockP l)) := by
  obtain ⟨ao, cap, rfl⟩ := h.len
  rw [List.length_map] at h ⊢
  have H := Lib.hid h
  have HL := Lib.hid hl
  have hpos : 0 < l.length := List.length_pos_iff.2 h0
  obtain ⟨n, hn⟩ : ∃ n, n = l.length := ⟨_, rfl⟩
  rw [← hn] at H hlen hpos ⊢
  have hle : (n : Int) ≤ 128 := by omega
  have hps : (0 : Int) < (n : Int) := by omega
  obtain ⟨m, hm⟩ : ∃ m, m = minL l := ⟨_, rfl⟩
  have HM64 : Hid (I64 m) := by unfold Hid; rw [hm]; exact hl _ (minL_mem h0)
  have HMLE : Hid (∀ x ∈ l, m ≤ x) := by unfold Hid; rw [hm]; exact fun x hx => minL_le hx
  have HN := Lib.hid hn
  have HM := Lib.hid hm
  obtain ⟨x0, hx0⟩ : ∃ x, l[0]? = some x := ⟨_, List.getElem?_eq_getElem (by omega)⟩
  obtain ⟨b0, o0, rfl, hc0⟩ := H.out.get (i := 0) (u := .int .i64 x0) (by rw [List.getElem?_map, hx0]; rfl)
  rw [Nat.add_zero] at hc0
  have HX0 := Lib.hid hx0
  clear h h0 hl hn hm hx0
  go_enter Try.func41, Try.ntmps41
  go_wp2
  go_loopg [3, 4] n (fun g s3 s4 wx => ∃ (i : Nat) (mm : Int), i + g = n ∧ s4 = .int .i64 i ∧ s3 = .int .i64 mm ∧ mm = minL (x0 :: l.take i) ∧ w = wx)
  case atStart => exact ⟨0, x0, by omega, rfl, rfl, by rw [List.take_zero]; rfl, rfl⟩
  case round =>
    obtain ⟨i, mm, hig, rfl, rfl, hmm, rfl⟩ := hrel
    have HMM := Lib.hid hmm
    have HIG := Lib.hid hig
    clear hmm
    cases gk with
    | zero =>
      have hge : (n : Int) ≤ (i : Int) := by omega
      have HFIN : Hid (mm = m) := by
        unfold Hid
        rw [HMM.out, List.take_of_length_le (by have := HN.out; omega)]
        refine minL_eq ?_ ?_
        · rw [HM.out]; exact List.mem_cons_of_mem _ (minL_mem (fun e => by have := HX0.out; rw [e] at this; cases this))
        · intro x hx
          rcases List.mem_cons.1 hx with rfl | hx
          · exact HMLE.out _ (List.mem_of_getElem? HX0.out)
          · exact HMLE.out _ hx
      have hfin := HFIN.out
      subst hfin
      have hd9 : decide (i < n) = false := decide_eq_false (by omega)
      clear hig HIG HMM HFIN
      go_wp2
      go_loopg [5, 6] n (fun g s5 s6 wx => ∃ i : Nat, i + g = n ∧ s6 = .int .i64 i ∧ wx.ownsRow w.heap.size 52 1 s5 i (((l.take i).map (upN mm)).map uV) ∧ BW w wx)
      case atStart => exact ⟨0, by omega, rfl, World.ownsRow_nil _ _ _ _, BW.refl w⟩
      case round =>
        obtain ⟨i, hig, rfl, hrow, hbx⟩ := hrel
        have HROW := Lib.hid hrow
        have HBX := Lib.hid hbx
        have HIG := Lib.hid hig
        clear hrow hbx
        cases gk with
        | zero =>
          have hge : (n : Int) ≤ (i : Int) := by omega
          have hd0 : decide (i < n) = false := decide_eq_false (by omega)
          have HAB : Hid (wr.ownsRow w.heap.size 52 1 u5 n ((aboveP l).map uV)) := by
            unfold Hid
            have h1 := HROW.out
            rw [show i = n by omega, List.take_of_length_le (by have := HN.out; omega)] at h1
            rw [above_upN, ← HM.out]; exact h1
          clear hig HIG HROW
          obtain ⟨ao5, an5, ac5, rfl⟩ := row_form HAB.out
          have hU : U64s (aboveP l) := above_lt HL.out
          have HU := Lib.hid hU
          have HWID := Lib.hid (refWidth_any (Src.of_row HAB.out) hU (by rw [above_len]; have := HN.out; omega))
          clear hU
          go_wp2_with fail
          refine HWID.out.mono ?_
          rintro e w2 ⟨rfl, nn, hw2⟩
          have HB2 : Hid (BW w w2) := by rw [hw2]; exact bw_drew HBX.out nn
          have HAB2 : Hid (w2.ownsRow w.heap.size 52 1 (.slice ao5 an5 ac5) n ((aboveP l).map uV)) := by rw [hw2]; exact HAB.out
          obtain ⟨wd, hwd⟩ : ∃ wd, wd = widP (aboveP l) := ⟨_, rfl⟩
          have HWD := Lib.hid hwd
          have hwd64 : (wd : Int) ≤ 64 := by rw [hwd]; have := widP_64 (aboveP l); omega
          have hww : IntKind.u8.wrap (wd : Int) = (wd : Int) := by rw [IntKind.wrap_u8']; omega
          rw [← hwd]
          clear hw2 hwd
          have HTU := Lib.hid (refTurned_any mm HM64.out.1 HM64.out.2 w2)
          have HUI := Lib.hid (refUint_any (turned mm) (turned_lt HM64.out.1 HM64.out.2) w2)
          have HF10 : Hid ((form (turned mm)).length ≤ 10) := form_len10 (turned_lt HM64.out.1 HM64.out.2)
          go_wp2_with fail
          refine HTU.out.mono ?_
          rintro e w' ⟨rfl, rfl⟩
          go_wp2_with fail
          refine HUI.out.mono ?_
          rintro e w3 ⟨v3, rfl, ho3, hb3⟩
          have HO3 := Lib.hid (row_base ho3 HB2.out.size)
          have HB3 := Lib.hid (HB2.out.trans hb3)
          have HAB3 := Lib.hid (row_keep HAB2.out fun a n c e => hb3.block _ (row_lt HAB2.out e))
          have HNEW : Hid (∀ a n c, v3 = .slice (some a) n c → w2.heap.size ≤ a.block) := fun a n c e => new_of_row ho3 e
          obtain ⟨o3, n3, c3, rfl⟩ := row_form ho3
          have HB23 := Lib.hid hb3
          clear ho3 hb3
          go_wp2_with (at_builtin; refine append_bytes rfl (.tmp 50) (.tmp 53) rfl w.heap.size _ (form (turned mm)).length (form (turned mm)) rfl (HO3.out.alloc _) (.slice (some ⟨w3.heap.size, 0, none⟩) 1 1) rfl [UInt8.ofNat wd] (src_byte rfl (by omega)) ?_ ?_ ?_)
          · have := HF10.out; simp; omega
          · have := HB3.out.size; simp; omega
          intro v4 w4 ho4 hg4
          have HO4 := Lib.hid ho4
          have HB4 := Lib.hid (bw_grown (HB3.out.alloc _) hg4 (row_own HO3.out))
          have HAB4 : Hid (Src w4 (.slice ao5 an5 ac5) ((aboveP l).map uV)) := by
            unfold Hid
            refine (Src.of_row HAB3.out).keep (Nat.le_trans (by simp) hg4.size) fun _ a n c e => ?_
            have hlt := row_lt HAB2.out e
            have h1 : (w3.alloc (.cells #[.int .u8 (wd : Int)] 5)).heap[a.block]? = w3.heap[a.block]? := Below.heap_alloc _ _ _ (Nat.lt_of_lt_of_le hlt HB23.out.size)
            refine (hg4.block _ (Nat.lt_of_lt_of_le hlt (Nat.le_trans HB23.out.size (by simp))) ?_).trans h1
            intro e4
            obtain ⟨a2, n1, c1, hv3, hab⟩ := own_some e4.symm
            have h5 := HNEW.out a2 n1 c1 hv3
            have hab : a2.block = a.block := hab
            omega
          have HBITS := Lib.hid (refBits_any HAB4.out HU.out (by rw [above_len]; have := HN.out; omega) wd (by omega))
          clear ho4 hg4
          go_wp2_with fail
          refine HBITS.out.mono ?_
          rintro e w5 ⟨v5, rfl, ho5, hb5⟩
          have HO5 := Lib.hid (Src.of_row ho5)
          have HB5 := Lib.hid (HB4.out.trans hb5)
          have HO45 : Hid (w5.ownsRow w.heap.size 5 1 v4 ((form (turned mm)).length + 1) ((form (turned mm) ++ [UInt8.ofNat wd]).map bV)) := by
            unfold Hid
            have h1 : w4.ownsRow w.heap.size 5 1 v4 ((form (turned mm)).length + 1) ((form (turned mm) ++ [UInt8.ofNat wd]).map bV) := by
              have := HO4.out
              simpa using this
            exact row_keep h1 fun a n c e => hb5.block _ (row_lt h1 e)
          have HWN : Hid (wd ≤ 64) := by unfold Hid; omega
          have HNL : Hid (n ≤ 128) := by unfold Hid; omega
          clear ho5 hb5
          obtain ⟨o6, n6, c6, rfl⟩ := row_form HO45.out
          go_wp2_with (at_builtin; refine append_bytes rfl (.tmp 55) (.tmp 58) rfl w.heap.size _ ((form (turned mm)).length + 1) (form (turned mm) ++ [UInt8.ofNat wd]) rfl HO45.out v5 rfl (bitsP (aboveP l) wd) HO5.out ?_ ?_ ?_)
          · rw [bitsP_len]; have := HF10.out; have := packed_le (k := (aboveP l).length) HWN.out; rw [above_len, ← HN.out] at *; have := HNL.out; omega
          · exact HB5.out.size
          intro v6 w6 ho6 hg6
          have e1 : form (turned mm) ++ [UInt8.ofNat wd] ++ bitsP (aboveP l) wd = blockP l := by
            unfold blockP; rw [← HM.out, ← HWD.out, List.append_assoc]; rfl
          have e2 : (form (turned mm)).length + 1 + (bitsP (aboveP l) wd).length = (blockP l).length := by rw [← e1]; simp; omega
          have HO6 : Hid (w6.ownsRow w.heap.size 5 1 v6 (blockP l).length ((blockP l).map bV)) := by
            unfold Hid
            rw [← e2, ← e1]
            simpa using ho6
          have HB6 := Lib.hid (bw_grown HB5.out hg6 (row_own HO45.out))
          clear ho6 hg6 e1 e2
          go_wp2
          go_ret
          exact ⟨_, rfl, HO6.out, HB6.out⟩
        | succ g =>
          have hi : (i : Int) < (n : Int) := by omega
          have hi0 : (0 : Int) ≤ (i : Int) := by omega
          have hil : i < l.length := by have := HN.out; omega
          obtain ⟨x, hx⟩ : ∃ x, x = l[i] := ⟨_, rfl⟩
          have hxg : l[i]? = some x := by rw [hx]; exact List.getElem?_eq_getElem hil
          obtain ⟨b1, o1, e1, hc1⟩ := (H.out.below HBX.out).get (i := i) (u := .int .i64 x) (by rw [List.getElem?_map, hxg]; rfl)
          cases e1
          have hxl : x ∈ l := List.mem_of_getElem? hxg
          have hup := up_wrap HM64.out (HL.out x hxl) (HMLE.out x hxl)
          have HUP := Lib.hid hup
          have hup64 := up_lt HM64.out (HL.out x hxl)
          have HST : Hid ((l.take (i + 1)).map (upN mm) = (l.take i).map (upN mm) ++ [upN mm x]) := by
            unfold Hid
            rw [List.take_succ_eq_append_getElem hil, ← hx, List.map_append]; rfl
          obtain ⟨y, hy⟩ : ∃ y, y = upN mm x := ⟨_, rfl⟩
          obtain ⟨ls, hls⟩ : ∃ ls, ls = (l.take i).map (upN mm) := ⟨_, rfl⟩
          have HROW1 : Hid (wr.ownsRow w.heap.size 52 1 u5 i (ls.map uV)) := by rw [hls]; exact HROW.out
          rw [← hy, ← hls] at HST
          rw [← hy] at HUP hup
          clear hx hxg hig hil hxl hy hls HROW hup64
          go_wp2_with (at_builtin; refine append_u64 rfl (.tmp 34) (.tmp 43) rfl w.heap.size _ i ls rfl (HROW1.out.alloc _) (.slice (some ⟨wr.heap.size, 0, none⟩) 1 1) rfl [y] (src_newU _ _ 1 [y] rfl (by decide) (by first | rfl | (simp only [List.map_cons, List.map_nil, uV]; rw [HUP.out]))) ?_ ?_ ?_)
          · have := HIG.out; simp; omega
          · have := HBX.out.size; simp; omega
          intro v4 w4 ho4 hg4
          have HO4 : Hid (w4.ownsRow w.heap.size 52 1 v4 (i + 1) (((l.take (i + 1)).map (upN mm)).map uV)) := by
            unfold Hid
            rw [HST.out, List.map_append]; exact ho4
          have HB4 := Lib.hid (bw_grown (HBX.out.alloc _) hg4 (rowU_own HROW1.out))
          clear ho4 hg4
          go_wp2
          go_roundg g
          case measure => omega
          case rel => exact ⟨i + 1, by have := HIG.out; omega, by first | rfl | simp, HO4.out, HB4.out⟩
    | succ g =>
      have hi : (i : Int) < (n : Int) := by omega
      have hi0 : (0 : Int) ≤ (i : Int) := by omega
      have hil : i < l.length := by have := HN.out; omega
      obtain ⟨x, hx⟩ : ∃ x, x = l[i] := ⟨_, rfl⟩
      have hxg : l[i]? = some x := by rw [hx]; exact List.getElem?_eq_getElem hil
      obtain ⟨b1, o1, e1, hc1⟩ := H.out.get (i := i) (u := .int .i64 x) (by rw [List.getElem?_map, hxg]; rfl)
      cases e1
      have HST : Hid (minL (x0 :: l.take (i + 1)) = min mm x) := by
        unfold Hid
        rw [List.take_succ_eq_append_getElem hil, ← hx, ← List.cons_append, minL_snoc (by simp), ← HMM.out]
      clear hx hxg hig hil
      by_cases hlt : x < mm
      · have hd : decide (x < mm) = true := decide_eq_true hlt
        have HMN : Hid (min mm x = x) := by unfold Hid; omega
        clear hlt
        go_wp2
        go_roundg g
        case measure => omega
        case rel => exact ⟨i + 1, x, by have := HIG.out; omega, by first | rfl | simp, rfl, by rw [HST.out, HMN.out], rfl⟩
      · have hd : decide (x < mm) = false := decide_eq_false hlt
        have HMN : Hid (min mm x = mm) := by unfold Hid; omega
        clear hlt
        go_wp2
        go_roundg g
        case measure => omega
        case rel => exact ⟨i + 1, mm, by have := HIG.out; omega, by first | rfl | simp, rfl, by rw [HST.out, HMN.out], rfl⟩
end Go.Proofs.Ytdoliejihinpkaa
