/- Stage 6, the laws: two texts with a blank between. -/
import Derived.Test.YtljjaepadnmmeaaDoorAncC
import Derived.Maps.AppendAt
import Derived.Laws.AppendOwnNone
namespace Go.Proofs.YtljjaepadnmmeaaDoor
open Go.RowKit Go.Maps Fld Ana Go.Shelf
attribute [local go_sem] Oper.semAt_some

theorem run_one {i : Int} (hi : i = 1 ∨ i = 2) {s : List UInt8} (hs : s.length ≤ 4096) : runL [i] s = (toks i.toNat s, 0) := by
  have hk : checkL [i] = 0 := by rcases hi with rfl | rfl <;> decide
  rw [run_ok hk s, if_neg (by omega), if_neg (by have := toks_few i.toNat s; omega)]
  rfl
/-- a row that may be appended: where it has no block it has no room -/
def RowSrc (w : World) (v : Value) (l : List Tok) : Prop := TokSrc w v l ∧ ∀ cap, v = .slice none l.length cap → cap = 0
theorem RowSrc.bw {w W : World} {v : Value} {l : List Tok} (h : RowSrc w v l) (hb : BW w W) : RowSrc W v l := ⟨h.1.bw hb, h.2⟩
theorem rowSrc_of {w : World} {base : Nat} {v : Value} {l : List Tok} (h : w.ownsRow base 43 4 v l.length (tokCells l)) : RowSrc w v l := by
  refine ⟨tokSrc_of_row h, fun cap e => ?_⟩
  obtain ⟨_, h2 | ⟨g', cap', cur', hv', _⟩⟩ := h
  · rw [h2.1] at e; injection e with _ _ e; exact e.symm
  · rw [hv'] at e; cases e
theorem tok_cell1 (l : List Tok) : ∀ u ∈ tokCells l, u.oneCell' = true := by
  intro u hu
  unfold tokCells at hu
  obtain ⟨t, _, hu⟩ := List.mem_flatMap.1 hu
  simp only [tokV, List.mem_cons, List.not_mem_nil, or_false, textV] at hu
  rcases hu with rfl | rfl | rfl | rfl <;> rfl
set_option maxRecDepth 100000 in
/-- append of a row to the nil slice -/
theorem append_first {w : World} {ops : Array Oper} {rest : List Oper} {o : Oper} {a : Act} {Q : Exit → Act → World → Prop} (hgd : o.guard = none) (s x : Operand)
    (ho : o.op = .call { callee := .builtin .append, args := #[s, x], argTypes := #[24, 24] }) (hs : a.eval s = .slice none 0 0) {l : List Tok} {v : Value} (hx : a.eval x = v) (hsrc : RowSrc w v l) (h4 : l.length ≤ 4096)
    (h : ∀ v' w', w'.ownsRow w.heap.size 43 4 v' l.length (tokCells l) → BW w w' → wpList Tryd.prog ops Q rest (a.put o.dst v') w') : wpList Tryd.prog ops Q (o :: rest) a w := by
  obtain ⟨i0, hi9, hz0, hz1, hz2⟩ := infoOf info_tok
  obtain ⟨⟨ao, cap, rfl, hc⟩, hcap⟩ := hsrc
  cases ao with
  | none =>
    have hc0 := hcap cap rfl
    subst hc0
    have hl : l = [] := by
      cases l with
      | nil => rfl
      | cons t r => obtain ⟨b, off, e, _⟩ := hc 0 (textV t.text) (by simp [tokCells, tokV]); cases e
    subst hl
    refine wpList_append_own_none hgd s x 24 ho w.heap.size 43 i0 4 Tryd.underlying24 hi9 _ 0 [] hs (World.ownsRow_nil _ _ _ _) hx ?_
    exact h _ w (World.ownsRow_nil _ _ _ _) (BW.refl w)
  | some ad =>
    refine wpList_append_own_at w hgd s x 24 ho w.heap.size 43 i0 (.agg #[.string ⟨#[]⟩, .int .i64 0, .int .i64 0, .int .i64 0]) 4 40 Tryd.underlying24 hi9 hz0 hz1 hz2 rfl (by decide) _ 0 [] hs (World.ownsRow_nil _ _ _ _) ad l.length cap (tokCells l) hx (tokCells_len l) (fun j u hu => ?_) (tok_cell1 l) (by unfold maxLen; omega) (by omega) (Nat.le_refl _) ?_
    · obtain ⟨b, off, e, hcell⟩ := hc j u hu
      injection e with e
      rw [e, show (⟨b, off, none⟩ : Addr).add j = ⟨b, off + j, none⟩ by unfold Addr.add; by_cases e : j = 0 <;> simp [e]]
      exact hcell
    · intro v' w' ho' hg' _ _
      rw [Nat.zero_add, List.nil_append] at ho'
      exact h v' w' ho' (bw_grown (BW.refl w) hg' (fun k e => by cases e))
theorem run_src {w : World} (arr : Array Value) (c : List Int) (n : Nat) (h : arr.toList = c.map fun x => .int .i64 x) (hn : n = c.length) (hb : (n : Int) ≤ 1000) (s : List UInt8) (hN : NextOk w) {l : List Tok} (hr : runL c s = (l, 0)) (W : World) (hW : BW w W) :
    Calls Tryd.prog 10 #[.slice (some ⟨W.heap.size, 0, none⟩) n n, textV s] (W.alloc (.cells arr 3)) fun e w' => ∃ ao cap, e = .returned (.tuple #[.slice ao l.length cap, .int .i64 0]) ∧ RowSrc w' (.slice ao l.length cap) l ∧ BW W w' := by
  refine (run_new W arr c n h hn hb s (hN.bw hW) hr).mono ?_
  rintro e w' ⟨ao, cap, rfl, hrow, hq⟩
  exact ⟨ao, cap, rfl, rowSrc_of hrow, hq⟩
theorem shift_parts {i : Int} (hi : i = 1 ∨ i = 2) (a b : List UInt8) : toks i.toNat (a ++ 32 :: b) = toks i.toNat a ++ (toks i.toNat b).map (shiftT ((toks i.toNat a).length : Nat) ((a.length : Int) + 1)) :=
  toks_parts (by rcases hi with rfl | rfl <;> decide) a b
theorem text_cat (a b : List UInt8) (ta tb : ByteArray) (ha : textV a = .string ta) (hb : textV b = .string tb) : textV (a ++ 32 :: b) = .string (ta ++ ⟨#[32]⟩ ++ tb) := by
  unfold textV at ha hb ⊢
  injection ha with ha; injection hb with hb
  subst ha; subst hb
  congr 1
  apply ByteArray.ext
  apply Array.ext'
  simp
set_option maxRecDepth 100000 in
set_option maxHeartbeats 4000000 in
theorem parts_any (w : World) (sa sb : List UInt8) (hra : sa.length ≤ 140737488351232) (hrb : sb.length ≤ 140737488351232) (hN : NextOk w) : Calls Tryd.prog 7 #[textV sa, textV sb] w (TrueP w) := by
  obtain ⟨ta, hta⟩ : ∃ tx, textV sa = .string tx := ⟨_, rfl⟩
  obtain ⟨tb, htb⟩ : ∃ tx, textV sb = .string tx := ⟨_, rfl⟩
  have htab := text_cat sa sb ta tb hta htb
  have hla : ta.size = sa.length := by unfold textV at hta; injection hta with e; rw [← e]; exact text_size sa
  have hlb : tb.size = sb.length := by unfold textV at htb; injection htb with e; rw [← e]; exact text_size sb
  obtain ⟨na, hna⟩ : ∃ na, na = ta.size := ⟨_, rfl⟩
  obtain ⟨nb, hnb⟩ : ∃ nb, nb = tb.size := ⟨_, rfl⟩
  obtain ⟨i0, hi9, hz0, hz1, hz2⟩ := infoOf info_tok
  have HI9 := Lib.hid hi9; have HZ0 := Lib.hid hz0; have HZ1 := Lib.hid hz1; have HZ2 := Lib.hid hz2
  clear hi9 hz0 hz1 hz2
  have HKN := Lib.hid (known_any w hN)
  have HNX := Lib.hid hN
  have HTA := Lib.hid hta; have HTB := Lib.hid htb; have HTAB := Lib.hid htab; have HLA := Lib.hid hla; have HLB := Lib.hid hlb
  have wr1 : IntKind.i64.wrap ((ta.size : Int) + (tb.size : Int)) = (ta.size : Int) + (tb.size : Int) := wrap_small _ (by omega) (by omega)
  have wr2 : IntKind.i64.wrap ((ta.size : Int) + (tb.size : Int) + 1) = (ta.size : Int) + (tb.size : Int) + 1 := wrap_small _ (by omega) (by omega)
  rw [hta, htb]
  by_cases hbig : (ta.size : Int) + (tb.size : Int) + 1 ≤ 4096
  · have t0 : decide (4096 < (ta.size : Int) + (tb.size : Int) + 1) = false := decide_eq_false (by omega)
    have HBIG := Lib.hid hbig
    clear hN hta htb htab hla hlb hna hnb hbig hra hrb
    go_enter Tryd.func7, Tryd.ntmps7
    go_wp2_with fail
    refine HKN.out.mono ?_
    rintro e w1 ⟨rfl, hq1⟩
    have HQ1 := Lib.hid hq1
    clear hq1
    go_wp2
    go_loopw [5, 6, 7, 8, 9, 10, 11, 12, 13, 14] (fun s5 s6 s7 s8 s9 s10 s11 s12 s13 s14 wr => ∃ i : Int, s5 = .int .i64 i ∧ (i = 1 ∨ i = 2 ∨ i = 3) ∧ BW w wr) (fun s5 s6 s7 s8 s9 s10 s11 s12 s13 s14 _ => 3 - (intOf s5).toNat)
    case atStart => exact ⟨1, rfl, .inl rfl, HQ1.out⟩
    case round =>
      obtain ⟨i, rfl, hi, hqr⟩ := hrel
      by_cases h3 : i = 3
      · subst h3
        go_wp2
        go_ret
        exact ⟨rfl, hqr⟩
      · have hi2 : i = 1 ∨ i = 2 := by omega
        have hle : i ≤ 2 := by omega
        have HI := Lib.hid hi2
        have HQR := Lib.hid hqr
        have hsa : sa.length ≤ 4096 := by have := HBIG.out; have := HLA.out; omega
        have hsb : sb.length ≤ 4096 := by have := HBIG.out; have := HLB.out; omega
        have hsab : (sa ++ 32 :: sb).length ≤ 4096 := by have := HBIG.out; have := HLA.out; have := HLB.out; rw [List.length_append, List.length_cons]; omega
        have HRA := Lib.hid (fun W (hW : BW w W) => run_src #[.int .i64 i] [i] 1 rfl rfl (by decide) sa HNX.out (run_one hi2 hsa) W hW)
        have HRB := Lib.hid (fun W (hW : BW w W) => run_src #[.int .i64 i] [i] 1 rfl rfl (by decide) sb HNX.out (run_one hi2 hsb) W hW)
        have HRC := Lib.hid (fun W (hW : BW w W) => run_src #[.int .i64 i] [i] 1 rfl rfl (by decide) (sa ++ 32 :: sb) HNX.out (run_one hi2 hsab) W hW)
        rw [HTA.out] at HRA
        rw [HTB.out] at HRB
        rw [HTAB.out] at HRC
        have hpar := shift_parts hi2 sa sb
        obtain ⟨la, hlA⟩ : ∃ l, toks i.toNat sa = l := ⟨_, rfl⟩
        obtain ⟨lb, hlB⟩ : ∃ l, toks i.toNat sb = l := ⟨_, rfl⟩
        obtain ⟨lc, hlC⟩ : ∃ l, toks i.toNat (sa ++ 32 :: sb) = l := ⟨_, rfl⟩
        have hfa := toks_few i.toNat sa
        have hfb := toks_few i.toNat sb
        have hfc := toks_few i.toNat (sa ++ 32 :: sb)
        rw [hlA, hlB, hlC] at hpar
        rw [hlA] at HRA hfa
        rw [hlB] at HRB hfb
        rw [hlC] at HRC hfc
        have HPAR := Lib.hid hpar
        have HPB : Hid (∀ (j : Nat) (t : Tok), lb[j]? = some t → t.pos = (j : Int) ∧ 0 ≤ t.fr ∧ t.fr < t.en ∧ t.en ≤ (tb.size : Int)) := fun j t hj => by
          rw [← hlB] at hj
          have h1 := (toks_own hj).1
          have h2 := (toks_placed i.toNat sb).1 t (List.mem_of_getElem? hj)
          rw [HLB.out]
          exact ⟨h1, h2⟩
        have HFA : Hid (la.length ≤ 4096) := Nat.le_trans hfa hsa
        have HFB : Hid (lb.length ≤ 4096) := Nat.le_trans hfb hsb
        have HFC : Hid (lc.length ≤ 4096) := Nat.le_trans hfc hsab
        have c1 : ta.size + 1 ≤ 9223372036854775807 := by have := HLA.out; omega
        have c2 : ta.size + 1 + tb.size ≤ 9223372036854775807 := by have := HLA.out; have := HLB.out; omega
        clear hi h3 hi2 hqr hsa hsb hsab hpar hlA hlB hlC hfa hfb hfc
        go_wp2_with fail
        refine (HRA.out _ HQR.out).mono ?_
        rintro e w2 ⟨ao2, cp2, rfl, hs2, hq2⟩
        have HQ2 := Lib.hid (HQR.out.trans hq2)
        have HS2 := Lib.hid hs2
        clear hs2 hq2
        go_wp2_with fail
        refine (HRB.out _ HQ2.out).mono ?_
        rintro e w3 ⟨ao3, cp3, rfl, hs3, hq3⟩
        have HQ3 := Lib.hid (HQ2.out.trans hq3)
        have HS3 := Lib.hid hs3
        have HS2' := Lib.hid (HS2.out.bw hq3)
        clear hs3 hq3 HS2
        go_wp2_with fail
        refine (HRC.out _ HQ3.out).mono ?_
        rintro e w4 ⟨ao4, cp4, rfl, hs4, hq4⟩
        have HQ4 := Lib.hid (HQ3.out.trans hq4)
        have HS4 := Lib.hid hs4
        have HSA := Lib.hid (HS2'.out.bw hq4)
        have HSB := Lib.hid (HS3.out.bw hq4)
        clear hs4 hq4 HS2' HS3
        go_wp2_with (at_builtin; refine append_first rfl _ _ rfl rfl rfl HSA.out HFA.out ?_; intro v5 w5 ho5 hq5; have HO5 := Lib.hid ho5; have HQ5 := Lib.hid hq5; clear ho5 hq5)
        clear c1 c2
        obtain ⟨nB, hnB⟩ : ∃ n, n = lb.length := ⟨_, rfl⟩
        obtain ⟨nA, hnA⟩ : ∃ n, n = la.length := ⟨_, rfl⟩
        obtain ⟨sh, hsh⟩ : ∃ sh, sh = shiftT (la.length : Nat) ((sa.length : Int) + 1) := ⟨_, rfl⟩
        have HNB := Lib.hid hnB; have HNA := Lib.hid hnA; have HSH := Lib.hid hsh
        have HFAn : Hid (nA ≤ 4096) := by unfold Hid; rw [hnA]; exact HFA.out
        have HFBn : Hid (nB ≤ 4096) := by unfold Hid; rw [hnB]; exact HFB.out
        have hpos5 := HO5.out
        rw [← hnA] at hpos5
        replace HO5 := Lib.hid hpos5
        clear hpos5
        rw [← hnA, ← hnB]
        have hSB := HSB.out
        rw [← hnB] at hSB
        replace HSB := Lib.hid hSB
        clear hSB hnB hnA hsh
        go_loopw [12, 13, 14] (fun s12 s13 s14 wr2 => ∃ j : Nat, j ≤ nB ∧ s13 = .int .i64 (j : Int) ∧ wr2.ownsRow w4.heap.size 43 4 s12 (nA + j) (tokCells (la ++ (lb.take j).map sh)) ∧ BW w4 wr2) (fun s12 s13 s14 _ => nB - (intOf s13).toNat)
        case atStart => exact ⟨0, Nat.zero_le _, rfl, by simpa using HO5.out, HQ5.out⟩
        case round =>
          obtain ⟨j, hj, rfl, hrow, hqj⟩ := hrel
          have HROW := Lib.hid hrow; have HQJ := Lib.hid hqj
          obtain ⟨aw, cw, rfl⟩ := row4_form hrow
          clear hrow hqj
          by_cases hlt : j < nB
          · have hltj : (j : Int) < (nB : Int) := by omega
            have hj0 : 0 ≤ (j : Int) := by omega
            have h1 : j < lb.length := by rw [← HNB.out]; exact hlt
            have HLT := Lib.hid hlt
            have hpb := HPB.out j lb[j] (List.getElem?_eq_getElem h1)
            obtain ⟨b, o, e1, a0, a1, a2, a3⟩ := (HSB.out.1.bw HQJ.out).cells h1
            subst e1
            obtain ⟨x, hx⟩ : ∃ x, x = lb[j] := ⟨_, rfl⟩
            rw [← hx] at a0 a1 a2 a3 hpb
            have HX : Hid (lb[j]? = some x) := by unfold Hid; rw [hx]; exact List.getElem?_eq_getElem h1
            obtain ⟨xt, hxt⟩ : ∃ z, textV x.text = .string z := ⟨_, rfl⟩
            obtain ⟨xp, hxp⟩ : ∃ z, z = x.pos := ⟨_, rfl⟩
            obtain ⟨xf, hxf⟩ : ∃ z, z = x.fr := ⟨_, rfl⟩
            obtain ⟨xe, hxe⟩ : ∃ z, z = x.en := ⟨_, rfl⟩
            rw [hxt] at a0
            rw [← hxp] at a1 hpb
            rw [← hxf] at a2 hpb
            rw [← hxe] at a3 hpb
            have hb1 := HBIG.out
            have hb2 := HFAn.out
            have hb3 := HFBn.out
            have v1 : IntKind.i64.wrap (xp + (nA : Int)) = xp + (nA : Int) := wrap_small _ (by omega) (by omega)
            have v2 : IntKind.i64.wrap (xf + (ta.size : Int)) = xf + (ta.size : Int) := wrap_small _ (by omega) (by omega)
            have v3 : IntKind.i64.wrap (xf + (ta.size : Int) + 1) = xf + (ta.size : Int) + 1 := wrap_small _ (by omega) (by omega)
            have v4 : IntKind.i64.wrap (xe + (ta.size : Int)) = xe + (ta.size : Int) := wrap_small _ (by omega) (by omega)
            have v5' : IntKind.i64.wrap (xe + (ta.size : Int) + 1) = xe + (ta.size : Int) + 1 := wrap_small _ (by omega) (by omega)
            have HXT := Lib.hid hxt; have HXP := Lib.hid hxp; have HXF := Lib.hid hxf; have HXE := Lib.hid hxe
            obtain ⟨Wx, hWx⟩ : ∃ Wx, Wx = (wr.alloc (.cells #[.string xt, .int .i64 (xp + (nA : Int)), .int .i64 (xf + (ta.size : Int) + 1), .int .i64 (xe + (ta.size : Int) + 1)] 43)).alloc (.cells #[.string xt, .int .i64 (xp + (nA : Int)), .int .i64 (xf + (ta.size : Int) + 1), .int .i64 (xe + (ta.size : Int) + 1)] 43) := ⟨_, rfl⟩
            have HWX := Lib.hid hWx
            have HX2 : Hid (Wx.ownsRow w4.heap.size 43 4 (.slice aw (nA + j) cw) (nA + j) (tokCells (la ++ (lb.take j).map sh))) := by unfold Hid; rw [hWx]; exact (HROW.out.alloc _).alloc _
            have HX4 : Hid (∀ k u, [Value.string xt, .int .i64 (xp + (nA : Int)), .int .i64 (xf + (ta.size : Int) + 1), .int .i64 (xe + (ta.size : Int) + 1)][k]? = some u → Wx.cell? ((⟨wr.heap.size + 1, 0, none⟩ : Addr).add k) = some u) := by
              unfold Hid
              rw [hWx, show wr.heap.size + 1 = (wr.alloc (.cells #[.string xt, .int .i64 (xp + (nA : Int)), .int .i64 (xf + (ta.size : Int) + 1), .int .i64 (xe + (ta.size : Int) + 1)] 43)).heap.size from (World.size_alloc _ _).symm]
              exact World.news_of_block (heap_new _ _)
            have HX5 : Hid (nA + j + 1 ≤ maxLen) := by unfold Hid maxLen; omega
            have HRB : Hid ((nA + j + 1) * 40 ≤ 140737488355328) := by unfold Hid; omega
            have HQX : Hid (BW w4 Wx) := by unfold Hid; rw [hWx]; exact (HQJ.out.alloc _).alloc _
            have HX6 : Hid (w4.heap.size ≤ Wx.heap.size) := HQX.out.size
            have HNEW : Hid (tokCells (la ++ (lb.take (j + 1)).map sh) = tokCells (la ++ (lb.take j).map sh) ++ [.string xt, .int .i64 (xp + (nA : Int)), .int .i64 (xf + (ta.size : Int) + 1), .int .i64 (xe + (ta.size : Int) + 1)]) := by
              unfold Hid
              have h7 : lb.take (j + 1) = lb.take j ++ [x] := by rw [List.take_add_one, HX.out]; rfl
              rw [h7, List.map_append, ← List.append_assoc, List.map_cons, List.map_nil, tokCells_snoc]
              congr 1
              unfold tokV
              rw [HSH.out]
              simp only [shiftT]
              rw [hxt, hxp, hxf, hxe, HNA.out, HLA.out]
              simp only [Int.add_assoc]
            clear hb1 hb2 hpb hx hxt hxp hxf hxe hlt hj h1 hWx
            have hjl : (j : Int) + 1 ≤ 4096 := by omega
            clear hb3
            go_wp2_with (at_builtin; rw [← HWX.out]; refine wpList_append_own_at Wx rfl _ _ 24 rfl w4.heap.size 43 i0 (.agg #[.string ⟨#[]⟩, .int .i64 0, .int .i64 0, .int .i64 0]) 4 40 Tryd.underlying24 HI9.out HZ0.out HZ1.out HZ2.out rfl (by decide) (.slice aw (nA + j) cw) (nA + j) (tokCells (la ++ (lb.take j).map sh)) rfl HX2.out ⟨wr.heap.size + 1, 0, none⟩ 1 1 [.string xt, .int .i64 (xp + (nA : Int)), .int .i64 (xf + (ta.size : Int) + 1), .int .i64 (xe + (ta.size : Int) + 1)] rfl rfl HX4.out (by simp [Value.oneCell']) HX5.out HRB.out HX6.out ?_; intro v6 w6 ho6 hg6 _ _; have HO6 := Lib.hid ho6; have HG6 := Lib.hid hg6; clear ho6 hg6)
            go_roundw
            case rel => exact ⟨j + 1, HLT.out, by first | rfl | go_num, by rw [HNEW.out]; exact HO6.out, bw_grown HQX.out HG6.out (fun k e => (row4_own HX2.out k e).1)⟩
            case measure => simp [intOf]; have := HLT.out; omega
          · have hjn : j = nB := by omega
            subst hjn
            have HTK : Hid (∀ W, BW wr W → Calls Tryd.prog 12 #[.slice ao4 lc.length cp4, .slice aw (nA + j) cw] W fun e w' => e = .returned (.bool true) ∧ BW W w') := fun W hW => by
              have hl : la ++ (lb.take j).map sh = lc := by
                rw [HNB.out, List.take_length, HSH.out]; exact HPAR.out.symm
              have hr := HROW.out
              rw [hl] at hr
              have hn : nA + j = lc.length := by rw [← hl, List.length_append, List.length_map, List.length_take, HNA.out, HNB.out, Nat.min_self]
              rw [hn] at hr ⊢
              refine (tokens_any ((HS4.out.1.bw HQJ.out).bw hW) ((tokSrc_of_row hr).bw hW) (by have := HFC.out; omega) (by have := HFC.out; omega)).mono ?_
              rintro e w' ⟨rfl, k, rfl⟩
              exact ⟨ret_bool (decide_eq_true rfl), bw_drew (BW.refl W) k⟩
            have v6 : IntKind.i64.wrap (i + 1) = i + 1 := by rcases HI.out with rfl | rfl <;> rfl
            clear hlt hj
            go_wp2_with fail
            refine (HTK.out _ (BW.refl wr)).mono ?_
            rintro e w7 ⟨rfl, hq7⟩
            have HQ7 := Lib.hid ((HQ4.out.trans HQJ.out).trans hq7)
            clear hq7
            go_wp2
            go_roundw
            case rel => exact ⟨i + 1, rfl, by have := HI.out; omega, HQ7.out⟩
            case measure => simp [intOf]; have := HI.out; omega
  · have t0 : decide (4096 < (ta.size : Int) + (tb.size : Int) + 1) = true := decide_eq_true (by omega)
    clear hN hta htb htab hla hlb hna hnb hbig hra hrb
    go_enter Tryd.func7, Tryd.ntmps7
    go_wp2_with fail
    refine HKN.out.mono ?_
    rintro e w1 ⟨rfl, hq1⟩
    have HQ1 := Lib.hid hq1
    clear hq1
    go_wp2
    go_ret
    exact ⟨rfl, HQ1.out⟩
end Go.Proofs.YtljjaepadnmmeaaDoor
