/- Stage 6, the laws: the tokens that the document names. -/
import Derived.Test.YtljjaepadnmmeaaDoorAncA
namespace Go.Proofs.YtljjaepadnmmeaaDoor
open Go.RowKit Go.Maps Fld Ana Go.Shelf
attribute [local go_sem] Oper.semAt_some

theorem known1 : runL [1, 10, 11] [84, 104, 101, 32, 102, 111, 120, 32, 111, 102] = ([⟨[102, 111, 120], 1, 4, 7⟩], 0) := by decide +kernel
theorem known2 : runL [4] [230, 157, 177, 228, 186, 172, 233, 131, 189, 32, 120] = ([⟨[230, 157, 177, 228, 186, 172], 0, 0, 6⟩, ⟨[228, 186, 172, 233, 131, 189], 1, 3, 9⟩, ⟨[120], 2, 10, 11⟩], 0) := by decide +kernel
theorem known3 : runL [1, 13] [97, 98, 99, 100, 32, 97, 98] = ([⟨[97, 98, 99], 0, 0, 4⟩, ⟨[98, 99, 100], 0, 0, 4⟩, ⟨[97, 98], 1, 5, 7⟩], 0) := by decide +kernel
theorem known4 : runL [10] [] = ([], 60) := by decide +kernel
theorem tokSrc_new (W : World) (arr : Array Value) (l : List Tok) (n : Nat) (h : arr.toList = tokCells l) (hn : n = l.length) : TokSrc (W.alloc (.cells arr 43)) (.slice (some ⟨W.heap.size, 0, none⟩) n n) l := by
  refine ⟨_, n, by rw [hn], fun j u hu => ⟨W.heap.size, 0, rfl, ?_⟩⟩
  refine cell_of (heap_new W _) ?_
  rw [← h, Array.getElem?_toList] at hu
  rw [show (0 : Nat) + j = j by omega]; exact hu
theorem iSrc_new (W : World) (arr : Array Value) (c : List Int) (n : Nat) (h : arr.toList = c.map fun x => .int .i64 x) (hn : n = c.length) (hb : (n : Int) ≤ 1000) : ISrc (W.alloc (.cells arr 3)) (some ⟨W.heap.size, 0, none⟩) n c := by
  refine ⟨by omega, by omega, fun j x hx => ⟨W.heap.size, 0, rfl, ?_⟩⟩
  refine cell_of (heap_new W _) ?_
  have : arr.toList[j]? = some (.int .i64 x) := by rw [h, List.getElem?_map, hx]; rfl
  rw [Array.getElem?_toList] at this
  rw [show (0 : Nat) + j = j by omega]; exact this
theorem TokSrc.drewN {w : World} {v : Value} {l : List Tok} (h : TokSrc w v l) (k : Nat) : TokSrc (w.drewN k) v l := h.bw (bw_drew (BW.refl w) k)
/-- Run, of a chain in a new block -/
theorem run_new (w : World) (arr : Array Value) (c : List Int) (n : Nat) (h : arr.toList = c.map fun x => .int .i64 x) (hn : n = c.length) (hb : (n : Int) ≤ 1000) (s : List UInt8) (hN : NextOk w) {r : List Tok × Int} (hr : runL c s = r) :
    Calls Tryd.prog 10 #[.slice (some ⟨w.heap.size, 0, none⟩) n n, textV s] (w.alloc (.cells arr 3)) fun e w' => ∃ ao cap, e = .returned (.tuple #[.slice ao r.1.length cap, .int .i64 r.2]) ∧ w'.ownsRow w.heap.size 43 4 (.slice ao r.1.length cap) r.1.length (tokCells r.1) ∧ BW w w' := by
  have h1 := run_any (w.alloc (.cells arr 3)) (some ⟨w.heap.size, 0, none⟩) n c (iSrc_new w arr c n h hn hb) s (hN.bw (bw_alloc w _))
  rw [← hn, hr] at h1
  refine h1.mono ?_
  rintro e w' ⟨v, rfl, hrow, hq⟩
  obtain ⟨ao, cap, rfl⟩ := row4_form hrow
  exact ⟨ao, cap, rfl, row_base hrow (by rw [World.size_alloc]; omega), (bw_alloc w _).trans hq⟩
def TrueP (w : World) (e : Ending) (w' : World) : Prop := e = .returned (.bool true) ∧ BW w w'
theorem tokens_new {w0 W : World} {va : Value} {l : List Tok} (h : TokSrc w0 va l) (hb : BW w0 W) (arr : Array Value) (n : Nat) (ha : arr.toList = tokCells l) (hn : n = l.length) (hl : (l.length : Int) ≤ 1000000000000) :
    Calls Tryd.prog 12 #[va, .slice (some ⟨W.heap.size, 0, none⟩) n n] (W.alloc (.cells arr 43)) fun e w' => e = .returned (.bool true) ∧ BW W w' := by
  refine (tokens_any ((h.bw hb).bw (bw_alloc W _)) (tokSrc_new W arr l n ha hn) hl hl).mono ?_
  rintro e w' ⟨rfl, k, rfl⟩
  exact ⟨ret_bool (decide_eq_true rfl), bw_drew (bw_alloc W _) k⟩
set_option maxRecDepth 100000 in
set_option maxHeartbeats 4000000 in
theorem known_any (w : World) (hN : NextOk w) : Calls Tryd.prog 24 #[] w (TrueP w) := by
  have H1 := Lib.hid (fun W (hW : BW w W) => run_new W #[.int .i64 1, .int .i64 10, .int .i64 11] [1, 10, 11] 3 rfl rfl (by decide) _ (hN.bw hW) known1)
  have H2 := Lib.hid (fun W (hW : BW w W) => run_new W #[.int .i64 4] [4] 1 rfl rfl (by decide) _ (hN.bw hW) known2)
  have H3 := Lib.hid (fun W (hW : BW w W) => run_new W #[.int .i64 1, .int .i64 13] [1, 13] 2 rfl rfl (by decide) _ (hN.bw hW) known3)
  have H4 := Lib.hid (fun W (hW : BW w W) => run_new W #[.int .i64 10] [10] 1 rfl rfl (by decide) _ (hN.bw hW) known4)
  clear hN
  go_enter Tryd.func24, Tryd.ntmps24
  go_wp2_with fail
  refine (H1.out _ (BW.refl w)).mono ?_
  rintro e w1 ⟨ao1, cp1, rfl, hr1, hq1⟩
  have HR1 := Lib.hid hr1; have HQ1 := Lib.hid hq1
  clear hr1 hq1
  go_wp2_with fail
  refine (H2.out _ HQ1.out).mono ?_
  rintro e w2 ⟨ao2, cp2, rfl, hr2, hq2⟩
  have HR2 := Lib.hid hr2; have HQ2 := Lib.hid hq2
  clear hr2 hq2
  go_wp2_with fail
  refine (H3.out _ (HQ1.out.trans HQ2.out)).mono ?_
  rintro e w3 ⟨ao3, cp3, rfl, hr3, hq3⟩
  have HR3 := Lib.hid hr3; have HQ3 := Lib.hid hq3
  clear hr3 hq3
  go_wp2_with fail
  refine (H4.out _ ((HQ1.out.trans HQ2.out).trans HQ3.out)).mono ?_
  rintro e w4 ⟨ao4, cp4, rfl, hr4, hq4⟩
  have HQ4 := Lib.hid hq4
  have HT1 := Lib.hid (((tokSrc_of_row HR1.out).bw ((HQ2.out.trans HQ3.out).trans HQ4.out)))
  have HT2 := Lib.hid ((tokSrc_of_row HR2.out).bw (HQ3.out.trans HQ4.out))
  have HT3 := Lib.hid ((tokSrc_of_row HR3.out).bw HQ4.out)
  have HQA := Lib.hid (((HQ1.out.trans HQ2.out).trans HQ3.out).trans HQ4.out)
  clear hr4 hq4 HR1 HR2 HR3
  have HK1 := Lib.hid (fun W (hW : BW w4 W) => tokens_new HT1.out hW #[.string ⟨#[102, 111, 120]⟩, .int .i64 1, .int .i64 4, .int .i64 7] 1 rfl rfl (by decide))
  have HK2 := Lib.hid (fun W (hW : BW w4 W) => tokens_new HT2.out hW #[.string ⟨#[230, 157, 177, 228, 186, 172]⟩, .int .i64 0, .int .i64 0, .int .i64 6, .string ⟨#[228, 186, 172, 233, 131, 189]⟩, .int .i64 1, .int .i64 3, .int .i64 9, .string ⟨#[120]⟩, .int .i64 2, .int .i64 10, .int .i64 11] 3 rfl rfl (by decide))
  have HK3 := Lib.hid (fun W (hW : BW w4 W) => tokens_new HT3.out hW #[.string ⟨#[97, 98, 99]⟩, .int .i64 0, .int .i64 0, .int .i64 4, .string ⟨#[98, 99, 100]⟩, .int .i64 0, .int .i64 0, .int .i64 4, .string ⟨#[97, 98]⟩, .int .i64 1, .int .i64 5, .int .i64 7] 3 rfl rfl (by decide))
  clear HT1 HT2 HT3
  go_wp2_with fail
  refine (HK1.out _ (BW.refl w4)).mono ?_
  rintro e w5 ⟨rfl, hq5⟩
  have HQ5 := Lib.hid hq5
  clear hq5
  go_wp2_with fail
  refine (HK2.out _ HQ5.out).mono ?_
  rintro e w6 ⟨rfl, hq6⟩
  have HQ6 := Lib.hid (HQ5.out.trans hq6)
  clear hq6
  go_wp2_with fail
  refine (HK3.out _ HQ6.out).mono ?_
  rintro e w7 ⟨rfl, hq7⟩
  have HQ7 := Lib.hid (HQ6.out.trans hq7)
  clear hq7
  go_wp2
  go_ret
  exact ⟨rfl, HQA.out.trans HQ7.out⟩
end Go.Proofs.YtljjaepadnmmeaaDoor
