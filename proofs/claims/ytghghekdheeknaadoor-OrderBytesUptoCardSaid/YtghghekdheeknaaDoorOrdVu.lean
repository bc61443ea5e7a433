/- Stage 7, the program: a text read, the walk. -/
import Derived.Test.YtghghekdheeknaaDoorOrdVt
import Derived.Test.YtghghekdheeknaaDoorOrdH
namespace Go.Proofs.YtghghekdheeknaaDoor
open Go.RowKit Go.Maps Odr Go.Shelf
attribute [local go_sem] Oper.semAt_some

/-- where reading a text stands: what is left, what was written -/
structure TxI (w : World) (b : Nat) (l0 l acc : List UInt8) (W : World) : Prop where
  mv : Mv b w l W
  bld : Bld w.heap.size w.heap.size acc W
  len : acc.length + l.length ≤ l0.length
  back : unesc l0 = (unesc l).map fun p => (acc ++ p.1, p.2)
  here : w.heap.size < W.heap.size
theorem TxI.drew {w : World} {b : Nat} {l0 l acc : List UInt8} {W : World} (h : TxI w b l0 l acc W) : TxI w b l0 l acc W.drew := ⟨⟨h.mv.mv.drew, h.mv.blk, h.mv.lt⟩, h.bld, h.len, h.back, h.here⟩
theorem TxI.cell {w : World} {b : Nat} {l0 l acc : List UInt8} {W : World} (h : TxI w b l0 l acc W) : W.cell? ⟨b, 0, none⟩ = some (textV l) := cell_of h.mv.blk rfl
/-- behind what stands ahead of a 00 -/
structure TxM (w : World) (b : Nat) (l0 l acc : List UInt8) (W : World) : Prop where
  mv : Mv b w (l.dropWhile nz) W
  bld : Bld w.heap.size w.heap.size (acc ++ l.takeWhile nz) W
  len : acc.length + l.length ≤ l0.length
  back : unesc l0 = (unesc l).map fun p => (acc ++ p.1, p.2)
  here : w.heap.size < W.heap.size
theorem tw_len (l : List UInt8) : (l.takeWhile nz).length + (l.dropWhile nz).length = l.length := by
  have := congrArg List.length (tw_pre nz l); rw [List.length_append] at this; omega
/-- behind the closure's variable -/
structure TxB (w : World) (b : Nat) (l acc : List UInt8) (N : Nat) (W : World) : Prop where
  mv : Mv b w l W
  bld : Bld w.heap.size w.heap.size acc W
  cell : W.cell? ⟨N, 0, none⟩ = some (.int .u8 0)
  here : w.heap.size < W.heap.size
theorem TxB.drew {w : World} {b N : Nat} {l acc : List UInt8} {W : World} (h : TxB w b l acc N W) : TxB w b l acc N W.drew := ⟨⟨h.mv.mv.drew, h.mv.blk, h.mv.lt⟩, h.bld, h.cell, h.here⟩
theorem TxI.box {w : World} {b : Nat} {l0 l acc : List UInt8} {W : World} (h : TxI w b l0 l acc W) : TxB w b l acc W.heap.size (W.alloc (.cells #[.int .u8 0] 5)) :=
  ⟨h.mv.alloc _, bld_alloc h.bld _, cell_of (heap_new W _) rfl, by have := h.here; simp; omega⟩
/-- taking all ahead of a 00 -/
theorem tx_take {w : World} {b N : Nat} {l acc : List UInt8} {W : World} (h : TxB w b l acc N W) (hl : (l.length : Int) ≤ 4611686018427387904) :
    Calls Tryd.prog 49 #[.pointer (some ⟨b, 0, none⟩), .int .i64 (l.length : Int), .func (.func 99) #[] #[.pointer (some ⟨N, 0, none⟩)]] W fun e W' => e = .returned (textV (l.takeWhile nz)) ∧ Mv b w (l.dropWhile nz) W' ∧ Bld w.heap.size w.heap.size acc W' ∧ w.heap.size < W'.heap.size := by
  have h1 := take_mv (m := l.length) e_but h.mv hl hl (tells_but (w := W) (B := N) (o := 0) h.cell)
  have e1 : (fun c : UInt8 => c != 0) = nz := rfl
  rw [e1, (tk_full nz l).1, (tk_full nz l).2] at h1
  refine h1.mono ?_
  rintro e W' ⟨rfl, h2, rfl⟩
  refine ⟨rfl, h2, bld_rd h.bld h.mv.blk _, ?_⟩
  have := h.here
  simp [World.setCell]; omega
theorem tx_write {w : World} {b : Nat} {l0 l acc : List UInt8} {W0 W : World} (h : TxI w b l0 l acc W0) (hm : Mv b w (l.dropWhile nz) W) (hb : Bld w.heap.size w.heap.size acc W) (hs : w.heap.size < W.heap.size) (hl : (l0.length : Int) ≤ 140737488355000) :
    Calls Tryd.prog 57 #[.pointer (some ⟨w.heap.size, 0, none⟩), textV (l.takeWhile nz)] W fun e W' => (∃ x, e = .returned (.tuple #[x, .nilIface])) ∧ TxM w b l0 l acc W' := by
  have h1 := tw_len l
  have h2 := h.len
  refine (writeString_any w.heap.size w.heap.size acc (l.takeWhile nz) W hb (by omega) (by omega)).mono ?_
  rintro e W' ⟨rfl, h3, h4, _⟩
  exact ⟨⟨_, rfl⟩, hm.below h4, h3, h.len, h.back, Nat.lt_of_lt_of_le hs h4.size⟩
theorem take_each3 {b m : Nat} {l : List UInt8} {w0 w : World} (hb : Mv b w0 l w) (hm : (m : Int) ≤ 4611686018427387904) (hl : (l.length : Int) ≤ 4611686018427387904) {x : List UInt8} (hx : l.take m = x) :
    Calls Tryd.prog 49 #[.pointer (some ⟨b, 0, none⟩), .int .i64 (m : Int), .func (.func 60) #[] #[]] w fun e W => e = .returned (textV x) ∧ Mv b w0 (l.drop m) W ∧ W = w.setCell ⟨b, 0, none⟩ (textV (l.drop m)) := by
  have h := take_mv e_each hb hm hl (tells_each w)
  rw [(tk_true m l).1, (tk_true m l).2, hx] at h
  exact h
def leftOf (b : Nat) (W : World) : Nat := match W.cell? ⟨b, 0, none⟩ with
  | some (.string s) => s.size
  | _ => 0
theorem TxI.left {w : World} {b : Nat} {l0 l acc : List UInt8} {W : World} (h : TxI w b l0 l acc W) : leftOf b W = l.length := by
  unfold leftOf; rw [h.cell]; exact text_size l
set_option maxRecDepth 100000 in
set_option maxHeartbeats 2000000 in
theorem rtext_any {b : Nat} {l0 : List UInt8} {w : World} (hb : w.heap[b]? = some (rdr l0)) (hl : (l0.length : Int) ≤ 140737488355000) : Calls Tryd.prog 62 #[.pointer (some ⟨b, 0, none⟩)] w (TextPost b w (unesc l0)) := by
  have hb0 := lt_of_heap hb
  have HST : Hid (TxI w b l0 l0 [] (w.alloc (.cells #[.pointer none, .slice none 0 0] 71))) :=
    ⟨(Mv.begin hb).alloc _, bld_fresh (heap_new w _) (Nat.le_refl _), by simp, by cases unesc l0 <;> simp, by simp⟩
  have HL := Lib.hid hl
  clear hb hl
  go_enter Tryd.func62, Tryd.ntmps62
  go_wp2
  generalize w.alloc _ = W1 at HST ⊢
  go_loopw [5] (fun s5 wr => s5 = s5 ∧ ∃ (l acc : List UInt8), TxI w b l0 l acc wr) (fun _ wr => leftOf b wr)
  case atStart => exact ⟨rfl, _, _, HST.out⟩
  case round =>
    obtain ⟨-, l, acc, hst⟩ := hrel
    have HI := Lib.hid hst
    have hcell := hst.cell
    obtain ⟨tx, htx⟩ : ∃ tx, tx = ByteArray.mk l.toArray := ⟨_, rfl⟩
    have hts : tx.size = l.length := by rw [htx]; exact text_size l
    have vt : textV l = .string tx := by rw [htx]; rfl
    have hsz : (tx.size : Int) ≤ 140737488355000 := by have := hst.len; have := HL.out; omega
    have hbl : b < wr.heap.size := Nat.lt_of_lt_of_le hb0 hst.mv.mv.size
    have hbn : ¬ b = wr.heap.size := by omega
    rw [vt] at hcell
    obtain ⟨ty, hty⟩ : ∃ ty, textV (l.takeWhile nz) = .string ty := ⟨_, rfl⟩
    have HTK : Hid (∀ Z N, TxB w b l acc N Z → Calls Tryd.prog 49 #[.pointer (some ⟨b, 0, none⟩), .int .i64 (tx.size : Int), .func (.func 99) #[] #[.pointer (some ⟨N, 0, none⟩)]] Z fun e W' => e = .returned (.string ty) ∧ Mv b w (l.dropWhile nz) W' ∧ Bld w.heap.size w.heap.size acc W' ∧ w.heap.size < W'.heap.size) := fun Z N hz => by
      rw [hts, ← hty]; exact tx_take hz (by have := HL.out; have := HI.out.len; omega)
    have HWR : Hid (∀ Z, Mv b w (l.dropWhile nz) Z → Bld w.heap.size w.heap.size acc Z → w.heap.size < Z.heap.size → Calls Tryd.prog 57 #[.pointer (some ⟨w.heap.size, 0, none⟩), .string ty] Z fun e W' => (∃ x, e = .returned (.tuple #[x, .nilIface])) ∧ TxM w b l0 l acc W') := fun Z h1 h2 h3 => by
      rw [← hty]; exact tx_write HI.out h1 h2 h3 HL.out
    clear htx hts vt hst hty
    go_wp2
    go_region_with (first
      | (go_at_call 83; refine (but_any _ _).mono ?_; rintro e Wb ⟨rfl, rfl⟩)
      | (go_at_call 49; refine (HTK.out _ _ (by first | exact HI.out.box | exact HI.out.box.drew | exact HI.out.drew.box | exact HI.out.drew.box.drew)).mono ?_; rintro e Wt ⟨rfl, m1, m2, m3⟩; have M1 := Lib.hid m1; have M2 := Lib.hid m2; have M3 := Lib.hid m3; clear m1 m2 m3)
      | (go_at_call 57; refine (HWR.out _ M1.out M2.out M3.out).mono ?_; rintro e Ww ⟨⟨x, rfl⟩, mm⟩; have MM := Lib.hid mm; clear mm))
    all_goals
      obtain ⟨r, hr⟩ : ∃ r, r = l.dropWhile nz := ⟨_, rfl⟩
      obtain ⟨t, ht⟩ : ∃ t, t = l.takeWhile nz := ⟨_, rfl⟩
      have hun := unesc_run l
      have htl := tw_len l
      rw [← hr, ← ht] at hun htl
      have hlen := MM.out.len
      have hback := MM.out.back
      have hmv := MM.out.mv
      have hbld := MM.out.bld
      have hhere := MM.out.here
      rw [← hr] at hmv
      rw [← ht] at hbld
      have HM := Lib.hid hmv
      have HB0 := Lib.hid hbld
      have HH := Lib.hid hhere
      have HLF : Hid (leftOf b wr = l.length) := HI.out.left
      clear MM HTK HWR hcell hsz hbl hbn hr ht hmv hbld hhere
      rcases (show (∃ s, r = 0 :: 255 :: s) ∨ (∃ s, r = 0 :: 1 :: s) ∨ (unesc l = none ∧ r.take 2 ≠ [0, 255] ∧ r.take 2 ≠ [0, 1]) by
        match r, hun with
        | [], h => exact .inr (.inr ⟨h, by simp, by simp⟩)
        | [_], h => exact .inr (.inr ⟨h, by simp, by simp⟩)
        | c :: d :: s, h =>
          simp only at h
          by_cases h1 : c.toNat = 0 ∧ d.toNat = 1
          · obtain ⟨e1, e2⟩ := h1
            have : c = 0 := UInt8.toNat_inj.1 (by rw [e1]; rfl)
            subst this
            have : d = 1 := UInt8.toNat_inj.1 (by rw [e2]; rfl)
            subst this
            exact .inr (.inl ⟨s, rfl⟩)
          · by_cases h2 : c.toNat = 0 ∧ d.toNat = 255
            · obtain ⟨e1, e2⟩ := h2
              have : c = 0 := UInt8.toNat_inj.1 (by rw [e1]; rfl)
              subst this
              have : d = 255 := UInt8.toNat_inj.1 (by rw [e2]; rfl)
              subst this
              exact .inl ⟨s, rfl⟩
            · rw [if_neg h1, if_neg h2] at h
              refine .inr (.inr ⟨h, fun e => h2 ?_, fun e => h1 ?_⟩)
              · simp at e; rw [e.1, e.2]; exact ⟨rfl, rfl⟩
              · simp at e; rw [e.1, e.2]; exact ⟨rfl, rfl⟩) with ⟨s, rfl⟩ | ⟨s, rfl⟩ | ⟨hnone, hn1, hn2⟩
      · have hun2 : unesc l = (unesc s).map fun p => (t ++ (0 :: p.1), p.2) := by
          rw [hun]; exact if_neg (by decide)
        have HT3 : Hid (Calls Tryd.prog 49 #[.pointer (some ⟨b, 0, none⟩), .int .i64 2, .func (.func 60) #[] #[]] Ww fun e W => e = .returned (.string ⟨#[0, 255]⟩) ∧ Mv b w s W ∧ W = Ww.setCell ⟨b, 0, none⟩ (textV s)) := take_each3 (m := 2) HM.out (by decide) (by have := HL.out; simp at htl ⊢; omega) rfl
        have HLN : Hid (((acc ++ t) ++ [0]).length + s.length ≤ l0.length ∧ s.length + 2 ≤ l.length) := by
          unfold Hid; simp only [List.length_append, List.length_cons, List.length_nil] at htl ⊢; omega
        have HBK : Hid (unesc l0 = (unesc s).map fun p => (((acc ++ t) ++ [0]) ++ p.1, p.2)) := by
          unfold Hid; rw [hback, hun2]
          cases unesc s with
          | none => rfl
          | some p => simp
        clear hun hun2 htl hlen hback
        go_wp2_with fail
        refine HT3.out.mono ?_
        rintro e W3 ⟨rfl, m1, hW3⟩
        have HW3 : Hid (Bld w.heap.size w.heap.size (acc ++ t) W3 ∧ w.heap.size < W3.heap.size) := by
          unfold Hid; rw [hW3]; exact ⟨bld_rd HB0.out HM.out.blk _, by have := HH.out; simp [World.setCell]; omega⟩
        have M1 := Lib.hid m1
        have HWB := Lib.hid (writeByte_any w.heap.size w.heap.size (acc ++ t) 0 W3 HW3.out.1 (by have h1 := HLN.out.1; have h2 := HL.out; rw [List.length_append] at h1; simp only [List.length_cons, List.length_nil] at h1; omega) (by have := HW3.out.2; omega))
        clear m1 hW3 HT3
        go_wp2_with fail
        refine HWB.out.mono ?_
        rintro e W4 ⟨rfl, b1, b2, _⟩
        have HTX : Hid (TxI w b l0 s ((acc ++ t) ++ [0]) W4) := ⟨M1.out.below b2, b1, HLN.out.1, HBK.out, Nat.lt_of_lt_of_le HW3.out.2 b2.size⟩
        clear b1 b2 HWB HB0 HM
        go_wp2
        go_roundw
        case rel => exact ⟨by first | rfl | trivial, _, _, HTX.out⟩
        case measure => rw [HTX.out.left, HLF.out]; have := HLN.out.2; omega
      · have hun2 : unesc l = some (t, s) := by rw [hun]; exact if_pos (by decide)
        have hres : unesc l0 = some (acc ++ t, s) := by rw [hback, hun2]; rfl
        have HT3 : Hid (Calls Tryd.prog 49 #[.pointer (some ⟨b, 0, none⟩), .int .i64 2, .func (.func 60) #[] #[]] Ww fun e W => e = .returned (.string ⟨#[0, 1]⟩) ∧ Mv b w s W ∧ W = Ww.setCell ⟨b, 0, none⟩ (textV s)) := take_each3 (m := 2) HM.out (by decide) (by have := HL.out; simp at htl ⊢; omega) rfl
        have HRES := Lib.hid hres
        clear hun hun2 htl hlen hback hres
        go_wp2_with fail
        refine HT3.out.mono ?_
        rintro e W3 ⟨rfl, m1, hW3⟩
        have HW3 : Hid (Bld w.heap.size w.heap.size (acc ++ t) W3 ∧ w.heap.size < W3.heap.size) := by
          unfold Hid; rw [hW3]; exact ⟨bld_rd HB0.out HM.out.blk _, by have := HH.out; simp [World.setCell]; omega⟩
        have M1 := Lib.hid m1
        have HSB := Lib.hid (bString_any w.heap.size w.heap.size (acc ++ t) W3 HW3.out.1 (by have := HW3.out.2; omega))
        clear m1 hW3 HT3
        go_wp2_with fail
        refine HSB.out.mono ?_
        rintro e W4 ⟨rfl, b2, _⟩
        have M2 : Hid (Mv b w s W4) := M1.out.below b2
        clear b2 HSB HB0 HM
        go_wp2
        go_ret2
        rw [HRES.out]
        exact ⟨rfl, M2.out⟩
      · have hres : unesc l0 = none := by rw [hback, hnone]; rfl
        obtain ⟨x2, hx2⟩ : ∃ x2, r.take 2 = x2 := ⟨_, rfl⟩
        obtain ⟨t2, ht2⟩ : ∃ t2, t2 = ByteArray.mk x2.toArray := ⟨_, rfl⟩
        have v2 : textV x2 = .string t2 := by rw [ht2]; rfl
        have e2 : t2.toList = x2 := by rw [ht2]; exact text_list x2
        have hne1 : (t2.toList == [0, 255]) = false := by rw [e2, ← hx2]; exact beq_eq_false_iff_ne.2 hn1
        have hne2 : (t2.toList == [0, 1]) = false := by rw [e2, ← hx2]; exact beq_eq_false_iff_ne.2 hn2
        have HT3 : Hid (Calls Tryd.prog 49 #[.pointer (some ⟨b, 0, none⟩), .int .i64 2, .func (.func 60) #[] #[]] Ww fun e W => e = .returned (.string t2) ∧ Mv b w (r.drop 2) W ∧ W = Ww.setCell ⟨b, 0, none⟩ (textV (r.drop 2))) := by
          rw [← v2]; exact take_each3 (m := 2) HM.out (by decide) (by have := HL.out; omega) hx2
        have HRES := Lib.hid hres
        clear hun htl hlen hback hres hnone hn1 hn2 hx2 ht2 v2 e2
        go_wp2_with fail
        refine HT3.out.mono ?_
        rintro e W3 ⟨rfl, m1, -⟩
        have M1 := Lib.hid m1
        clear m1 HT3
        go_wp2
        go_ret2
        rw [HRES.out]
        exact ⟨rfl, _, M1.out⟩
end Go.Proofs.YtghghekdheeknaaDoor
