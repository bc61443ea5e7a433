/- Stage 7, the program: Keys, the walk. -/
import Derived.Test.YtghghekdheeknaaDoorOrdVr
import Derived.Test.YtghghekdheeknaaDoorOrdI
namespace Go.Proofs.YtghghekdheeknaaDoor
open Go.RowKit Go.Maps Odr Go.Shelf
attribute [local go_sem] Oper.semAt_some

theorem KsI.left {w : World} {l0 l : List UInt8} {ks : List PKey} {b : Nat} {v : Value} {W : World} (h : KsI w l0 l ks b v W) : leftOf b W = l.length := by
  unfold leftOf; rw [cell_of h.blk (v := textV l) rfl]; exact text_size l
def ptrBlk : Value → Nat
  | .pointer (some a) => a.block
  | _ => 0
/-- one key more, behind the copy of the reader -/
theorem KsI.next {w : World} {l0 l t : List UInt8} {ks : List PKey} {k : PKey} {b : Nat} {v v' : Value} {W W2 W5 : World} (h : KsI w l0 l ks b v W) (hr : readK l = some (k, t))
    (h2 : BW w W2) (hb2 : W2.heap[b]? = some (rdr t)) {z : World} (hz : z = (W2.alloc (.cells #[.int .i64 k.kind, .int .i64 k.num, textV k.text] 45)).alloc (.cells #[.int .i64 k.kind, .int .i64 k.num, textV k.text] 45)) (hrow : z.ownsRow w.heap.size 45 3 v ks.length (keyCells ks))
    (h5 : W5.ownsRow w.heap.size 45 3 v' (ks.length + 1) (keyCells (ks ++ [k]))) (hg : z.grownBy W5 v.ownBlock) :
    W5.heap[b]? = some (rdr t) ∧ KsI w l0 t (ks ++ [k]) W5.heap.size v' (W5.alloc (.cells #[textV t] 76)) := by
  have hbz : z.heap[b]? = some (rdr t) := by
    rw [hz]; exact (Below.heap_alloc _ _ _ (by have := lt_of_heap hb2; simp; omega)).trans ((Below.heap_alloc _ _ _ (lt_of_heap hb2)).trans hb2)
  have hne : v.ownBlock ≠ some b := by
    intro e
    obtain ⟨_, c', fz, hh⟩ := row_type hrow e
    rw [hbz] at hh
    injection hh with hh
    injection hh with _ h2 _
    exact absurd h2 (by decide)
  have hbw : BW w z := by rw [hz]; exact (h2.alloc _).alloc _
  have hb5 : BW w W5 := RowKit.Below.grown hbw hg hbw.size (fun j e => (row_type hrow e).1)
  refine ⟨(hg.block b (lt_of_heap hbz) (fun e => hne e.symm)).trans hbz, hb5.alloc _, heap_new W5 _, hb5.size, ?_, ?_, ?_⟩
  · rw [List.length_append]; exact row_alloc h5 _
  · rw [h.back, keysK_some hr]
    cases keysK t with
    | none => rfl
    | some x => simp
  · have h1 := h.len
    have h3 := read_less hr
    rw [List.length_append]; simp; omega
set_option maxRecDepth 100000 in
set_option maxHeartbeats 2000000 in
theorem keys_any (l0 : List UInt8) (hl : (l0.length : Int) ≤ 3000000000000) (w : World) : Calls Tryd.prog 17 #[textV l0] w (KeysPost w (keysR l0)) := by
  obtain ⟨t0, ht0⟩ : ∃ t0, t0 = ByteArray.mk l0.toArray := ⟨_, rfl⟩
  have v0 : textV l0 = .string t0 := by rw [ht0]; rfl
  have HST : Hid (KsI w l0 l0 [] w.heap.size (.slice none 0 0) (w.alloc (.cells #[.string t0] 76))) := by
    rw [← v0]
    exact ⟨bw_alloc w _, heap_new w _, Nat.le_refl _, row_alloc (World.ownsRow_nil _ _ _ _) _, by cases keysK l0 <;> simp, by simp⟩
  have HL := Lib.hid hl
  rw [v0]
  clear hl v0 ht0
  go_enter Tryd.func17, Tryd.ntmps17
  go_wp2
  generalize w.alloc _ = W1 at HST ⊢
  go_loopw [4, 5] (fun s4 s5 wr => ∃ (l : List UInt8) (ks : List PKey) (b : Nat) (v : Value), s5 = .pointer (some ⟨b, 0, none⟩) ∧ s4 = v ∧ KsI w l0 l ks b v wr) (fun _ s5 wr => leftOf (ptrBlk s5) wr)
  case atStart => exact ⟨l0, [], w.heap.size, _, rfl, rfl, HST.out⟩
  case round =>
    obtain ⟨l, ks, b, v, rfl, rfl, hI⟩ := hrel
    obtain ⟨ao, sl, sc, rfl⟩ := row_form hI.row
    have HI := Lib.hid hI
    obtain ⟨tx, htx⟩ : ∃ tx, tx = ByteArray.mk l.toArray := ⟨_, rfl⟩
    have vt : textV l = .string tx := by rw [htx]; rfl
    have hcell : wr.cell? ⟨b, 0, none⟩ = some (.string tx) := by rw [← vt]; exact cell_of hI.blk rfl
    have il : tx.toList = l := by rw [htx]; exact text_list l
    by_cases hnil : l = []
    · have e1 : tx.toList = [] := by rw [il, hnil]
      have e2 : tx.toList.isEmpty = true := by rw [e1]; rfl
      have HRES : Hid (keysR l0 = (ks, 0)) := by
        unfold Hid keysR
        rw [hI.back, hnil, keysK_nil]; simp
      clear hI htx vt il hnil
      go_wp2
      go_ret2
      rw [HRES.out]
      exact ⟨_, rfl, HI.out.row, HI.out.bw⟩
    · have e1 : ¬ tx.toList = [] := by rw [il]; exact hnil
      have e2 : tx.toList.isEmpty = false := by
        cases h : tx.toList with
        | nil => exact absurd h e1
        | cons _ _ => rfl
      have HK := Lib.hid (key_any hI.blk (by have := hI.len; have := HL.out; omega))
      cases hr : readK l with
      | none =>
        rw [hr] at HK
        have HRES : Hid (keysR l0 = ([], 1)) := by
          unfold Hid keysR
          rw [hI.back, keysK_none hnil hr]; rfl
        have HK2 : Hid (Calls Tryd.prog 43 #[.pointer (some ⟨b, 0, none⟩)] wr fun e W' => (∃ x y z, e = .returned (.tuple #[.agg #[.int .i64 x, .int .i64 y, .string z], .bool false])) ∧ ∃ r, Mv b wr r W') := HK.out.mono fun e W' ⟨⟨k, h1⟩, h2⟩ => ⟨⟨k.kind, k.num, _, h1⟩, h2⟩
        clear hI htx vt il hnil hr HK
        go_wp2_with fail
        refine HK2.out.mono ?_
        rintro e W2 ⟨⟨kx, ky, kz, rfl⟩, r, h2⟩
        have H2 := Lib.hid (HI.out.on h2)
        clear h2 HK2
        go_wp2
        go_ret2
        rw [HRES.out]
        exact ⟨_, rfl, World.ownsRow_nil _ _ _ _, H2.out.1.alloc _⟩
      | some p =>
        obtain ⟨k, t⟩ := p
        rw [hr] at HK
        have HR := Lib.hid hr
        obtain ⟨tk', htk⟩ : ∃ tk', textV k.text = .string tk' := ⟨_, rfl⟩
        obtain ⟨ts, hts⟩ : ∃ ts, textV t = .string ts := ⟨_, rfl⟩
        have HK2 : Hid (Calls Tryd.prog 43 #[.pointer (some ⟨b, 0, none⟩)] wr fun e W' => e = .returned (.tuple #[.agg #[.int .i64 k.kind, .int .i64 k.num, .string tk'], .bool true]) ∧ Mv b wr t W') := by
          rw [← htk]; exact HK.out
        have HTK := Lib.hid htk; have HTS := Lib.hid hts
        clear hI htx vt il hnil hr HK htk hts
        go_wp2_with fail
        refine HK2.out.mono ?_
        rintro e W2 ⟨rfl, h2⟩
        have H2 := Lib.hid (HI.out.on h2)
        clear h2 HK2
        obtain ⟨Wz, hWz⟩ : ∃ Wz, Wz = (W2.alloc (.cells #[.int .i64 k.kind, .int .i64 k.num, .string tk'] 45)).alloc (.cells #[.int .i64 k.kind, .int .i64 k.num, .string tk'] 45) := ⟨_, rfl⟩
        have HWZ := Lib.hid hWz
        have HZR : Hid (Wz.ownsRow w.heap.size 45 3 (.slice ao sl sc) ks.length (keyCells ks)) := by unfold Hid; rw [hWz]; exact row_alloc (row_alloc H2.out.2.2 _) _
        have HZS : Hid (w.heap.size ≤ Wz.heap.size) := by
          unfold Hid; rw [hWz]; have := H2.out.1.size; simp; omega
        have HZK : Hid (KRow Wz (.slice (some ⟨W2.heap.size + 1, 0, none⟩) 1 1) [k]) := by
          unfold Hid; rw [hWz, ← HTK.out]
          have := key_new (W2.alloc (.cells #[.int .i64 k.kind, .int .i64 k.num, textV k.text] 45)) k
          rw [World.size_alloc] at this
          exact ⟨this, fun n c e => by cases e⟩
        have HKL : Hid (ks.length + [k].length ≤ 4000000000000) := by unfold Hid; have := HI.out.len; have := HL.out; simp; omega
        have HWT : Hid (Wz = (W2.alloc (.cells #[.int .i64 k.kind, .int .i64 k.num, textV k.text] 45)).alloc (.cells #[.int .i64 k.kind, .int .i64 k.num, textV k.text] 45)) := by unfold Hid; rw [hWz, HTK.out]
        clear hWz
        go_wp2_with (at_builtin; rw [← HWZ.out]; refine append_keys rfl _ _ rfl rfl HZR.out HZS.out rfl HZK.out HKL.out ?_; intro v5 W5 ho5 hg5 _; have HN5 := Lib.hid (HI.out.next HR.out H2.out.1 H2.out.2.1 HWT.out HZR.out ho5 hg5); have hc5 : W5.cell? ⟨b, 0, none⟩ = some (.string ts) := (by rw [← HTS.out]; exact cell_of HN5.out.1 rfl); clear ho5 hg5)
        have HNX : Hid (KsI w l0 t (ks ++ [k]) W5.heap.size v5 (W5.alloc (.cells #[.string ts] 76))) := by unfold Hid; rw [← HTS.out]; exact HN5.out.2
        go_roundw
        case rel => exact ⟨t, ks ++ [k], _, _, rfl, by first | rfl | trivial, HNX.out⟩
        case measure => show leftOf _ _ < leftOf _ _; rw [show leftOf (ptrBlk (.pointer (some ⟨W5.heap.size, 0, none⟩))) _ = t.length from HNX.out.left, show leftOf (ptrBlk (.pointer (some ⟨b, 0, none⟩))) _ = l.length from HI.out.left]; exact read_less HR.out
end Go.Proofs.YtghghekdheeknaaDoor
