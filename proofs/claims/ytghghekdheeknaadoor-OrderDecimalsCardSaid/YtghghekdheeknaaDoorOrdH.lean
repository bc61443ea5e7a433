/- Stage 7, the program: Bytes. -/
import Derived.Test.YtghghekdheeknaaDoorOrdF
import Derived.Test.YtghghekdheeknaaDoorOrdG
namespace Go.Proofs.YtghghekdheeknaaDoor
open Go.RowKit Go.Maps Odr Go.Shelf
attribute [local go_sem] Oper.semAt_some

theorem bld_fresh {B b : Nat} {w : World} (h : w.heap[b]? = some (.cells #[.pointer none, .slice none 0 0] 71 (0, 0))) (hB : B ≤ b) : Bld B b [] w :=
  .inl ⟨hB, _, h, World.ownsRowF_of ⟨rfl, .inl ⟨rfl, rfl⟩⟩, by simp [Value.ownBlock]⟩
def bytesR (l : List PKey) : List UInt8 × Int := if l.all rightB = true then (bytesK l, 0) else ([], 1)
def wt (l : List PKey) : Nat := (l.map fun k => 2 * k.text.length + 16).sum
theorem one_le (k : PKey) : (oneK k).length ≤ 2 * k.text.length + 16 := by
  unfold oneK
  rw [List.length_cons]
  split
  · rw [be_len]; omega
  · split
    · have := esc_len k.text; rw [List.length_append]; simp; omega
    · simp
theorem bytesK_le : ∀ l : List PKey, (bytesK l).length ≤ wt l
  | [] => Nat.zero_le _
  | k :: l => by
    have h1 := one_le k
    have h2 := bytesK_le l
    unfold bytesK wt at h2 ⊢
    rw [List.flatMap_cons, List.length_append, List.map_cons, List.sum_cons]; omega
theorem bytesK_snoc {l : List PKey} {i : Nat} (h : i < l.length) : bytesK (l.take (i + 1)) = bytesK (l.take i) ++ oneK l[i] := by
  rw [List.take_add_one, List.getElem?_eq_getElem h, Option.toList_some]; unfold bytesK; rw [List.flatMap_append]; simp
theorem wt_at : ∀ {l : List PKey} {i : Nat} (h : i < l.length), (bytesK (l.take i)).length + 2 * l[i].text.length + 16 ≤ wt l
  | [], _, h => by simp at h
  | k :: l, 0, _ => by unfold wt; simp [bytesK]
  | k :: l, i + 1, h => by
    have h1 := one_le k
    have h2 := wt_at (l := l) (i := i) (by simpa using h)
    unfold bytesK wt at h2 ⊢
    rw [List.take_succ_cons, List.flatMap_cons, List.length_append, List.map_cons, List.sum_cons, List.getElem_cons_succ]; omega
def BytesPost (w : World) (r : List UInt8 × Int) (e : Ending) (w' : World) : Prop := e = .returned (.tuple #[textV r.1, .int .i64 r.2]) ∧ BW w w'
set_option maxRecDepth 100000 in
set_option maxHeartbeats 1000000 in
theorem bytes_any {w : World} {v : Value} {l : List PKey} (h : KSrc w v l) (hl : (l.length : Int) ≤ 1000000000000000) (hw : wt l ≤ 140737488355328) (hn : ∀ k ∈ l, i64 k.num) :
    Calls Tryd.prog 15 #[v] w (BytesPost w (bytesR l)) := by
  obtain ⟨ao, cp, rfl⟩ := h.form
  have HK := Lib.hid h.bel
  obtain ⟨n, hnn⟩ : ∃ n, n = l.length := ⟨_, rfl⟩
  rw [← hnn] at hl HK ⊢
  have HN := Lib.hid hnn; have HWT := Lib.hid hw; have HI := Lib.hid hn
  have HR := Lib.hid (fun k W => right_any k W)
  clear h hnn hw hn
  obtain ⟨q, hq⟩ : ∃ q, q = bytesR l := ⟨_, rfl⟩
  rw [← hq]
  have HQ := Lib.hid hq
  clear hq
  go_enter Tryd.func15, Tryd.ntmps15
  go_wp2
  go_loopw [11] (fun s11 wr => ∃ (i : Nat), i ≤ n ∧ s11 = .int .i64 (i : Int) ∧ BW w wr ∧ ∀ j (h1 : j < l.length), j < i → rightB l[j] = true) (fun s11 _ => n - (intOf s11).toNat)
  case atStart => exact ⟨0, Nat.zero_le _, rfl, BW.refl _, fun j _ h => by omega⟩
  case round =>
    obtain ⟨i, hi, rfl, hbw, hz⟩ := hrel
    have HZ := Lib.hid hz
    have HBW := Lib.hid hbw
    have HKR := Lib.hid (HK.out.on hbw)
    clear hz hbw
    have hi0 : 0 ≤ (i : Int) := by omega
    by_cases hlt : i < n
    · have hlti : (i : Int) < (n : Int) := by omega
      have h1 : i < l.length := by rw [← HN.out]; exact hlt
      obtain ⟨ba, oa, e1, a0, a1, a2⟩ := HKR.out.src.cells h1
      subst e1
      obtain ⟨x, hx⟩ : ∃ x, x = l[i] := ⟨_, rfl⟩
      rw [← hx] at a0 a1 a2
      obtain ⟨tx, htx⟩ : ∃ tx, textV x.text = .string tx := ⟨_, rfl⟩
      rw [htx] at a2
      have hba : ba < wr.heap.size := cell_lt a0
      have HC : Hid (∀ W, Calls Tryd.prog 23 #[.agg #[.int .i64 x.kind, .int .i64 x.num, .string tx]] W (BwVal (.bool (rightB x)) W)) := fun W => by
        have := HR.out x W
        unfold keyV at this
        rw [htx] at this; exact this
      have HX := Lib.hid hx
      have HLT := Lib.hid hlt
      have H1 := Lib.hid h1
      clear htx hlt hi HR
      cases hb : rightB x with
      | true =>
        rw [hb] at HC
        have HALL : Hid (∀ j (h1 : j < l.length), j < i + 1 → rightB l[j] = true) := fun j g1 hj => by
          by_cases e : j < i
          · exact HZ.out j g1 e
          · obtain rfl : j = i := by omega
            rw [← HX.out]; exact hb
        clear hx h1 hb HX
        go_wp2_with fail
        refine (HC.out _).mono ?_
        rintro e w' ⟨rfl, hw⟩
        have HW := Lib.hid hw
        clear hw
        go_wp2
        go_roundw
        case rel => exact ⟨i + 1, HLT.out, by first | rfl | go_num, (HBW.out.alloc _).trans HW.out, HALL.out⟩
        case measure => simp [intOf]; have := HLT.out; omega
      | false =>
        rw [hb] at HC
        have hr : q = ([], 1) := by
          rw [HQ.out]; unfold bytesR
          rw [if_neg]
          intro h
          rw [List.all_eq_true] at h
          have := h x (by rw [HX.out]; exact List.getElem_mem _)
          rw [hb] at this; cases this
        subst hr
        clear hx h1 hb HX HQ
        go_wp2_with fail
        refine (HC.out _).mono ?_
        rintro e w' ⟨rfl, hw⟩
        have HW := Lib.hid hw
        clear hw
        go_wp2
        go_ret2
        exact ⟨rfl, (HBW.out.alloc _).trans HW.out⟩
    · have hlti : (n : Int) ≤ (i : Int) := by omega
      have HALL : Hid (∀ k ∈ l, rightB k = true) := fun k hk => by
        obtain ⟨j, hj, rfl⟩ := List.mem_iff_getElem.1 hk
        exact HZ.out j hj (by have := HN.out; omega)
      have hr : q = (bytesK l, 0) := by
        rw [HQ.out]; unfold bytesR
        rw [if_pos (List.all_eq_true.2 HALL.out)]
      subst hr
      have HBW0 := Lib.hid HBW.out
      have dn : decide (i < n) = false := decide_eq_false (by omega)
      clear hlt hi HQ HR HZ
      go_upto_region 8 with (fail)
      obtain ⟨W2, hW2⟩ : ∃ W2, W2 = wr.alloc (.cells #[.pointer none, .slice none 0 0] 71) := ⟨_, rfl⟩
      rw [← hW2]
      obtain ⟨b, hb⟩ : ∃ b, b = wr.heap.size := ⟨_, rfl⟩
      rw [← hb]
      have HB2 : Hid (BW w W2) := by unfold Hid; rw [hW2]; exact HBW0.out.alloc _
      have HBL2 : Hid (Bld w.heap.size b [] W2) := by
        unfold Hid; rw [hW2, hb]; exact bld_fresh (heap_new wr _) HBW0.out.size
      clear hW2 hb HKR HBW HBW0
      go_wp2
      go_loopw [21] (fun s21 wx => ∃ (i : Nat), i ≤ n ∧ s21 = .int .i64 (i : Int) ∧ BW w wx ∧ Bld w.heap.size b (bytesK (l.take i)) wx) (fun s21 _ => n - (intOf s21).toNat)
      case atStart => exact ⟨0, Nat.zero_le _, rfl, HB2.out, HBL2.out⟩
      case round =>
        obtain ⟨i, hi, rfl, hbw, hbl⟩ := hrel
        have HBW := Lib.hid hbw
        have HBL := Lib.hid hbl
        have HKR := Lib.hid (HK.out.on hbw)
        clear hbw hbl
        have hi0 : 0 ≤ (i : Int) := by omega
        by_cases hlt : i < n
        · have hlti : (i : Int) < (n : Int) := by omega
          have h1 : i < l.length := by rw [← HN.out]; exact hlt
          obtain ⟨ba, oa, e1, a0, a1, a2⟩ := HKR.out.src.cells h1
          subst e1
          obtain ⟨x, hx⟩ : ∃ x, x = l[i] := ⟨_, rfl⟩
          rw [← hx] at a0 a1 a2
          obtain ⟨tx, htx⟩ : ∃ tx, textV x.text = .string tx := ⟨_, rfl⟩
          rw [htx] at a2
          have hba : ba < wr.heap.size := cell_lt a0
          have HP : Hid (∀ W, Bld w.heap.size b (bytesK (l.take i)) W → w.heap.size ≤ W.heap.size → Calls Tryd.prog 40 #[.pointer (some ⟨b, 0, none⟩), .agg #[.int .i64 x.kind, .int .i64 x.num, .string tx]] W (BldPost W w.heap.size b (bytesK (l.take (i + 1))))) := fun W h hs => by
            have hm : x ∈ l := by rw [hx]; exact List.getElem_mem _
            have := putKey_any w.heap.size b (bytesK (l.take i)) x ((rightB_iff x).1 (HALL.out x hm)) (HI.out x hm) W h (by have := wt_at h1; rw [hx]; have := HWT.out; omega) hs
            unfold keyV at this
            rw [htx] at this
            rw [bytesK_snoc h1, ← hx]; exact this
          have HLT := Lib.hid hlt
          clear htx hlt hi hx h1
          go_wp2_with fail
          refine (HP.out _ (bld_alloc HBL.out _) (by have := HBW.out.size; simp; omega)).mono ?_
          rintro e w' ⟨rfl, h2, h3⟩
          have H2 := Lib.hid h2
          have H3 := Lib.hid h3
          clear h2 h3
          go_wp2
          go_roundw
          case rel => exact ⟨i + 1, HLT.out, by first | rfl | go_num, RowKit.Below.trans (HBW.out.alloc _) H3.out, H2.out⟩
          case measure => simp [intOf]; have := HLT.out; omega
        · have hlti : (n : Int) ≤ (i : Int) := by omega
          have HE : Hid (Bld w.heap.size b (bytesK l) wr) := by
            have := HBL.out
            rwa [List.take_of_length_le (by have := HN.out; omega)] at this
          have HS := Lib.hid (bString_any w.heap.size b (bytesK l) wr HE.out HBW.out.size)
          clear hlt hi
          go_wp2_with fail
          refine HS.out.mono ?_
          rintro e w' ⟨rfl, h2, _⟩
          have H2 := Lib.hid h2
          clear h2
          go_wp2
          go_ret2
          exact ⟨rfl, RowKit.Below.trans HBW.out H2.out⟩
end Go.Proofs.YtghghekdheeknaaDoor
