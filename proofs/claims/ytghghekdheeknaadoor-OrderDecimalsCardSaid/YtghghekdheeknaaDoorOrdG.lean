/- Stage 7: rows of keys that can be read; kit.Keys; the program's Rows. -/
import Derived.Test.YtghghekdheeknaaDoorOrdA
import Derived.Laws.StructEq
namespace Go.Proofs.YtghghekdheeknaaDoor
open Go.RowKit Go.Maps Odr Go.Shelf
attribute [local go_sem] Oper.semAt_some

def keyC (k : PKey) : List Value := [.int .i64 k.kind, .int .i64 k.num, textV k.text]
def keyCells (l : List PKey) : List Value := l.flatMap keyC
/-- a slice that reads keys -/
def KSrc (w : World) (v : Value) (l : List PKey) : Prop := ∃ ao cap, v = .slice ao l.length cap ∧ ∀ j u, (keyCells l)[j]? = some u → ∃ b off, ao = some ⟨b, off, none⟩ ∧ w.cell? ⟨b, off + j, none⟩ = some u
theorem KSrc.bw {w W : World} {v : Value} {l : List PKey} (h : KSrc w v l) (hb : BW w W) : KSrc W v l := by
  obtain ⟨ao, cap, rfl, hc⟩ := h
  refine ⟨ao, cap, rfl, fun j u hu => ?_⟩
  obtain ⟨b, off, rfl, h1⟩ := hc j u hu
  exact ⟨b, off, rfl, (hb.cell (p := ⟨b, off + j, none⟩) (cell_lt h1)).trans h1⟩
/-- a row that lies below a bound stays where all below it does -/
def KBel (w : World) (B : Nat) (v : Value) (l : List PKey) : Prop := ∃ ao cap, v = .slice ao l.length cap ∧ ∀ j u, (keyCells l)[j]? = some u → ∃ b off, ao = some ⟨b, off, none⟩ ∧ b < B ∧ w.cell? ⟨b, off + j, none⟩ = some u
theorem KSrc.bel {w : World} {v : Value} {l : List PKey} (h : KSrc w v l) : KBel w w.heap.size v l := by
  obtain ⟨ao, cap, rfl, hc⟩ := h
  refine ⟨ao, cap, rfl, fun j u hu => ?_⟩
  obtain ⟨b, off, rfl, h1⟩ := hc j u hu
  exact ⟨b, off, rfl, cell_lt h1, h1⟩
theorem KBel.on {w W : World} {B : Nat} {v : Value} {l : List PKey} (h : KBel w B v l) (hb : RowKit.Below B w W) : KBel W B v l := by
  obtain ⟨ao, cap, rfl, hc⟩ := h
  refine ⟨ao, cap, rfl, fun j u hu => ?_⟩
  obtain ⟨b, off, rfl, hlt, h1⟩ := hc j u hu
  exact ⟨b, off, rfl, hlt, (hb.cell (p := ⟨b, off + j, none⟩) hlt).trans h1⟩
theorem KBel.src {w : World} {B : Nat} {v : Value} {l : List PKey} (h : KBel w B v l) : KSrc w v l := by
  obtain ⟨ao, cap, rfl, hc⟩ := h
  refine ⟨ao, cap, rfl, fun j u hu => ?_⟩
  obtain ⟨b, off, rfl, _, h1⟩ := hc j u hu
  exact ⟨b, off, rfl, h1⟩
theorem keyCells_at : ∀ (l : List PKey) (i : Nat) (h : i < l.length) (k : Nat) (u : Value), (keyC l[i])[k]? = some u → (keyCells l)[3 * i + k]? = some u
  | t :: l, 0, _, k, u, hu => by
    unfold keyCells; rw [List.flatMap_cons, Nat.mul_zero, Nat.zero_add, List.getElem?_append_left]
    · exact hu
    · exact (List.getElem?_eq_some_iff.1 hu).1
  | t :: l, i + 1, h, k, u, hu => by
    have ih := keyCells_at l i (by simpa using h) k u (by simpa using hu)
    unfold keyCells at ih ⊢
    rw [List.flatMap_cons, List.getElem?_append_right (by simp [keyC]; omega)]
    have : (keyC t).length = 3 := rfl
    rw [this, show 3 * (i + 1) + k - 3 = 3 * i + k by omega]; exact ih
theorem keyCells_len (l : List PKey) : (keyCells l).length = l.length * 3 := by
  unfold keyCells
  induction l with
  | nil => rfl
  | cons k l ih => rw [List.flatMap_cons, List.length_append, ih, List.length_cons]; show 3 + _ = _; omega
theorem key_neq (a b : PKey) (w : World) : (binOp .neq 45 (keyV a) (keyV b)).run Tryd.prog w = .ok (.bool (!decide (a = b))) w := by
  rw [keyV, keyV, run_neq_struct, run_equalIn_agg (ht := by kernel_rfl) (hp := by kernel_rfl)]
  have us := Tryd.underlying9
  have ui := Tryd.underlying3
  have u6 := Tryd.underlying2
  unfold Program.fieldsOf
  rw [Tryd.underlying45]
  simp only [Op.eqFields]
  have e1 : ((ByteArray.mk a.text.toArray).toList == (ByteArray.mk b.text.toArray).toList) = decide (a.text = b.text) := by
    rw [text_list, text_list]; by_cases h : a.text = b.text <;> simp [h]
  unfold textV
  simp only [go_sem, run_equalIn_string _ _ _ _ _ us, run_equalIn_int _ _ _ _ _ _ _ ui, run_equalIn_int _ _ _ _ _ _ _ u6, e1]
  obtain ⟨ak, an, at'⟩ := a
  obtain ⟨bk, bn, bt⟩ := b
  simp only [PKey.mk.injEq]
  by_cases h1 : ak = bk
  · by_cases h2 : an = bn
    · by_cases h3 : at' = bt
      · subst h1; subst h2; subst h3; simp [go_sem]
      · simp [go_sem, h1, h2, h3]
    · simp [go_sem, h1, h2]
  · simp [go_sem, h1]
/-- the three cells of a key -/
theorem KSrc.cells {w : World} {ao : Option Addr} {n cap : Nat} {l : List PKey} (h : KSrc w (.slice ao n cap) l) {i : Nat} (hi : i < l.length) : ∃ b off, ao = some ⟨b, off, none⟩ ∧ w.cell? ⟨b, off + i * 3, none⟩ = some (.int .i64 l[i].kind) ∧ w.cell? ⟨b, off + i * 3 + 1, none⟩ = some (.int .i64 l[i].num) ∧ w.cell? ⟨b, off + i * 3 + 2, none⟩ = some (textV l[i].text) := by
  obtain ⟨ao', cap', e, hc⟩ := h
  injection e with e1 e2 e3
  subst e1
  have hcs := fun k u (h : (keyC l[i])[k]? = some u) => hc (3 * i + k) u (keyCells_at l i hi k u h)
  obtain ⟨b, off, hao, d0⟩ := hcs 0 _ rfl
  subst hao
  have dd : ∀ k u, (keyC l[i])[k]? = some u → w.cell? ⟨b, off + i * 3 + k, none⟩ = some u := fun k u h => by
    obtain ⟨b', off', e, d⟩ := hcs k u h
    injection e with e; injection e with e1 e2
    rw [show off + i * 3 + k = off' + (3 * i + k) by omega, e1]; exact d
  exact ⟨b, off, rfl, dd 0 _ rfl, dd 1 _ rfl, dd 2 _ rfl⟩
theorem KSrc.form {w : World} {v : Value} {l : List PKey} (h : KSrc w v l) : ∃ ao cap, v = .slice ao l.length cap := by
  obtain ⟨ao, cap, e, _⟩ := h; exact ⟨ao, cap, e⟩
theorem ext_get {α : Type} {a b : List α} (hl : a.length = b.length) (h : ∀ i (ha : i < a.length) (hb : i < b.length), a[i] = b[i]) : a = b := List.ext_getElem hl h
set_option maxRecDepth 100000 in
set_option maxHeartbeats 4000000 in
theorem keysEq_any {w : World} {va vb : Value} {la lb : List PKey} (ha : KSrc w va la) (hb : KSrc w vb lb) (hla : (la.length : Int) ≤ 1000000000000) (hlb : (lb.length : Int) ≤ 1000000000000) : Calls Tryd.prog 21 #[va, vb] w fun e w' => e = .returned (.bool (decide (la = lb))) ∧ ∃ k, w' = w.drewN k := by
  obtain ⟨aa, ca, rfl⟩ := ha.form
  obtain ⟨ab, cb, rfl⟩ := hb.form
  by_cases hn : la.length = lb.length
  · obtain ⟨n, hnn⟩ : ∃ n, n = la.length := ⟨_, rfl⟩
    have hnb : lb.length = n := by omega
    have HA := Lib.hid ha; have HB := Lib.hid hb; have HNA := Lib.hid hnn; have HNB := Lib.hid hnb
    rw [← hnn] at HA hla ⊢
    rw [hnb] at HB ⊢
    clear ha hb hn hnn hnb hlb
    go_enter Tryd.func21, Tryd.ntmps21
    go_wp2
    go_loopw [5] (fun s5 wr => ∃ (k i : Nat), wr = w.drewN k ∧ i ≤ n ∧ s5 = .int .i64 (i : Int) ∧ ∀ j (h1 : j < la.length) (h2 : j < lb.length), j < i → la[j] = lb[j]) (fun s5 _ => n - (intOf s5).toNat)
    case atStart => exact ⟨0, 0, rfl, Nat.zero_le _, rfl, fun j _ _ h => by omega⟩
    case round =>
      obtain ⟨k, i, rfl, hi, rfl, hall⟩ := hrel
      have HALL := Lib.hid hall
      clear hall
      by_cases hlt : i < n
      · have hlti : (i : Int) < (n : Int) := by omega
        have hi0 : 0 ≤ (i : Int) := by omega
        have h1 : i < la.length := by rw [← HNA.out]; exact hlt
        have h2 : i < lb.length := by rw [HNB.out]; exact hlt
        obtain ⟨ba, oa, e1, a0, a1, a2⟩ := HA.out.cells h1
        obtain ⟨bb, ob, e2, b0, b1, b2⟩ := HB.out.cells h2
        subst e1; subst e2
        have hne := fun W => key_neq la[i] lb[i] W
        have HLT := Lib.hid hlt
        obtain ⟨x, hx⟩ : ∃ x, x = la[i] := ⟨_, rfl⟩
        obtain ⟨y, hy⟩ : ∃ y, y = lb[i] := ⟨_, rfl⟩
        rw [← hx] at a0 a1 a2 hne
        rw [← hy] at b0 b1 b2 hne
        have HX := Lib.hid hx; have HY := Lib.hid hy
        have H1 := Lib.hid h1; have H2 := Lib.hid h2
        unfold keyV at hne
        obtain ⟨tx, htx⟩ : ∃ tx, textV x.text = .string tx := ⟨_, rfl⟩
        obtain ⟨ty, hty⟩ : ∃ tx, textV y.text = .string tx := ⟨_, rfl⟩
        rw [htx] at a2 hne
        rw [hty] at b2 hne
        obtain ⟨q, hq⟩ : ∃ q, q = decide (x = y) := ⟨_, rfl⟩
        rw [← hq] at hne
        have HQ := Lib.hid hq
        have HW : Hid (∀ m, (w.drewN k).drewN m = w.drewN (k + m)) := fun m => drewN_drewN w k m
        clear hx hy htx hty hq hlt hi
        cases q with
        | true =>
          have HEQ : Hid (∀ j (h1 : j < la.length) (h2 : j < lb.length), j < i + 1 → la[j] = lb[j]) := fun j g1 g2 hj => by
            by_cases e : j < i
            · exact HALL.out j g1 g2 e
            · obtain rfl : j = i := by omega
              have := HQ.out
              rw [HX.out, HY.out] at this
              exact of_decide_eq_true this.symm
          go_wp2
          go_region
          all_goals
            go_wp2
            go_roundw
            case rel => exact ⟨k + 1, i + 1, by first | rfl | exact HW.out 1, HLT.out, by first | rfl | go_num, HEQ.out⟩
            case measure => simp [intOf]; have := HLT.out; omega
        | false =>
          have HNE : Hid (decide (la = lb) = false) := by
            unfold Hid
            refine decide_eq_false (fun e => ?_)
            have h := HQ.out
            rw [HX.out, HY.out] at h
            have h2 := of_decide_eq_false h.symm
            subst e; exact h2 rfl
          go_wp2
          go_region
          all_goals
            go_wp2
            go_ret
            exact ⟨ret_bool (by rw [HNE.out]), k + 1, by first | rfl | exact HW.out 1⟩
      · have hlti : (n : Int) ≤ (i : Int) := by omega
        have HEQ : Hid (decide (la = lb) = true) := by
          unfold Hid
          refine decide_eq_true (List.ext_getElem (by rw [HNB.out, HNA.out]) fun j h1 h2 => HALL.out j h1 h2 (by have := HNA.out; omega))
        clear hlt hi
        go_wp2
        go_ret
        exact ⟨ret_bool (by rw [HEQ.out]), k, rfl⟩
  · have t1 : ((la.length : Int) != (lb.length : Int)) = true := by simp; omega
    have HNE : Hid (decide (la = lb) = false) := decide_eq_false (fun e => hn (by rw [e]))
    obtain ⟨n, hnn⟩ : ∃ n, n = la.length := ⟨_, rfl⟩
    obtain ⟨m, hm⟩ : ∃ m, m = lb.length := ⟨_, rfl⟩
    rw [← hnn, ← hm] at t1 ⊢
    clear ha hb hn hnn hm hla hlb
    go_enter Tryd.func21, Tryd.ntmps21
    go_wp2
    go_ret
    exact ⟨ret_bool (by rw [HNE.out]), 0, rfl⟩
theorem rowsK_drop {a b : List PKey} {i : Nat} (h : ∀ j (h1 : j < a.length) (h2 : j < b.length), j < i → cmpK a[j] b[j] = 0) (ha : i ≤ a.length) (hb : i ≤ b.length) : rowsK a b = rowsK (a.drop i) (b.drop i) := by
  induction i generalizing a b with
  | zero => rfl
  | succ i ih =>
    cases a with
    | nil => simp at ha
    | cons x a =>
      cases b with
      | nil => simp at hb
      | cons y b =>
        have h0 : cmpK x y = 0 := h 0 (by simp) (by simp) (by omega)
        rw [rowsK, if_pos h0, List.drop_succ_cons, List.drop_succ_cons]
        exact ih (fun j h1 h2 hj => h (j + 1) (by simpa using h1) (by simpa using h2) (by omega)) (by simpa using ha) (by simpa using hb)
set_option maxRecDepth 100000 in
set_option maxHeartbeats 1000000 in
theorem compareFunc_any {w : World} {va vb : Value} {la lb : List PKey} (ha : KSrc w va la) (hb : KSrc w vb lb) (hla : (la.length : Int) ≤ 1000000000000000) (hlb : (lb.length : Int) ≤ 1000000000000000) : Calls Tryd.prog 44 #[va, vb, .func (.func 25) #[] #[]] w (BwVal (.int .i64 (rowsK la lb)) w) := by
  have ef : ∀ args w, (callFunc 25 args).run Tryd.prog w = .ok (.enter 25 args) w := enters_of Tryd.func25 (by kernel_rfl) rfl
  obtain ⟨aa, ca, rfl⟩ := ha.form
  obtain ⟨ab, cb, rfl⟩ := hb.form
  obtain ⟨n, hnn⟩ : ∃ n, n = la.length := ⟨_, rfl⟩
  obtain ⟨m, hmm⟩ : ∃ m, m = lb.length := ⟨_, rfl⟩
  rw [← hnn] at ha hla ⊢
  rw [← hmm] at hb hlb ⊢
  have HA := Lib.hid ha; have HB := Lib.hid hb; have HN := Lib.hid hnn; have HM := Lib.hid hmm
  clear ha hb hnn hmm
  go_enter Tryd.func44, Tryd.ntmps44
  go_wp2
  go_loopw [13] (fun s13 wr => ∃ (i : Nat), i ≤ n ∧ i ≤ m ∧ s13 = .int .i64 (i : Int) ∧ BW w wr ∧ ∀ j (h1 : j < la.length) (h2 : j < lb.length), j < i → cmpK la[j] lb[j] = 0) (fun s13 _ => n - (intOf s13).toNat)
  case atStart => exact ⟨0, Nat.zero_le _, Nat.zero_le _, rfl, BW.refl _, fun j _ _ h => by omega⟩
  case round =>
    obtain ⟨i, hi, him, rfl, hbw, hz⟩ := hrel
    have HZ := Lib.hid hz
    have HBW := Lib.hid hbw
    have HAR := Lib.hid (HA.out.bw hbw)
    have HBR := Lib.hid (HB.out.bw hbw)
    clear hz hbw
    have hi0 : 0 ≤ (i : Int) := by omega
    by_cases hlt : i < n
    · have hlti : (i : Int) < (n : Int) := by omega
      have h1 : i < la.length := by rw [← HN.out]; exact hlt
      obtain ⟨ba, oa, e1, a0, a1, a2⟩ := HAR.out.cells h1
      subst e1
      obtain ⟨x, hx⟩ : ∃ x, x = la[i] := ⟨_, rfl⟩
      rw [← hx] at a0 a1 a2
      obtain ⟨tx, htx⟩ : ∃ tx, textV x.text = .string tx := ⟨_, rfl⟩
      rw [htx] at a2
      have HX := Lib.hid hx
      have HTX := Lib.hid htx
      have H1 := Lib.hid h1
      have HLT := Lib.hid hlt
      clear htx hlt
      by_cases hm : i < m
      · have hmi : (i : Int) < (m : Int) := by omega
        have h2 : i < lb.length := by rw [← HM.out]; exact hm
        obtain ⟨bb, ob, e2, b0, b1, b2⟩ := HBR.out.cells h2
        subst e2
        obtain ⟨y, hy⟩ : ∃ y, y = lb[i] := ⟨_, rfl⟩
        rw [← hy] at b0 b1 b2
        have hbb : bb < wr.heap.size := cell_lt b0
        have hbn : ¬ bb = wr.heap.size := by omega
        obtain ⟨ty, hty⟩ : ∃ ty, textV y.text = .string ty := ⟨_, rfl⟩
        rw [hty] at b2
        have HC : Hid (∀ W, Calls Tryd.prog 25 #[.agg #[.int .i64 x.kind, .int .i64 x.num, .string tx], .agg #[.int .i64 y.kind, .int .i64 y.num, .string ty]] W (BwVal (.int .i64 (cmpK x y)) W)) := fun W => by
          have := compare_any x y W
          unfold keyV at this
          rw [HTX.out, hty] at this; exact this
        have HY := Lib.hid hy
        have H2 := Lib.hid h2
        have HM1 := Lib.hid hm
        obtain ⟨c, hc⟩ : ∃ c, c = cmpK x y := ⟨_, rfl⟩
        rw [← hc] at HC
        have HCC := Lib.hid hc
        clear hty hm hi him hc
        by_cases h0 : c = 0
        · have HALL : Hid (∀ j (h1 : j < la.length) (h2 : j < lb.length), j < i + 1 → cmpK la[j] lb[j] = 0) := fun j g1 g2 hj => by
            by_cases e : j < i
            · exact HZ.out j g1 g2 e
            · obtain rfl : j = i := by omega
              rw [← HX.out, ← HY.out, ← HCC.out, h0]
          subst h0
          clear hx hy HX HY h1 h2
          go_wp2_with fail
          refine (HC.out _).mono ?_
          rintro e w' ⟨rfl, hw⟩
          have HW := Lib.hid hw
          clear hw
          go_wp2
          go_roundw
          case rel => exact ⟨i + 1, HLT.out, HM1.out, by first | rfl | go_num, ((HBW.out.alloc _).alloc _).trans HW.out, HALL.out⟩
          case measure => simp [intOf]; have := HLT.out; omega
        · have hne : (c == 0) = false := by simpa using h0
          have hne2 : (c != 0) = true := by simpa using h0
          have HR : Hid (c = rowsK la lb) := by
            unfold Hid
            rw [rowsK_drop HZ.out (by rw [← HN.out]; exact Nat.le_of_lt HLT.out) (Nat.le_of_lt H2.out), List.drop_eq_getElem_cons H1.out, List.drop_eq_getElem_cons H2.out, rowsK, ← HX.out, ← HY.out, ← HCC.out, if_neg h0]
          clear hx hy HX HY h1 h2 h0
          go_wp2_with fail
          refine (HC.out _).mono ?_
          rintro e w' ⟨rfl, hw⟩
          have HW := Lib.hid hw
          clear hw
          go_wp2
          go_ret
          exact ⟨ret_int HR.out, ((HBW.out.alloc _).alloc _).trans HW.out⟩
      · have hmi : (m : Int) ≤ (i : Int) := by omega
        have HR : Hid ((1 : Int) = rowsK la lb) := by
          unfold Hid
          rw [rowsK_drop HZ.out (by rw [← HN.out]; exact Nat.le_of_lt HLT.out) (by rw [← HM.out]; exact him), show lb.drop i = [] from List.drop_eq_nil_of_le (by rw [← HM.out]; omega), List.drop_eq_getElem_cons H1.out, rowsK]
        clear hx HX h1 hm hi him
        go_wp2
        go_ret
        exact ⟨ret_int HR.out, HBW.out.alloc _⟩
    · have hlti : (n : Int) ≤ (i : Int) := by omega
      by_cases hnm : n < m
      · have hmi : (n : Int) < (m : Int) := by omega
        have HR : Hid ((-1 : Int) = rowsK la lb) := by
          unfold Hid
          rw [rowsK_drop HZ.out (by rw [← HN.out]; exact hi) (by rw [← HM.out]; exact him), List.drop_eq_nil_of_le (by rw [← HN.out]; omega), List.drop_eq_getElem_cons (show i < lb.length by rw [← HM.out]; omega), rowsK]
        clear hlt hi him hnm
        go_wp2
        go_ret
        exact ⟨ret_int HR.out, HBW.out⟩
      · have hmi : (m : Int) ≤ (n : Int) := by omega
        have HR : Hid ((0 : Int) = rowsK la lb) := by
          unfold Hid
          rw [rowsK_drop HZ.out (by rw [← HN.out]; exact hi) (by rw [← HM.out]; exact him), show la.drop i = [] from List.drop_eq_nil_of_le (by rw [← HN.out]; omega), show lb.drop i = [] from List.drop_eq_nil_of_le (by rw [← HM.out]; omega), rowsK]
        clear hlt hi him hnm
        go_wp2
        go_ret
        exact ⟨ret_int HR.out, HBW.out⟩
theorem rows_any {w : World} {va vb : Value} {la lb : List PKey} (ha : KSrc w va la) (hb : KSrc w vb lb) (hla : (la.length : Int) ≤ 1000000000000000) (hlb : (lb.length : Int) ≤ 1000000000000000) : Calls Tryd.prog 19 #[va, vb] w (BwVal (.int .i64 (rowsK la lb)) w) := by
  have HC := Lib.hid (compareFunc_any ha hb hla hlb)
  obtain ⟨aa, ca, rfl⟩ := ha.form
  obtain ⟨ab, cb, rfl⟩ := hb.form
  clear ha hb hla hlb
  generalize la.length = n at HC ⊢
  generalize lb.length = m at HC ⊢
  generalize rowsK la lb = x at HC ⊢
  go_enter Tryd.func19, Tryd.ntmps19
  go_wp2_with (refine HC.out.mono ?_; rintro e w' ⟨rfl, hw⟩)
  go_ret
  exact ⟨rfl, hw⟩
end Go.Proofs.YtghghekdheeknaaDoor
