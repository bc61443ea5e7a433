/- Stage 6, the laws: kit.Tokens. -/
import Derived.Test.YtljjaepadnmmeaaDoorAnbT
import Derived.Laws.StructEq
namespace Go.Proofs.YtljjaepadnmmeaaDoor
open Go.RowKit Go.Maps Fld Ana Go.Shelf
attribute [local go_sem] Oper.semAt_some

def aggT (t : Tok) : Value := .agg #[textV t.text, .int .i64 t.pos, .int .i64 t.fr, .int .i64 t.en]
theorem text_eq {a b : List UInt8} : (ByteArray.mk a.toArray = ByteArray.mk b.toArray) ↔ a = b := by
  constructor
  · intro h; have := congrArg (fun x => x.data.toList) h; simpa using this
  · rintro rfl; rfl
theorem tok_neq (a b : Tok) (w : World) : (binOp .neq 43 (aggT a) (aggT b)).run Tryd.prog w = .ok (.bool (!decide (a = b))) w := by
  rw [aggT, aggT, run_neq_struct, run_equalIn_agg (ht := by kernel_rfl) (hp := by kernel_rfl)]
  have us := Tryd.underlying9
  have ui := Tryd.underlying3
  unfold Program.fieldsOf
  rw [Tryd.underlying43]
  simp only [Op.eqFields]
  have e1 : ((ByteArray.mk a.text.toArray).toList == (ByteArray.mk b.text.toArray).toList) = decide (a.text = b.text) := by
    rw [text_list, text_list]; by_cases h : a.text = b.text <;> simp [h]
  unfold textV
  simp only [go_sem, run_equalIn_string _ _ _ _ _ us, run_equalIn_int _ _ _ _ _ _ _ ui, e1]
  obtain ⟨at', ap, af, ae⟩ := a
  obtain ⟨bt, bp, bf, be⟩ := b
  simp only [Tok.mk.injEq]
  by_cases h1 : at' = bt
  · by_cases h2 : ap = bp
    · by_cases h3 : af = bf
      · by_cases h4 : ae = be
        · subst h1; subst h2; subst h3; subst h4; simp [go_sem]
        · simp [go_sem, h1, h2, h3, h4]
      · simp [go_sem, h1, h2, h3]
    · simp [go_sem, h1, h2]
  · simp [go_sem, h1]
/-- the four cells of a token -/
theorem TokSrc.cells {w : World} {ao : Option Addr} {n cap : Nat} {l : List Tok} (h : TokSrc w (.slice ao n cap) l) {i : Nat} (hi : i < l.length) : ∃ b off, ao = some ⟨b, off, none⟩ ∧ w.cell? ⟨b, off + i * 4, none⟩ = some (textV l[i].text) ∧ w.cell? ⟨b, off + i * 4 + 1, none⟩ = some (.int .i64 l[i].pos) ∧ w.cell? ⟨b, off + i * 4 + 2, none⟩ = some (.int .i64 l[i].fr) ∧ w.cell? ⟨b, off + i * 4 + 3, none⟩ = some (.int .i64 l[i].en) := by
  obtain ⟨ao', cap', e, hc⟩ := h
  injection e with e1 e2 e3
  subst e1
  have hcs := fun k u (h : (tokV l[i])[k]? = some u) => hc (4 * i + k) u (tokCells_at l i hi k u h)
  obtain ⟨b, off, hao, d0⟩ := hcs 0 _ rfl
  subst hao
  have dd : ∀ k u, (tokV l[i])[k]? = some u → w.cell? ⟨b, off + i * 4 + k, none⟩ = some u := fun k u h => by
    obtain ⟨b', off', e, d⟩ := hcs k u h
    injection e with e; injection e with e1 e2
    rw [show off + i * 4 + k = off' + (4 * i + k) by omega, e1]; exact d
  exact ⟨b, off, rfl, dd 0 _ rfl, dd 1 _ rfl, dd 2 _ rfl, dd 3 _ rfl⟩
theorem TokSrc.form {w : World} {v : Value} {l : List Tok} (h : TokSrc w v l) : ∃ ao cap, v = .slice ao l.length cap := by
  obtain ⟨ao, cap, e, _⟩ := h; exact ⟨ao, cap, e⟩
theorem ext_get {α : Type} {a b : List α} (hl : a.length = b.length) (h : ∀ i (ha : i < a.length) (hb : i < b.length), a[i] = b[i]) : a = b := List.ext_getElem hl h
set_option maxRecDepth 100000 in
set_option maxHeartbeats 4000000 in
theorem tokens_any {w : World} {va vb : Value} {la lb : List Tok} (ha : TokSrc w va la) (hb : TokSrc w vb lb) (hla : (la.length : Int) ≤ 1000000000000) (hlb : (lb.length : Int) ≤ 1000000000000) : Calls Tryd.prog 12 #[va, vb] w fun e w' => e = .returned (.bool (decide (la = lb))) ∧ ∃ k, w' = w.drewN k := by
  obtain ⟨aa, ca, rfl⟩ := ha.form
  obtain ⟨ab, cb, rfl⟩ := hb.form
  by_cases hn : la.length = lb.length
  · obtain ⟨n, hnn⟩ : ∃ n, n = la.length := ⟨_, rfl⟩
    have hnb : lb.length = n := by omega
    have HA := Lib.hid ha; have HB := Lib.hid hb; have HNA := Lib.hid hnn; have HNB := Lib.hid hnb
    rw [← hnn] at HA hla ⊢
    rw [hnb] at HB ⊢
    clear ha hb hn hnn hnb hlb
    go_enter Tryd.func12, Tryd.ntmps12
    go_wp2
    go_loopw [5] (fun s5 wr => ∃ (k i : Nat), wr = w.drewN k ∧ i ≤ n ∧ s5 = .int .i64 (i : Int) ∧ ∀ j (h1 : j < la.length) (h2 : j < lb.length), j < i → la[j] = lb[j]) (fun s5 _ => n - (intOf s5).toNat)
    case atStart => exact ⟨0, 0, rfl, Nat.zero_le _, rfl, fun j _ _ h => by omega⟩
    case round =>
      obtain ⟨k, i, rfl, hi, rfl, hall⟩ := hrel
      have HALL := Lib.hid hall
      clear hall
      by_cases hlt : i < n
      · have hlti : (i : Int) < (n : Int) := by omega
        have hi0 : 0 ≤ (i : Int) := by omega
        have h1 : i < la.length := by rw [← HNA.out]; exact hlt
        have h2 : i < lb.length := by rw [HNB.out]; exact hlt
        obtain ⟨ba, oa, e1, a0, a1, a2, a3⟩ := HA.out.cells h1
        obtain ⟨bb, ob, e2, b0, b1, b2, b3⟩ := HB.out.cells h2
        subst e1; subst e2
        have hne := fun W => tok_neq la[i] lb[i] W
        have HLT := Lib.hid hlt
        obtain ⟨x, hx⟩ : ∃ x, x = la[i] := ⟨_, rfl⟩
        obtain ⟨y, hy⟩ : ∃ y, y = lb[i] := ⟨_, rfl⟩
        rw [← hx] at a0 a1 a2 a3 hne
        rw [← hy] at b0 b1 b2 b3 hne
        have HX := Lib.hid hx; have HY := Lib.hid hy
        have H1 := Lib.hid h1; have H2 := Lib.hid h2
        unfold aggT at hne
        obtain ⟨tx, htx⟩ : ∃ tx, textV x.text = .string tx := ⟨_, rfl⟩
        obtain ⟨ty, hty⟩ : ∃ tx, textV y.text = .string tx := ⟨_, rfl⟩
        rw [htx] at a0 hne
        rw [hty] at b0 hne
        obtain ⟨q, hq⟩ : ∃ q, q = decide (x = y) := ⟨_, rfl⟩
        rw [← hq] at hne
        have HQ := Lib.hid hq
        have HW : Hid (∀ m, (w.drewN k).drewN m = w.drewN (k + m)) := fun m => drewN_drewN w k m
        clear hx hy htx hty hq hlt hi
        cases q with
        | true =>
          have HEQ : Hid (∀ j (h1 : j < la.length) (h2 : j < lb.length), j < i + 1 → la[j] = lb[j]) := fun j g1 g2 hj => by
            by_cases e : j < i
            · exact HALL.out j g1 g2 e
            · obtain rfl : j = i := by omega
              have := HQ.out
              rw [HX.out, HY.out] at this
              exact of_decide_eq_true this.symm
          go_wp2
          go_region
          all_goals
            go_wp2
            go_roundw
            case rel => exact ⟨k + 1, i + 1, by first | rfl | exact HW.out 1, HLT.out, by first | rfl | go_num, HEQ.out⟩
            case measure => simp [intOf]; have := HLT.out; omega
        | false =>
          have HNE : Hid (decide (la = lb) = false) := by
            unfold Hid
            refine decide_eq_false (fun e => ?_)
            have h := HQ.out
            rw [HX.out, HY.out] at h
            have h2 := of_decide_eq_false h.symm
            subst e; exact h2 rfl
          go_wp2
          go_region
          all_goals
            go_wp2
            go_ret
            exact ⟨ret_bool (by rw [HNE.out]), k + 1, by first | rfl | exact HW.out 1⟩
      · have hlti : (n : Int) ≤ (i : Int) := by omega
        have HEQ : Hid (decide (la = lb) = true) := by
          unfold Hid
          refine decide_eq_true (List.ext_getElem (by rw [HNB.out, HNA.out]) fun j h1 h2 => HALL.out j h1 h2 (by have := HNA.out; omega))
        clear hlt hi
        go_wp2
        go_ret
        exact ⟨ret_bool (by rw [HEQ.out]), k, rfl⟩
  · have t1 : ((la.length : Int) != (lb.length : Int)) = true := by simp; omega
    have HNE : Hid (decide (la = lb) = false) := decide_eq_false (fun e => hn (by rw [e]))
    obtain ⟨n, hnn⟩ : ∃ n, n = la.length := ⟨_, rfl⟩
    obtain ⟨m, hm⟩ : ∃ m, m = lb.length := ⟨_, rfl⟩
    rw [← hnn, ← hm] at t1 ⊢
    clear ha hb hn hnn hm hla hlb
    go_enter Tryd.func12, Tryd.ntmps12
    go_wp2
    go_ret
    exact ⟨ret_bool (by rw [HNE.out]), 0, rfl⟩
end Go.Proofs.YtljjaepadnmmeaaDoor
