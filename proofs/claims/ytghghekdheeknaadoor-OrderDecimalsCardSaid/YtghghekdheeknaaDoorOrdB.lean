/- Stage 7, the program: what a reader takes, the closures that tell which bytes belong. -/
import Derived.Test.YtghghekdheeknaaDoorOrdA
namespace Go.Proofs.YtghghekdheeknaaDoor
open Go.RowKit Go.Maps Odr Go.Shelf
attribute [local go_sem] Oper.semAt_some

theorem extract_text {l : List UInt8} {tx : ByteArray} (h : tx = ⟨l.toArray⟩) (c k : Nat) : tx.extract c k = ⟨((l.drop c).take (k - c)).toArray⟩ := by rw [h]; exact ByteArray.extract_mk l c k
/-- where taking stops -/
theorem tk_at {p : UInt8 → Bool} : ∀ {m k : Nat} {l : List UInt8}, (∀ j (h : j < l.length), j < k → p l[j] = true) → k ≤ m → k ≤ l.length → (k = m ∨ k = l.length ∨ ∃ h : k < l.length, p l[k] = false) → tk p m l = l.take k ∧ rs p m l = l.drop k
  | m, 0, l, _, _, _, h => by
    have e : tk p m l = [] := by
      unfold tk
      rcases h with rfl | h | ⟨h, hp⟩
      · rfl
      · rw [List.eq_nil_of_length_eq_zero h.symm]; simp
      · cases l with
        | nil => simp
        | cons c t =>
          have : p c = false := hp
          cases m with
          | zero => rfl
          | succ m => rw [List.take_succ_cons, List.takeWhile_cons, this]; rfl
    exact ⟨by rw [e]; rfl, by unfold rs; rw [e]; rfl⟩
  | m, k + 1, [], _, _, h, _ => by simp at h
  | 0, k + 1, _ :: _, _, h, _, _ => by omega
  | m + 1, k + 1, c :: t, ha, hm, hl, h => by
    have hc : p c = true := ha 0 (by simp) (by omega)
    obtain ⟨h1, h2⟩ := tk_at (p := p) (m := m) (k := k) (l := t) (fun j hj hk => ha (j + 1) (by simpa using hj) (by omega)) (by omega) (by simpa using hl) (by
      rcases h with h | h | ⟨h, hp⟩
      · exact .inl (by omega)
      · exact .inr (.inl (by simpa using h))
      · exact .inr (.inr ⟨by simpa using h, hp⟩))
    have e : tk p (m + 1) (c :: t) = c :: tk p m t := by unfold tk; rw [List.take_succ_cons, List.takeWhile_cons, hc, if_pos rfl]
    refine ⟨by rw [e, h1]; rfl, ?_⟩
    have : rs p (m + 1) (c :: t) = rs p m t := by unfold rs; rw [e]; rfl
    rw [this, h2]; rfl
def rdr (l : List UInt8) : Obj := .cells #[textV l] 76 (0, 0)
/-- what a closure tells of every byte -/
def Tells (f : Nat) (lb : Array Value) (p : UInt8 → Bool) (w : World) : Prop := ∀ c : UInt8, Calls Tryd.prog f (#[.int .u8 (c.toNat : Int)] ++ lb) w fun e w' => e = .returned (.bool (p c)) ∧ w' = w
def TakePost (b : Nat) (p : UInt8 → Bool) (m : Nat) (l : List UInt8) (w : World) (e : Ending) (w' : World) : Prop := e = .returned (textV (tk p m l)) ∧ w' = w.setCell ⟨b, 0, none⟩ (textV (rs p m l))
theorem tells_each (w : World) : Tells 60 #[] (fun _ => true) w := by
  intro c
  go_enter Tryd.func60, Tryd.ntmps60
  go_wp2
  go_ret
  exact ⟨rfl, rfl⟩
theorem tells_digit (w : World) : Tells 51 #[] isDig w := by
  intro c
  obtain ⟨x, hx⟩ : ∃ x, x = c.toNat := ⟨_, rfl⟩
  have hb : isDig c = decide (48 ≤ x ∧ x ≤ 57) := by rw [hx]; rfl
  rw [hb, ← hx]
  clear hb hx
  by_cases h1 : 48 ≤ x
  · have a1 : (48 : Int) ≤ (x : Int) := by omega
    by_cases h2 : x ≤ 57
    · have a2 : (x : Int) ≤ 57 := by omega
      have : decide (48 ≤ x ∧ x ≤ 57) = true := decide_eq_true ⟨h1, h2⟩
      rw [this]; clear this
      go_enter Tryd.func51, Tryd.ntmps51
      go_wp2
      go_ret
      exact ⟨ret_bool (by first | (simp; done) | (simp; omega)), rfl⟩
    · have a2 : (57 : Int) < (x : Int) := by omega
      have : decide (48 ≤ x ∧ x ≤ 57) = false := decide_eq_false (by omega)
      rw [this]; clear this
      go_enter Tryd.func51, Tryd.ntmps51
      go_wp2
      go_ret
      exact ⟨ret_bool (by first | (simp; done) | (simp; omega)), rfl⟩
  · have a1 : (x : Int) < 48 := by omega
    have : decide (48 ≤ x ∧ x ≤ 57) = false := decide_eq_false (by omega)
    rw [this]; clear this
    go_enter Tryd.func51, Tryd.ntmps51
    go_wp2
    go_ret
    exact ⟨ret_bool (by simp), rfl⟩
theorem u8_beq (a b : UInt8) : (((a.toNat : Nat) : Int) == ((b.toNat : Nat) : Int)) = (a == b) := by
  by_cases h : a = b
  · subst h; simp
  · have : a.toNat ≠ b.toNat := fun e => h (UInt8.toNat_inj.1 e)
    rw [beq_eq_false_iff_ne.2 h, beq_eq_false_iff_ne.2 (by omega)]
theorem tells_just {w : World} {B : Nat} {o : UInt8} (h : w.cell? ⟨B, 0, none⟩ = some (.int .u8 (o.toNat : Int))) : Tells 66 #[.pointer (some ⟨B, 0, none⟩)] (fun c => c == o) w := by
  intro c
  have hb := u8_beq c o
  have HB := Lib.hid hb
  clear hb
  generalize c.toNat = x at HB ⊢
  generalize o.toNat = y at h HB ⊢
  go_enter Tryd.func66, Tryd.ntmps66
  go_wp2
  go_ret
  exact ⟨ret_bool HB.out, rfl⟩
theorem tells_but {w : World} {B : Nat} {o : UInt8} (h : w.cell? ⟨B, 0, none⟩ = some (.int .u8 (o.toNat : Int))) : Tells 99 #[.pointer (some ⟨B, 0, none⟩)] (fun c => c != o) w := by
  intro c
  have hb : (!(((c.toNat : Nat) : Int) == ((o.toNat : Nat) : Int))) = (c != o) := by rw [u8_beq]; rfl
  have HB := Lib.hid hb
  clear hb
  generalize c.toNat = x at HB ⊢
  generalize o.toNat = y at h HB ⊢
  go_enter Tryd.func99, Tryd.ntmps99
  go_wp2
  go_ret
  exact ⟨ret_bool (by first | exact HB.out | (rw [← HB.out]; simp; done) | (rw [← HB.out]; rfl)), rfl⟩
theorem just_any (c : Int) (w : World) : Calls Tryd.prog 50 #[.int .u8 c] w fun e w' => e = .returned (.func (.func 66) #[] #[.pointer (some ⟨w.heap.size, 0, none⟩)]) ∧ w.alloc (.cells #[.int .u8 c] 5) = w' := by
  go_enter Tryd.func50, Tryd.ntmps50
  go_wp2
  go_ret
  exact ⟨rfl, rfl⟩
theorem but_any (c : Int) (w : World) : Calls Tryd.prog 83 #[.int .u8 c] w fun e w' => e = .returned (.func (.func 99) #[] #[.pointer (some ⟨w.heap.size, 0, none⟩)]) ∧ w.alloc (.cells #[.int .u8 c] 5) = w' := by
  go_enter Tryd.func83, Tryd.ntmps83
  go_wp2
  go_ret
  exact ⟨rfl, rfl⟩
set_option maxRecDepth 100000 in
set_option maxHeartbeats 4000000 in
theorem take_any {f : Nat} {lb : Array Value} {p : UInt8 → Bool} (ef : ∀ args w, (callFunc f args).run Tryd.prog w = .ok (.enter f args) w) {b m : Nat} {l : List UInt8} {w : World} (hb : w.heap[b]? = some (rdr l)) (hm : (m : Int) ≤ 4611686018427387904) (hl : (l.length : Int) ≤ 4611686018427387904) (hf : Tells f lb p w) :
    Calls Tryd.prog 49 #[.pointer (some ⟨b, 0, none⟩), .int .i64 (m : Int), .func (.func f) #[] lb] w (TakePost b p m l w) := by
  obtain ⟨tx, htx⟩ : ∃ tx, tx = ByteArray.mk l.toArray := ⟨_, rfl⟩
  have hts : tx.size = l.length := by rw [htx]; exact text_size l
  have hTv : textV l = .string tx := by rw [htx]; rfl
  have c0 : w.cell? ⟨b, 0, none⟩ = some (.string tx) := by rw [← hTv]; exact cell_of hb rfl
  have f0 : w.frozen? ⟨b, 0, none⟩ = false := unfrozen_of hb
  have hsz : (tx.size : Int) ≤ 4611686018427387904 := by omega
  obtain ⟨q, hq⟩ : ∃ q, q = min m tx.size := ⟨_, rfl⟩
  have hmn : min (m : Int) (tx.size : Int) = (q : Int) := by omega
  have HQ := Lib.hid hq; have HTX := Lib.hid htx; have HTS := Lib.hid hts; have HF := Lib.hid hf
  have HFIN : Hid (∀ k, (∀ j (h : j < l.length), j < k → p l[j] = true) → k ≤ q → (k = q ∨ ∃ h : k < l.length, p l[k] = false) → textV (tk p m l) = .string (tx.extract 0 k) ∧ textV (rs p m l) = .string (tx.extract k tx.size)) := fun k h1 h2 h3 => by
    have hk1 : k ≤ m := by omega
    have hk2 : k ≤ l.length := by omega
    obtain ⟨e1, e2⟩ := tk_at h1 hk1 hk2 (by
      rcases h3 with h | h
      · by_cases e : k = m
        · exact .inl e
        · exact .inr (.inl (by omega))
      · exact .inr (.inr h))
    rw [e1, e2, extract_text htx, extract_text htx]
    refine ⟨by rw [List.drop_zero, Nat.sub_zero]; rfl, ?_⟩
    rw [List.take_of_length_le (by rw [List.length_drop]; omega)]; rfl
  have hq1 : (q : Int) ≤ (tx.size : Int) := by omega
  have hqn : q ≤ tx.size := by omega
  clear hq htx hTv hb hts hf
  go_enter Tryd.func49, Tryd.ntmps49
  go_wp2
  go_loopw [7] (fun s7 wr => ∃ (k : Nat), wr = w ∧ k ≤ q ∧ s7 = .int .i64 (k : Int) ∧ ∀ j (h : j < l.length), j < k → p l[j] = true) (fun s7 _ => q - (intOf s7).toNat)
  case atStart => exact ⟨0, rfl, Nat.zero_le _, rfl, fun j _ h => by omega⟩
  case round =>
    obtain ⟨k, rfl, hk, rfl, hall⟩ := hrel
    have HALL := Lib.hid hall
    clear hall
    have hk0 : 0 ≤ (k : Int) := by omega
    by_cases hlt : k < q
    · have hlti : (k : Int) < (q : Int) := by omega
      have hks : k < tx.size := by omega
      have hki : (k : Int) < (tx.size : Int) := by omega
      have hkl : k < l.length := by have := HTS.out; omega
      obtain ⟨c, hc⟩ : ∃ c, c = l[k] := ⟨_, rfl⟩
      have hxi : ((tx[k]'hks).toNat : Int) = (c.toNat : Int) := by
        rw [hc]; have := HTX.out; subst this; rfl
      have HCL := HF.out c
      have HLT := Lib.hid hlt
      have HC := Lib.hid hc
      obtain ⟨x, hx⟩ : ∃ x, x = c.toNat := ⟨_, rfl⟩
      rw [← hx] at hxi HCL
      cases hp : p c with
      | true =>
        have HALL2 : Hid (∀ j (h : j < l.length), j < k + 1 → p l[j] = true) := fun j g hj => by
          by_cases e : j < k
          · exact HALL.out j g e
          · obtain rfl : j = k := by omega
            rw [← HC.out]; exact hp
        rw [hp] at HCL
        have HCL2 := Lib.hid HCL
        clear hp HCL HC hc hx hlt hk HFIN
        go_wp2_with (refine HCL2.out.mono ?_; rintro e w' ⟨rfl, rfl⟩)
        go_roundw
        case rel => exact ⟨k + 1, by first | rfl | trivial, HLT.out, by first | rfl | go_num, HALL2.out⟩
        case measure => simp [intOf]; have := HLT.out; omega
      | false =>
        obtain ⟨e1, e2⟩ := HFIN.out k HALL.out hk (.inr ⟨hkl, by rw [← hc]; exact hp⟩)
        rw [hp] at HCL
        have HCL2 := Lib.hid HCL
        have HE1 := Lib.hid e1; have HE2 := Lib.hid e2
        clear hp HCL HC hc hx hlt hk HFIN e1 e2
        go_wp2_with (refine HCL2.out.mono ?_; rintro e w' ⟨rfl, rfl⟩)
        go_ret
        exact ⟨by rw [HE1.out]; rfl, by rw [HE2.out]⟩
    · have hlti : (q : Int) ≤ (k : Int) := by omega
      obtain ⟨e1, e2⟩ := HFIN.out k HALL.out hk (.inl (by omega))
      have HE1 := Lib.hid e1; have HE2 := Lib.hid e2
      have hki : (k : Int) ≤ (tx.size : Int) := by omega
      have hkn : k ≤ tx.size := by omega
      clear hlt hk HFIN e1 e2
      go_wp2
      go_ret
      exact ⟨by rw [HE1.out]; rfl, by rw [HE2.out]⟩
end Go.Proofs.YtghghekdheeknaaDoor
