/- The base of fold's texts: bytes put behind bytes, bytes as texts; Rune and Form of the document. -/
import Derived.Test.YtljjaepadnmmeaaDoorCodA
import Derived.Test.YtljjaepadnmmeaaDoorFldN
import Derived.Laws.MakeOwn
import Derived.Laws.BitsAllLaws
import Derived.Laws.IdiomStrings
import Derived.Deep.LoopGhost
namespace Go.Proofs.YtljjaepadnmmeaaDoor
open Go.RowKit Go.Maps

theorem grown_refl (w : World) (row : Option Nat) : w.grownBy w row := ⟨rfl, rfl, rfl, Nat.le_refl _, fun _ _ _ => rfl⟩
theorem bV_len (l : List UInt8) : (l.map bV).length = l.length * 1 := by simp
theorem bw_grown {w w1 w2 : World} {row : Option Nat} (h : BW w w1) (hg : w1.grownBy w2 row) (hr : ∀ k, row = some k → w.heap.size ≤ k) : BW w w2 :=
  RowKit.Below.grown h hg h.size hr
theorem row_own {w : World} {base : Nat} {n e : Nat} {v : Value} {xs : List Value} (h : w.ownsRow base e 1 v n xs) : ∀ k, v.ownBlock = some k → base ≤ k := by
  intro k hk
  obtain ⟨a, n', c, e1, e2⟩ := own_some hk
  rw [← e2]; exact new_of_row h e1
theorem own_new (w : World) (cs : Array Value) (e : TypeId) (n : Nat) (hn : cs.size = n) (hm : n ≤ 1000000) : (w.alloc (.cells cs e)).ownsRow w.heap.size e 1 (.slice (some ⟨w.heap.size, 0, none⟩) n n) n cs.toList :=
  ⟨by simp [hn], .inr ⟨w.heap.size, n, cs, rfl, Nat.le_refl _, heap_new _ _, Nat.le_refl _, by unfold maxLen; omega, by omega, by rw [List.take_of_length_le]; simp [hn]⟩⟩
/-- append of bytes that can be read -/
theorem append_bytes {w : World} {ops : Array Oper} {rest : List Oper} {o : Oper} {a : Act} {Q : Exit → Act → World → Prop} (hgd : o.guard = none) (s x : Operand)
    (ho : o.op = .call { callee := .builtin .append, args := #[s, x], argTypes := #[71, 71] }) (base : Nat) (v : Value) (n : Nat) (xs : List UInt8) (hs : a.eval s = v) (hown : w.ownsRow base 5 1 v n (xs.map bV))
    (xv : Value) (hx : a.eval x = xv) (bs : List UInt8) (hsrc : Src w xv (bs.map bV)) (hb : n + bs.length ≤ 140737488355328) (hbase : base ≤ w.heap.size)
    (h : ∀ v' w', w'.ownsRow base 5 1 v' (n + bs.length) ((xs ++ bs).map bV) → w.grownBy w' v.ownBlock → wpList Tryd.prog ops Q rest (a.put o.dst v') w') : wpList Tryd.prog ops Q (o :: rest) a w := by
  obtain ⟨i0, hi, hz0, hz1, hz2⟩ := infoOf info_u8
  have hb1 : n + bs.length ≤ maxLen := by unfold maxLen; omega
  rcases hsrc with ⟨ao, cap, hv, hxs, hz, _⟩ | ⟨b, off, cap, hv, _, _, _, h4⟩
  · have hbs : bs = [] := by simpa using hxs
    subst hbs
    cases ao with
    | none =>
      obtain rfl := hz rfl
      rw [hv] at hx
      refine wpList_append_own_none hgd s x 71 ho base 5 i0 1 Tryd.underlying71 hi v n _ hs hown hx ?_
      exact h v w (by simpa using hown) (grown_refl _ _)
    | some ad =>
      rw [hv] at hx
      refine wpList_append_own w hgd s x 71 ho base 5 i0 (.int .u8 0) 1 1 Tryd.underlying71 hi hz0 hz1 hz2 rfl (by decide) v n _ hs hown ad 0 cap [] hx rfl (fun j u hu => by simp at hu) (fun u hu => by simp at hu) hb1 (by simpa using hb) hbase ?_
      intro v' w' g1 g2 _
      exact h v' w' (by simpa using g1) g2
  · rw [hv, List.length_map] at hx
    refine wpList_append_own w hgd s x 71 ho base 5 i0 (.int .u8 0) 1 1 Tryd.underlying71 hi hz0 hz1 hz2 rfl (by decide) v n _ hs hown ⟨b, off, none⟩ bs.length cap (bs.map bV) hx (bV_len bs) (fun j u hu => by rw [addOff]; exact h4 j u hu) (bV_one _) hb1 (by simpa using hb) hbase ?_
    intro v' w' g1 g2 _
    exact h v' w' (by rw [List.map_append]; exact g1) g2
theorem src_string {w : World} {ao : Option Addr} {n cap : Nat} {bs : List UInt8} (h : Src w (.slice ao n cap) (bs.map bV)) : (convert 71 9 (.slice ao n cap)).run Tryd.prog w = .ok (.string ⟨bs.toArray⟩) w := by
  rcases h with ⟨ao', c', e, e2, h5, h6⟩ | ⟨b', off', c, hv, h1, h2, h3, h4⟩
  · cases e
    have hb : bs = [] := by simpa using e2
    subst hb
    cases ao with
    | none => exact run_convert_bytes_nil w 71 5 Tryd.underlying71 Tryd.underlying5 0 cap _ Tryd.underlying9
    | some a => exact run_convert_bytes_back w 71 9 5 a cap [] Tryd.underlying71 Tryd.underlying5 Tryd.underlying9 (fun j hj => by simp at hj)
  · cases hv
    rw [List.length_map]
    refine run_convert_bytes_back w 71 9 5 ⟨b', off', none⟩ cap bs Tryd.underlying71 Tryd.underlying5 Tryd.underlying9 (fun j hj => ?_)
    rw [addOff]
    exact h4 j _ (by rw [List.getElem?_map, List.getElem?_eq_getElem hj]; rfl)
def BytesPost (w : World) (bs : List UInt8) (e : Ending) (w' : World) : Prop :=
  ∃ v, e = .returned v ∧ w'.ownsRow w.heap.size 5 1 v bs.length (bs.map bV) ∧ BW w w'

theorem refRune_any (r : Int) (w : World) : Calls Tryd.prog 84 #[.int .i32 r] w fun e w' => e = .returned (.bool (Fld.isRune r)) ∧ w = w' := by
  unfold Fld.isRune
  by_cases h0 : 0 ≤ r
  · by_cases h1 : r ≤ 1114111
    · by_cases h2 : r < 55296
      · have d : decide (r < 55296) = true := decide_eq_true h2
        go_enter Tryd.func84, Tryd.ntmps84
        go_wp2
        go_ret
        exact ⟨ret_bool (by simp [h0, h1, h2]), rfl⟩
      · have d : decide (r < 55296) = false := decide_eq_false h2
        go_enter Tryd.func84, Tryd.ntmps84
        go_wp2
        go_ret
        exact ⟨ret_bool (by simp), rfl⟩
    · have d : decide (r ≤ 1114111) = false := decide_eq_false h1
      go_enter Tryd.func84, Tryd.ntmps84
      go_wp2
      go_ret
      exact ⟨ret_bool (by simp), rfl⟩
  · have d : decide (0 ≤ r) = false := decide_eq_false h0
    go_enter Tryd.func84, Tryd.ntmps84
    go_wp2
    go_ret
    exact ⟨ret_bool (by simp), rfl⟩

theorem byte_cell {b n : Nat} (h : b = n) (hn : n < 256) : Value.int .u8 (b : Int) = bV (UInt8.ofNat n) := by
  unfold bV
  rw [UInt8.toNat_ofNat', Nat.mod_eq_of_lt hn, h]
set_option maxHeartbeats 1000000 in
set_option maxRecDepth 100000 in
theorem refForm_any (r : Nat) (hr : r ≤ 1114111) (w : World) : Calls Tryd.prog 71 #[.int .i32 (r : Int)] w (BytesPost w (Fld.formP r)) := by
  have h0 : 0 ≤ (r : Int) := by omega
  have hi : (r : Int) ≤ 1114111 := by omega
  unfold Fld.formP
  by_cases h1 : r < 128
  · have d1 : decide ((r : Int) < 128) = true := decide_eq_true (by omega)
    have f0 : IntKind.u8.wrap (r : Int) = (r : Int) := by rw [IntKind.wrap_u8']; omega
    rw [if_pos h1]
    have HC : Hid ([Value.int .u8 (r : Int)] = ([UInt8.ofNat r] : List UInt8).map bV) := by
      unfold Hid; rw [byte_cell (n := r) rfl (by omega)]; rfl
    clear h1
    go_enter Tryd.func71, Tryd.ntmps71
    go_wp2
    go_ret
    refine ⟨_, rfl, ?_, bw_alloc _ _⟩
    rw [← HC.out]
    exact own_new w _ 5 1 rfl (by decide)
  have d1 : decide ((r : Int) < 128) = false := decide_eq_false (by omega)
  rw [if_neg h1]
  obtain ⟨m0, hm0⟩ : ∃ m, m = r % 64 := ⟨_, rfl⟩
  obtain ⟨q1, hq1⟩ : ∃ q, q = r / 64 := ⟨_, rfl⟩
  have i0 : (r : Int) % 64 = (m0 : Int) := by omega
  have i1 : (r : Int) / 64 = (q1 : Int) := by omega
  obtain ⟨b0, hb0⟩ : ∃ b, b = 128 + m0 := ⟨_, rfl⟩
  have f0 : IntKind.u8.wrap (128 + (m0 : Int)) = (b0 : Int) := by rw [IntKind.wrap_u8']; omega
  have hm0i : (m0 : Int) < 64 := by omega
  have hm0n : 0 ≤ (m0 : Int) := by omega
  have hq1n : 0 ≤ (q1 : Int) := by omega
  have hq1i : (q1 : Int) ≤ 17408 := by omega
  by_cases h2 : r < 2048
  · have d2 : decide ((r : Int) < 2048) = true := decide_eq_true (by omega)
    rw [if_pos h2]
    obtain ⟨a1, ha1⟩ : ∃ b, b = 192 + q1 := ⟨_, rfl⟩
    have f1 : IntKind.u8.wrap (192 + (q1 : Int)) = (a1 : Int) := by rw [IntKind.wrap_u8']; omega
    have HC : Hid ([Value.int .u8 (a1 : Int), .int .u8 (b0 : Int)] = ([UInt8.ofNat (192 + r / 64), UInt8.ofNat (128 + r % 64)] : List UInt8).map bV) := by
      unfold Hid; rw [byte_cell (b := a1) (n := 192 + r / 64) (by omega) (by omega), byte_cell (b := b0) (n := 128 + r % 64) (by omega) (by omega)]; rfl
    clear h1 h2 hm0 hq1 hb0 ha1
    go_enter Tryd.func71, Tryd.ntmps71
    go_wp2
    go_ret
    refine ⟨_, rfl, ?_, bw_alloc _ _⟩
    rw [← HC.out]
    exact own_new w _ 5 2 rfl (by decide)
  have d2 : decide ((r : Int) < 2048) = false := decide_eq_false (by omega)
  rw [if_neg h2]
  obtain ⟨m1, hm1⟩ : ∃ m, m = q1 % 64 := ⟨_, rfl⟩
  have i2 : (q1 : Int) % 64 = (m1 : Int) := by omega
  obtain ⟨q2, hq2⟩ : ∃ q, q = r / 4096 := ⟨_, rfl⟩
  have i3 : (r : Int) / 4096 = (q2 : Int) := by omega
  obtain ⟨b1, hb1⟩ : ∃ b, b = 128 + m1 := ⟨_, rfl⟩
  have f1 : IntKind.u8.wrap (128 + (m1 : Int)) = (b1 : Int) := by rw [IntKind.wrap_u8']; omega
  have hm1i : (m1 : Int) < 64 := by omega
  have hm1n : 0 ≤ (m1 : Int) := by omega
  have hq2n : 0 ≤ (q2 : Int) := by omega
  have hq2i : (q2 : Int) ≤ 272 := by omega
  by_cases h3 : r < 65536
  · have d3 : decide ((r : Int) < 65536) = true := decide_eq_true (by omega)
    rw [if_pos h3]
    obtain ⟨a1, ha1⟩ : ∃ b, b = 224 + q2 := ⟨_, rfl⟩
    have f2 : IntKind.u8.wrap (224 + (q2 : Int)) = (a1 : Int) := by rw [IntKind.wrap_u8']; omega
    have HC : Hid ([Value.int .u8 (a1 : Int), .int .u8 (b1 : Int), .int .u8 (b0 : Int)] = ([UInt8.ofNat (224 + r / 4096), UInt8.ofNat (128 + r / 64 % 64), UInt8.ofNat (128 + r % 64)] : List UInt8).map bV) := by
      unfold Hid; rw [byte_cell (b := a1) (n := 224 + r / 4096) (by omega) (by omega), byte_cell (b := b1) (n := 128 + r / 64 % 64) (by omega) (by omega), byte_cell (b := b0) (n := 128 + r % 64) (by omega) (by omega)]; rfl
    clear h1 h2 h3 hm0 hq1 hb0 ha1 hm1 hq2 hb1
    go_enter Tryd.func71, Tryd.ntmps71
    go_wp2
    go_ret
    refine ⟨_, rfl, ?_, bw_alloc _ _⟩
    rw [← HC.out]
    exact own_new w _ 5 3 rfl (by decide)
  have d3 : decide ((r : Int) < 65536) = false := decide_eq_false (by omega)
  rw [if_neg h3]
  obtain ⟨m2, hm2⟩ : ∃ m, m = q2 % 64 := ⟨_, rfl⟩
  have i4 : (q2 : Int) % 64 = (m2 : Int) := by omega
  obtain ⟨q3, hq3⟩ : ∃ q, q = r / 262144 := ⟨_, rfl⟩
  have i5 : (r : Int) / 262144 = (q3 : Int) := by omega
  obtain ⟨b2, hb2⟩ : ∃ b, b = 128 + m2 := ⟨_, rfl⟩
  have f2 : IntKind.u8.wrap (128 + (m2 : Int)) = (b2 : Int) := by rw [IntKind.wrap_u8']; omega
  obtain ⟨a1, ha1⟩ : ∃ b, b = 240 + q3 := ⟨_, rfl⟩
  have f3 : IntKind.u8.wrap (240 + (q3 : Int)) = (a1 : Int) := by rw [IntKind.wrap_u8']; omega
  have hm2i : (m2 : Int) < 64 := by omega
  have hm2n : 0 ≤ (m2 : Int) := by omega
  have hq3n : 0 ≤ (q3 : Int) := by omega
  have hq3i : (q3 : Int) ≤ 4 := by omega
  have HC : Hid ([Value.int .u8 (a1 : Int), .int .u8 (b2 : Int), .int .u8 (b1 : Int), .int .u8 (b0 : Int)] = ([UInt8.ofNat (240 + r / 262144), UInt8.ofNat (128 + r / 4096 % 64), UInt8.ofNat (128 + r / 64 % 64), UInt8.ofNat (128 + r % 64)] : List UInt8).map bV) := by
    unfold Hid; rw [byte_cell (b := a1) (n := 240 + r / 262144) (by omega) (by omega), byte_cell (b := b2) (n := 128 + r / 4096 % 64) (by omega) (by omega), byte_cell (b := b1) (n := 128 + r / 64 % 64) (by omega) (by omega), byte_cell (b := b0) (n := 128 + r % 64) (by omega) (by omega)]; rfl
  clear h1 h2 h3 hm0 hq1 hb0 ha1 hm1 hq2 hb1 hm2 hq3 hb2
  go_enter Tryd.func71, Tryd.ntmps71
  go_wp2
  go_ret
  refine ⟨_, rfl, ?_, bw_alloc _ _⟩
  rw [← HC.out]
  exact own_new w _ 5 4 rfl (by decide)
end Go.Proofs.YtljjaepadnmmeaaDoor
