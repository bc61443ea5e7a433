/- Stage 7, the program: a number read, a text read. -/
import Derived.Test.YtghghekdheeknaaDoorOrdC
import Derived.Test.YtghghekdheeknaaDoorOrdF
namespace Go.Proofs.YtghghekdheeknaaDoor
open Go.RowKit Go.Maps Odr Go.Shelf
attribute [local go_sem] Oper.semAt_some

/-- a reader that was there already, and nothing else that was has turned -/
structure Mv (b : Nat) (w0 : World) (l : List UInt8) (w : World) : Prop where
  mv : Moves (fun k => k = b) w0 w
  blk : w.heap[b]? = some (rdr l)
  lt : b < w0.heap.size
theorem Mv.begin {b : Nat} {w : World} {l : List UInt8} (h : w.heap[b]? = some (rdr l)) : Mv b w l w := ⟨Moves.refl _ _, h, lt_of_heap h⟩
theorem Mv.alloc {b : Nat} {w0 w : World} {l : List UInt8} (h : Mv b w0 l w) (o : Obj) : Mv b w0 l (w.alloc o) := ⟨h.mv.alloc o, (Below.heap_alloc _ _ _ (lt_of_heap h.blk)).trans h.blk, h.lt⟩
theorem Mv.set {b : Nat} {w0 w : World} {l : List UInt8} (h : Mv b w0 l w) (r : List UInt8) : Mv b w0 r (w.setCell ⟨b, 0, none⟩ (textV r)) := ⟨h.mv.setCell (fun _ => rfl) _, by rw [heap_set h.blk]; rfl, h.lt⟩
theorem Mv.below {b : Nat} {w0 w w' : World} {l : List UInt8} (h : Mv b w0 l w) (hb : RowKit.Below w0.heap.size w w') : Mv b w0 l w' := by
  refine ⟨⟨hb.os.trans h.mv.os, hb.tape.trans h.mv.tape, hb.output.trans h.mv.output, Nat.le_trans h.mv.size hb.size, fun k hk hn => (hb.block k hk).trans (h.mv.block k hk hn)⟩, (hb.block b h.lt).trans h.blk, h.lt⟩
theorem Mv.trans {b : Nat} {w0 w w' : World} {l r : List UInt8} (h : Mv b w0 l w) (h2 : Mv b w r w') : Mv b w0 r w' := ⟨h.mv.trans h2.mv (fun _ _ h => h), h2.blk, h.lt⟩
theorem take_mv {f : Nat} {lb : Array Value} {p : UInt8 → Bool} (ef : ∀ args w, (callFunc f args).run Tryd.prog w = .ok (.enter f args) w) {b m : Nat} {l : List UInt8} {w0 w : World} (hb : Mv b w0 l w) (hm : (m : Int) ≤ 4611686018427387904) (hl : (l.length : Int) ≤ 4611686018427387904) (hf : Tells f lb p w) :
    Calls Tryd.prog 49 #[.pointer (some ⟨b, 0, none⟩), .int .i64 (m : Int), .func (.func f) #[] lb] w fun e W => e = .returned (textV (tk p m l)) ∧ Mv b w0 (rs p m l) W ∧ W = w.setCell ⟨b, 0, none⟩ (textV (rs p m l)) := by
  refine (take_any ef hb.blk hm hl hf).mono ?_
  rintro e W ⟨rfl, rfl⟩
  exact ⟨rfl, hb.set _, rfl⟩
theorem tk_true (m : Nat) (l : List UInt8) : tk (fun _ => true) m l = l.take m ∧ rs (fun _ => true) m l = l.drop m := by
  have e : tk (fun _ => true) m l = l.take m := by
    unfold tk
    have : ∀ x : List UInt8, x.takeWhile (fun _ => true) = x := by
      intro x; induction x with
      | nil => rfl
      | cons c t ih => rw [List.takeWhile_cons, if_pos rfl, ih]
    exact this _
  refine ⟨e, ?_⟩
  unfold rs; rw [e, List.length_take]
  by_cases h : m ≤ l.length
  · rw [Nat.min_eq_left h]
  · rw [Nat.min_eq_right (by omega), List.drop_length, List.drop_eq_nil_of_le (by omega)]
theorem take_each {b m : Nat} {l : List UInt8} {w0 w : World} (hb : Mv b w0 l w) (hm : (m : Int) ≤ 4611686018427387904) (hl : (l.length : Int) ≤ 4611686018427387904) :
    Calls Tryd.prog 49 #[.pointer (some ⟨b, 0, none⟩), .int .i64 (m : Int), .func (.func 60) #[] #[]] w fun e W => e = .returned (textV (l.take m)) ∧ Mv b w0 (l.drop m) W := by
  have h := take_mv e_each hb hm hl (tells_each w)
  rw [(tk_true m l).1, (tk_true m l).2] at h
  exact h.mono fun e W ⟨h1, h2, _⟩ => ⟨h1, h2⟩
theorem unbe_snoc (l : List UInt8) (c : UInt8) : unbe (l ++ [c]) = unbe l * 256 + c.toNat := by rw [unbe_app]; simp [unbe]
theorem unbe_from : ∀ (l : List UInt8) (x : Nat), l.foldl (fun a c => a * 256 + c.toNat) x < (x + 1) * 256 ^ l.length
  | [], x => by simp
  | c :: l, x => by
    rw [List.foldl_cons, List.length_cons, Nat.pow_succ]
    have h := unbe_from l (x * 256 + c.toNat)
    have hc := c.toNat_lt
    have h2 : (x * 256 + c.toNat + 1) * 256 ^ l.length ≤ (x + 1) * 256 * 256 ^ l.length := Nat.mul_le_mul_right _ (by omega)
    have h3 : (x + 1) * 256 * 256 ^ l.length = (x + 1) * (256 ^ l.length * 256) := by rw [Nat.mul_assoc, Nat.mul_comm 256]
    omega
theorem unbe_lt (l : List UInt8) : unbe l < 256 ^ l.length := by
  have := unbe_from l 0
  unfold unbe; omega
theorem or_byte {u c : Nat} (hu : u < 72057594037927936) (hc : c < 256) : bits .or .u64 ((u : Int) * 256) (c : Int) = ((u * 256 + c : Nat) : Int) := by
  have h1 : (u : Int) * 256 = ((u * 256 : Nat) : Int) := by omega
  rw [h1, u64_or_nat _ _ (by omega) (by omega)]
  refine congrArg (fun x : Nat => (x : Int)) ?_
  have := Nat.two_pow_add_eq_or_of_lt (i := 8) (b := c) (by omega) u
  rw [show (2 : Nat) ^ 8 = 256 from rfl, Nat.mul_comm] at this
  exact this.symm
theorem num_back {u : Nat} (h : u < 18446744073709551616) : bits .xor .u64 (u : Int) 9223372036854775808 = (((u + 9223372036854775808) % 18446744073709551616 : Nat) : Int) ∧ IntKind.i64.wrap (((u + 9223372036854775808) % 18446744073709551616 : Nat) : Int) = (u : Int) - 9223372036854775808 := by
  have := u64_xor_nat u 9223372036854775808 h (by decide)
  rw [show ((9223372036854775808 : Nat) : Int) = 9223372036854775808 from rfl] at this
  refine ⟨by rw [this, xor_sign h], ?_⟩
  rw [IntKind.wrap_i64]; omega
def NumPost (b : Nat) (w : World) (l : List UInt8) (e : Ending) (w' : World) : Prop := e = .returned (.tuple #[.int .i64 ((unbe (l.take 8) : Int) - 9223372036854775808), .bool (decide (8 ≤ l.length))]) ∧ Mv b w (l.drop 8) w'
set_option maxRecDepth 100000 in
set_option maxHeartbeats 2000000 in
theorem number_any {b : Nat} {l : List UInt8} {w : World} (hb : w.heap[b]? = some (rdr l)) (hl : (l.length : Int) ≤ 4611686018427387904) : Calls Tryd.prog 61 #[.pointer (some ⟨b, 0, none⟩)] w (NumPost b w l) := by
  have HT := Lib.hid (take_each (m := 8) (Mv.begin hb) (by decide) hl)
  obtain ⟨t, ht⟩ : ∃ t, t = l.take 8 := ⟨_, rfl⟩
  have htl : t.length = min 8 l.length := by rw [ht, List.length_take]
  obtain ⟨tx, htx⟩ : ∃ tx, tx = ByteArray.mk t.toArray := ⟨_, rfl⟩
  have hts : tx.size = t.length := by rw [htx]; exact text_size t
  have vt : textV t = .string tx := by rw [htx]; rfl
  have HGOAL : Hid (∀ W, Mv b w (l.drop 8) W → ∀ (n : Int) (q : Bool), n = (unbe t : Int) - 9223372036854775808 → q = decide (tx.size = 8) → NumPost b w l (.returned (.tuple #[.int .i64 n, .bool q])) W) := fun W h n q hn hq => by
    refine ⟨?_, h⟩
    rw [hn, ht, hq]
    have : decide (tx.size = 8) = decide (8 ≤ l.length) := by
      by_cases e : 8 ≤ l.length
      · rw [decide_eq_true e, decide_eq_true (by omega)]
      · rw [decide_eq_false e, decide_eq_false (by omega)]
    rw [this]
  rw [← ht, vt] at HT
  have hs8 : tx.size ≤ 8 := by omega
  have hsi : (tx.size : Int) ≤ 8 := by omega
  have HTX := Lib.hid htx; have HTS := Lib.hid hts
  clear hb hl ht htl vt htx hts
  go_enter Tryd.func61, Tryd.ntmps61
  go_wp2_with fail
  refine HT.out.mono ?_
  rintro e W2 ⟨rfl, h2⟩
  have H2 := Lib.hid h2
  clear h2 HT
  go_wp2
  go_loopw [4, 11] (fun s4 s11 wr => ∃ (i u : Nat), wr = W2 ∧ i ≤ tx.size ∧ s11 = .int .i64 (i : Int) ∧ s4 = .int .u64 (u : Int) ∧ u = unbe (t.take i)) (fun _ s11 _ => tx.size - (intOf s11).toNat)
  case atStart => exact ⟨0, 0, rfl, Nat.zero_le _, rfl, rfl, by simp [unbe]⟩
  case round =>
    obtain ⟨i, u, rfl, hi, rfl, rfl, hu⟩ := hrel
    have hi0 : 0 ≤ (i : Int) := by omega
    have hul : u < 256 ^ i := by
      rw [hu]; refine Nat.lt_of_lt_of_le (unbe_lt _) (Nat.pow_le_pow_right (by decide) ?_); rw [List.length_take]; omega
    have hu0 : 0 ≤ (u : Int) := by omega
    by_cases hlt : i < tx.size
    · have hli : (i : Int) < (tx.size : Int) := by omega
      have hil : i < t.length := by rw [← HTS.out]; exact hlt
      obtain ⟨d, hd⟩ : ∃ d, d = t[i] := ⟨_, rfl⟩
      have hxi : ((tx[i]'hlt).toNat : Int) = (d.toNat : Int) := by
        rw [hd]; have := HTX.out; subst this; rfl
      have hu56 : u < 72057594037927936 := Nat.lt_of_lt_of_le hul (show 256 ^ i ≤ 72057594037927936 from (show (256 : Nat) ^ 7 = 72057594037927936 from rfl) ▸ Nat.pow_le_pow_right (by decide) (by omega))
      have hor := or_byte hu56 d.toNat_lt
      have HN : Hid (u * 256 + d.toNat = unbe (t.take (i + 1))) := by
        unfold Hid
        rw [List.take_add_one, List.getElem?_eq_getElem hil, Option.toList_some, unbe_snoc, ← hu, hd]
      have hui : (u : Int) ≤ 72057594037927935 := by omega
      have HLT := Lib.hid hlt
      have hd255 : (d.toNat : Int) ≤ 255 := by have := d.toNat_lt; omega
      have hd0 : 0 ≤ (d.toNat : Int) := by omega
      generalize d.toNat = x at hxi hor HN hd255 hd0
      obtain ⟨u2, hu2⟩ : ∃ u2, u2 = u * 256 + x := ⟨_, rfl⟩
      rw [← hu2] at hor HN
      clear hu2 hd hil hu56 hul hu hi
      go_wp2
      go_roundw
      case rel => exact ⟨i + 1, u2, by first | rfl | trivial, HLT.out, by first | rfl | go_num, by first | rfl | go_num, HN.out⟩
      case measure => simp [intOf]; have := HLT.out; omega
    · have hli : (tx.size : Int) ≤ (i : Int) := by omega
      have huu : u = unbe t := by rw [hu, List.take_of_length_le (by have := HTS.out; omega)]
      have hu64 : u < 18446744073709551616 := Nat.lt_of_lt_of_le hul (show 256 ^ i ≤ 18446744073709551616 from (show (256 : Nat) ^ 8 = 18446744073709551616 from rfl) ▸ Nat.pow_le_pow_right (by decide) (by omega))
      obtain ⟨hx1, hx2⟩ := num_back hu64
      generalize ((u + 9223372036854775808) % 18446744073709551616 : Nat) = y at hx1 hx2
      have HUU := Lib.hid huu
      clear hul hlt hi hu hu64 huu
      go_wp2
      go_ret2
      exact HGOAL.out _ H2.out _ _ (by rw [← HUU.out]) (by by_cases e : tx.size = 8 <;> simp [e] <;> omega)
end Go.Proofs.YtghghekdheeknaaDoor
