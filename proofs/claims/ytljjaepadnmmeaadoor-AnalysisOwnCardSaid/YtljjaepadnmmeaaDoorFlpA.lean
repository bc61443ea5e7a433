/- Plain: Go's own decoder, forms and tests of a rune are those of the document. -/
import Derived.Test.YtljjaepadnmmeaaDoorFldN
import Derived.Lib.DecodeN
import Derived.Lib.SpaceU
import Derived.Lib.RuneBytes
import Derived.Lib.Small
namespace Go.Proofs.YtljjaepadnmmeaaDoor
namespace Fld
theorem valid_rune (r : Int) : Lib.validRune r = isRune r := by
  unfold Lib.validRune isRune
  rw [decide_eq_decide]; omega
theorem rune_len {r : Nat} (h : isRune (r : Int) = true) : Lib.runeLen (r : Int) = ((formP r).length : Int) := by
  have h' := isRune_nat.1 h
  rw [form_len]
  unfold Lib.runeLen
  repeat' split
  all_goals first | rfl | (exfalso; omega)
theorem toU8 {x : Int} {n : Nat} (h : x = (n : Int)) : x.toNat.toUInt8 = UInt8.ofNat n := by subst h; rfl
theorem encode_form {r : Nat} (h : isRune (r : Int) = true) : Lib.encodeRune (r : Int) = formP r := by
  have h' := isRune_nat.1 h
  unfold Lib.encodeRune
  by_cases h1 : r < 128
  · rw [Lib.encodeRuneZ_one (by omega) (by omega)]
    unfold formP; rw [if_pos h1]; rfl
  by_cases h2 : r < 2048
  · rw [Lib.encodeRuneZ_two (by omega) (by omega)]
    unfold formP; rw [if_neg h1, if_pos h2]
    simp only [List.map_cons, List.map_nil]
    rw [toU8 (show (192 : Int) + (r : Int) / 64 = ((192 + r / 64 : Nat) : Int) by omega), toU8 (show (128 : Int) + (r : Int) % 64 = ((128 + r % 64 : Nat) : Int) by omega)]
  by_cases h3 : r < 65536
  · rw [Lib.encodeRuneZ_three (by omega)]
    unfold formP; rw [if_neg h1, if_neg h2, if_pos h3]
    simp only [List.map_cons, List.map_nil]
    rw [toU8 (show (224 : Int) + (r : Int) / 4096 = ((224 + r / 4096 : Nat) : Int) by omega), toU8 (show (128 : Int) + (r : Int) / 64 % 64 = ((128 + r / 64 % 64 : Nat) : Int) by omega), toU8 (show (128 : Int) + (r : Int) % 64 = ((128 + r % 64 : Nat) : Int) by omega)]
  · rw [Lib.encodeRuneZ_four (by omega) (by omega)]
    unfold formP; rw [if_neg h1, if_neg h2, if_neg h3]
    simp only [List.map_cons, List.map_nil]
    rw [toU8 (show (240 : Int) + (r : Int) / 262144 = ((240 + r / 262144 : Nat) : Int) by omega), toU8 (show (128 : Int) + (r : Int) / 4096 % 64 = ((128 + r / 4096 % 64 : Nat) : Int) by omega), toU8 (show (128 : Int) + (r : Int) / 64 % 64 = ((128 + r / 64 % 64 : Nat) : Int) by omega), toU8 (show (128 : Int) + (r : Int) % 64 = ((128 + r % 64 : Nat) : Int) by omega)]
theorem utf8_valid (r : Int) : Utf8.valid r = isRune r := by
  unfold Utf8.valid isRune
  rw [Bool.eq_iff_iff]
  simp only [Bool.or_eq_true, Bool.and_eq_true, decide_eq_true_eq]
  omega
/-- what a conversion of a rune to a text makes -/
theorem utf8_encode {r : Nat} (h : isRune (r : Int) = true) : Utf8.encode (r : Int) = ⟨(formP r).toArray⟩ := by
  have h' := isRune_nat.1 h
  unfold Utf8.encode
  rw [utf8_valid, h]
  simp only [if_true, Int.toNat_natCast]
  unfold formP
  by_cases h1 : r < 128
  · rw [if_pos h1, if_pos h1]
  by_cases h2 : r < 2048
  · rw [if_neg h1, if_neg h1, if_pos h2, if_pos h2]
  by_cases h3 : r < 65536
  · rw [if_neg h1, if_neg h1, if_neg h2, if_neg h2, if_pos h3, if_pos h3]
  · rw [if_neg h1, if_neg h1, if_neg h2, if_neg h2, if_neg h3, if_neg h3]
theorem isRune_false {r : Nat} (h : ¬ (r ≤ 1114111 ∧ (r < 55296 ∨ 57343 < r))) : isRune (r : Int) = false := by
  cases e : isRune (r : Int) with
  | false => rfl
  | true => exact absurd (isRune_nat.1 e) h
theorem u8_eq {n : Nat} {b : UInt8} (h : n < 256) : UInt8.ofNat n = b ↔ n = b.toNat := by
  rw [← UInt8.toNat_inj, u8n h]
theorem form2_iff {r : Nat} {b c : UInt8} : formP r = [b, c] ↔ ((128 ≤ r ∧ r < 2048) ∧ 192 + r / 64 = b.toNat ∧ 128 + r % 64 = c.toNat) := by
  unfold formP
  by_cases h1 : r < 128
  · rw [if_pos h1]; constructor
    · intro h; simp at h
    · intro h; omega
  by_cases h2 : r < 2048
  · rw [if_neg h1, if_pos h2]
    simp only [List.cons.injEq, and_true]
    rw [u8_eq (by omega), u8_eq (by omega)]
    constructor
    · intro h; exact ⟨by omega, h⟩
    · intro h; exact h.2
  by_cases h3 : r < 65536
  · rw [if_neg h1, if_neg h2, if_pos h3]; constructor
    · intro h; simp at h
    · intro h; omega
  · rw [if_neg h1, if_neg h2, if_neg h3]; constructor
    · intro h; simp at h
    · intro h; omega
theorem form3_iff {r : Nat} {b c d : UInt8} : formP r = [b, c, d] ↔ ((2048 ≤ r ∧ r < 65536) ∧ 224 + r / 4096 = b.toNat ∧ 128 + r / 64 % 64 = c.toNat ∧ 128 + r % 64 = d.toNat) := by
  unfold formP
  by_cases h1 : r < 128
  · rw [if_pos h1]; constructor
    · intro h; simp at h
    · intro h; omega
  by_cases h2 : r < 2048
  · rw [if_neg h1, if_pos h2]; constructor
    · intro h; simp at h
    · intro h; omega
  by_cases h3 : r < 65536
  · rw [if_neg h1, if_neg h2, if_pos h3]
    simp only [List.cons.injEq, and_true]
    rw [u8_eq (by omega), u8_eq (by omega), u8_eq (by omega)]
    constructor
    · intro h; exact ⟨by omega, h⟩
    · intro h; exact h.2
  · rw [if_neg h1, if_neg h2, if_neg h3]; constructor
    · intro h; simp at h
    · intro h; omega
theorem form4_iff {r : Nat} {b c d e : UInt8} (hr : r ≤ 2097151) : formP r = [b, c, d, e] ↔ (65536 ≤ r ∧ 240 + r / 262144 = b.toNat ∧ 128 + r / 4096 % 64 = c.toNat ∧ 128 + r / 64 % 64 = d.toNat ∧ 128 + r % 64 = e.toNat) := by
  unfold formP
  by_cases h1 : r < 128
  · rw [if_pos h1]; constructor
    · intro h; simp at h
    · intro h; omega
  by_cases h2 : r < 2048
  · rw [if_neg h1, if_pos h2]; constructor
    · intro h; simp at h
    · intro h; omega
  by_cases h3 : r < 65536
  · rw [if_neg h1, if_neg h2, if_pos h3]; constructor
    · intro h; simp at h
    · intro h; omega
  · rw [if_neg h1, if_neg h2, if_neg h3]
    simp only [List.cons.injEq, and_true]
    rw [u8_eq (by omega), u8_eq (by omega), u8_eq (by omega), u8_eq (by omega)]
    constructor
    · intro h; exact ⟨by omega, h⟩
    · intro h; exact h.2
/-- the numbers of the first four bytes -/
def nth (l : List UInt8) (k : Nat) : Nat := match l[k]? with | some b => b.toNat | none => 0
theorem nth_lt (l : List UInt8) (k : Nat) : nth l k < 256 := by unfold nth; split <;> first | exact UInt8.toNat_lt _ | omega
set_option maxHeartbeats 4000000 in
/-- the decoder's numbers are those of the document's reading -/
theorem decodeN_next : ∀ (l : List UInt8), l ≠ [] → ∀ b1 b2 b3 : Nat, (1 < l.length → b1 = nth l 1) → (2 < l.length → b2 = nth l 2) → (3 < l.length → b3 = nth l 3) → Lib.decodeN l.length (nth l 0) b1 b2 b3 = nextL l := by
  intro l hl b1 b2 b3 e1 e2 e3
  match l, hl with
  | b :: t, _ =>
    have hb : b.toNat < 256 := UInt8.toNat_lt b
    have h0 : nth (b :: t) 0 = b.toNat := rfl
    rw [h0]
    unfold Lib.decodeN nextL
    by_cases c0 : b.toNat < 128
    · rw [if_pos c0]; simp only [if_pos c0]
    rw [if_neg c0]; simp only [if_neg c0]
    by_cases c2 : 192 ≤ b.toNat ∧ b.toNat < 224
    · have hL : leadN b.toNat = 2 := by unfold leadN; rw [if_pos c2]
      have hH : highN b.toNat = b.toNat - 192 := by unfold highN; rw [if_pos c2.2]
      simp only [hL, hH]
      match t, e1 with
      | [], _ =>
        rw [if_neg (by simp), if_neg (by simp), if_neg (by simp), if_neg (by simp)]
      | c :: t', e1 =>
        have e1' : b1 = c.toNat := e1 (by simp)
        have hc : c.toNat < 256 := UInt8.toNat_lt c
        subst e1'
        have hg : gath (b.toNat - 192) (List.take (2 - 1) (c :: t')) = (b.toNat - 192) * 64 + c.toNat % 64 := rfl
        rw [hg]
        have ht : List.take 2 (b :: c :: t') = [b, c] := rfl
        rw [ht]; simp only [form2_iff, isRune_nat]
        by_cases c1 : c.toNat / 64 = 2
        · rw [if_pos ⟨by omega, by simp, c1⟩]
          by_cases c3 : b.toNat % 32 * 64 + c.toNat % 64 ≥ 128
          · rw [if_pos c3, if_pos ⟨by omega, by simp, ⟨by omega, by omega⟩, by omega⟩, show b.toNat % 32 = b.toNat - 192 by omega]
          · rw [if_neg c3, if_neg (by omega)]
        · rw [if_neg (fun h => c1 h.2.2), if_neg (by omega), if_neg (by omega), if_neg (by omega)]
    by_cases c3 : 224 ≤ b.toNat ∧ b.toNat < 240
    · have hL : leadN b.toNat = 3 := by unfold leadN; rw [if_neg c2, if_pos c3]
      have hH : highN b.toNat = b.toNat - 224 := by unfold highN; rw [if_neg (by omega), if_pos c3.2]
      simp only [hL, hH]
      rw [if_neg (by omega)]
      match t, e1, e2 with
      | [], _, _ =>
        rw [if_neg (by simp), if_neg (by simp), if_neg (by simp)]
      | [c], _, _ =>
        rw [if_neg (by simp), if_neg (by simp), if_neg (by simp)]
      | c :: d :: t', e1, e2 =>
        have e1' : b1 = c.toNat := e1 (by simp)
        have e2' : b2 = d.toNat := e2 (by simp)
        have hc : c.toNat < 256 := UInt8.toNat_lt c
        have hd : d.toNat < 256 := UInt8.toNat_lt d
        subst e1'; subst e2'
        have hg : gath (b.toNat - 224) (List.take (3 - 1) (c :: d :: t')) = ((b.toNat - 224) * 64 + c.toNat % 64) * 64 + d.toNat % 64 := rfl
        rw [hg]
        have ht : List.take 3 (b :: c :: d :: t') = [b, c, d] := rfl
        rw [ht]; simp only [form3_iff, isRune_nat]
        by_cases c1 : c.toNat / 64 = 2 ∧ d.toNat / 64 = 2
        · rw [if_pos ⟨by omega, ⟨by simp, c1.1⟩, by simp, c1.2⟩]
          have hv : b.toNat % 16 * 4096 + c.toNat % 64 * 64 + d.toNat % 64 = ((b.toNat - 224) * 64 + c.toNat % 64) * 64 + d.toNat % 64 := by omega
          rw [hv]
          by_cases c5 : ((b.toNat - 224) * 64 + c.toNat % 64) * 64 + d.toNat % 64 ≥ 2048 ∧ (((b.toNat - 224) * 64 + c.toNat % 64) * 64 + d.toNat % 64 < 55296 ∨ (57344 ≤ ((b.toNat - 224) * 64 + c.toNat % 64) * 64 + d.toNat % 64 ∧ ((b.toNat - 224) * 64 + c.toNat % 64) * 64 + d.toNat % 64 ≤ 1114111))
          · rw [if_pos c5, if_pos ⟨by omega, by simp, ⟨by omega, by omega⟩, by omega⟩]
          · rw [if_neg c5, if_neg (by omega)]
        · rw [if_neg (by omega), if_neg (by omega), if_neg (by omega)]
    by_cases c4 : 240 ≤ b.toNat ∧ b.toNat < 248
    · have hL : leadN b.toNat = 4 := by unfold leadN; rw [if_neg c2, if_neg c3, if_pos c4]
      have hH : highN b.toNat = b.toNat - 240 := by unfold highN; rw [if_neg (by omega), if_neg (by omega)]
      simp only [hL, hH]
      rw [if_neg (by omega), if_neg (by omega)]
      match t, e1, e2, e3 with
      | [], _, _, _ => rw [if_neg (by simp), if_neg (by simp)]
      | [c], _, _, _ => rw [if_neg (by simp), if_neg (by simp)]
      | [c, d], _, _, _ => rw [if_neg (by simp), if_neg (by simp)]
      | c :: d :: x :: t', e1, e2, e3 =>
        have e1' : b1 = c.toNat := e1 (by simp)
        have e2' : b2 = d.toNat := e2 (by simp)
        have e3' : b3 = x.toNat := e3 (by simp)
        have hc : c.toNat < 256 := UInt8.toNat_lt c
        have hd : d.toNat < 256 := UInt8.toNat_lt d
        have hx : x.toNat < 256 := UInt8.toNat_lt x
        subst e1'; subst e2'; subst e3'
        have hg : gath (b.toNat - 240) (List.take (4 - 1) (c :: d :: x :: t')) = (((b.toNat - 240) * 64 + c.toNat % 64) * 64 + d.toNat % 64) * 64 + x.toNat % 64 := rfl
        rw [hg]
        have ht : List.take 4 (b :: c :: d :: x :: t') = [b, c, d, x] := rfl
        have hf := @form4_iff ((((b.toNat - 240) * 64 + c.toNat % 64) * 64 + d.toNat % 64) * 64 + x.toNat % 64) b c d x (by omega)
        rw [ht]; simp only [hf, isRune_nat]
        by_cases c1 : c.toNat / 64 = 2 ∧ d.toNat / 64 = 2 ∧ x.toNat / 64 = 2
        · rw [if_pos ⟨by omega, ⟨by simp, c1.1⟩, ⟨by simp, c1.2.1⟩, by simp, c1.2.2⟩]
          have hv : b.toNat % 8 * 262144 + c.toNat % 64 * 4096 + d.toNat % 64 * 64 + x.toNat % 64 = (((b.toNat - 240) * 64 + c.toNat % 64) * 64 + d.toNat % 64) * 64 + x.toNat % 64 := by omega
          rw [hv]
          by_cases c5 : (((b.toNat - 240) * 64 + c.toNat % 64) * 64 + d.toNat % 64) * 64 + x.toNat % 64 ≥ 65536 ∧ (((b.toNat - 240) * 64 + c.toNat % 64) * 64 + d.toNat % 64) * 64 + x.toNat % 64 ≤ 1114111
          · rw [if_pos ⟨c5.1, by omega⟩, if_pos ⟨by omega, by simp, ⟨by omega, by omega⟩, by omega⟩]
          · rw [if_neg (by omega), if_neg (by omega)]
        · rw [if_neg (by omega), if_neg (by omega)]
    · have hL : leadN b.toNat = 0 := by unfold leadN; rw [if_neg c2, if_neg c3, if_neg c4]
      simp only [hL]
      rw [if_neg (by omega), if_neg (by omega), if_neg (by omega), if_neg (by omega)]
theorem get_nth (l : List UInt8) (i : Nat) (h : i < l.length) : ((⟨l.toArray⟩ : ByteArray).get! i).toNat = nth l i := by
  unfold nth
  rw [List.getElem?_eq_getElem h]
  show ((⟨l.toArray⟩ : ByteArray).get! i).toNat = (l[i]).toNat
  congr 1
  show (l.toArray)[i]! = _
  rw [getElem!_pos l.toArray i (by simpa using h)]
  simp
theorem nth_drop (l : List UInt8) (i k : Nat) : nth (l.drop i) k = nth l (i + k) := by unfold nth; rw [List.getElem?_drop]
/-- Go's decoder at a place of a text -/
theorem decode_next {l : List UInt8} {k : Nat} (h : k < l.length) : Utf8.decode ⟨l.toArray⟩ k = nextL (l.drop k) := by
  rw [Lib.decode_at]
  have hs : (⟨l.toArray⟩ : ByteArray).size = l.length := by simp [ByteArray.size]
  have hd : (l.drop k).length = l.length - k := List.length_drop
  rw [hs, ← hd, get_nth l k h, show nth l k = nth (l.drop k) 0 by rw [nth_drop]; rfl]
  refine decodeN_next (l.drop k) (by intro e; rw [e] at hd; simp at hd; omega) _ _ _ ?_ ?_ ?_ <;>
    (intro hlt; rw [nth_drop]; exact get_nth l _ (by omega))
theorem decodeL_next {l : List UInt8} (h : l ≠ []) : Lib.decodeL l = nextL l := by
  unfold Lib.decodeL
  have := decode_next (l := l) (k := 0) (List.length_pos_iff.2 h)
  rwa [List.drop_zero] at this
end Fld
end Go.Proofs.YtljjaepadnmmeaaDoor
