/- pack.Unbits: parts. -/
import Derived.Test.YtdoliejihinpkaaPackF
namespace Go.Proofs.Ytdoliejihinpkaa
open Go.RowKit Go.Maps

theorem digs_snoc (w i N : Nat) : digs w (i + 1) N = digs w i N ++ [N / 2 ^ (w * i) % 2 ^ w] := by
  apply List.ext_getElem?
  intro j
  by_cases h : j < i
  · rw [digs_get _ _ _ _ (by omega), List.getElem?_append_left (by rw [digs_len]; exact h), digs_get _ _ _ _ h]
  · by_cases h2 : j = i
    · subst h2
      rw [digs_get _ _ _ _ (by omega), List.getElem?_append_right (by rw [digs_len]; omega), digs_len]; simp
    · rw [List.getElem?_eq_none (by rw [digs_len]; omega), List.getElem?_eq_none (by rw [List.length_append, digs_len]; simp; omega)]
/-- what stands in the row of numbers: i are read whole, h bits of the next -/
def part (k n i h N : Nat) : List Nat := (digs k i N ++ List.replicate (n - i) 0).set i (N / 2 ^ (k * i) % 2 ^ h)
theorem part_zero {k n i N : Nat} : digs k i N ++ List.replicate (n - i) 0 = part k n i 0 N := by
  unfold part
  apply List.ext_getElem?
  intro j
  rw [List.getElem?_set]
  by_cases e : i = j
  · subst e
    rw [if_pos rfl, List.getElem?_append_right (by rw [digs_len]; omega), digs_len, Nat.sub_self, List.getElem?_replicate]
    by_cases h : i < n
    · rw [if_pos (by omega), if_pos (by rw [List.length_append, digs_len, List.length_replicate]; omega)]; simp [Nat.mod_one]
    · rw [if_neg (by omega), if_neg (by rw [List.length_append, digs_len, List.length_replicate]; omega)]
  · rw [if_neg e]
theorem part_full {k n i N : Nat} (h : i < n) : part k n i k N = digs k (i + 1) N ++ List.replicate (n - (i + 1)) 0 := by
  unfold part
  rw [List.set_append_right _ _ (by rw [digs_len]; omega), digs_len, Nat.sub_self, digs_snoc, show n - i = (n - (i + 1)) + 1 by omega, List.replicate_succ, List.set_cons_zero, List.append_assoc]
  rfl
theorem part_len {k n i h N : Nat} (hi : i ≤ n) : (part k n i h N).length = n := by
  unfold part; rw [List.length_set, List.length_append, digs_len, List.length_replicate]; omega
theorem part_get {k n i h N : Nat} (hi : i < n) : (part k n i h N)[i]? = some (N / 2 ^ (k * i) % 2 ^ h) := by
  unfold part; rw [List.getElem?_set_self]; rw [List.length_append, digs_len, List.length_replicate]; omega
theorem part_set {k n i h h2 N : Nat} : (part k n i h N).set i (N / 2 ^ (k * i) % 2 ^ h2) = part k n i h2 N := by
  unfold part; rw [List.set_set]
theorem mod_lt64 {x h : Nat} (hh : h ≤ 64) : x % 2 ^ h < 18446744073709551616 := Nat.lt_of_lt_of_le (Nat.mod_lt _ (two_pos h)) (Nat.pow_le_pow_right (n := 2) (by decide) hh)

/-- the next piece: where it stands and what it is -/
theorem unbits_step {bs : List UInt8} {k n i h m r q t ki N pn : Nat} (hN : N = n256 bs) (hlen : bs.length = pn) (hpn : pn = packed n k) (hki : ki = k * i) (ht : t = ki + h) (hq : q = t / 8) (hr : r = t % 8) (hi : i < n) (hd : h + m ≤ k) (hm1 : 1 ≤ m) (hm : m + r ≤ 8) (hk : k ≤ 64) :
    q < pn ∧ ∃ c : Nat, c < 256 ∧ (bs.map bV)[q]? = some (.int .u8 (c : Int)) ∧ c / 2 ^ r % 2 ^ m = N / 2 ^ t % 2 ^ m ∧
      N / 2 ^ ki % 2 ^ (h + m) = N / 2 ^ ki % 2 ^ h + 2 ^ h * (N / 2 ^ t % 2 ^ m) ∧ 2 ^ h * (N / 2 ^ t % 2 ^ m) < 18446744073709551616 := by
  have hqp : q < pn := by
    have h1 : k * (i + 1) ≤ k * n := Nat.mul_le_mul_left _ hi
    rw [Nat.mul_succ, ← hki] at h1
    rw [hpn]; unfold packed
    rw [Nat.mul_comm n]; omega
  have hql : t / 8 < bs.length := by omega
  have h1 := n256_piece (m := m) hql (by omega)
  have h2 := digit_grows N ki h m
  rw [← ht] at h2
  refine ⟨hqp, (bs[t / 8]).toNat, (bs[t / 8]).toNat_lt, ?_, by rw [hN, hr]; exact h1, h2, ?_⟩
  · rw [hq, List.getElem?_map, List.getElem?_eq_getElem hql]; rfl
  · have h3 := mod_lt64 (x := N / 2 ^ ki) (show h + m ≤ 64 by omega)
    omega

def UnbPost (w : World) (bs : List UInt8) (k n : Nat) (e : Ending) (w' : World) : Prop :=
  ∃ (v : Value) (er : Int), e = .returned (.tuple #[v, .int .i64 er]) ∧ BW w w' ∧
    ((∃ l, unbitsP bs k n = some l ∧ er = 0 ∧ w'.ownsRow w.heap.size 52 1 v l.length (l.map uV)) ∨ (unbitsP bs k n = none ∧ er = 20 ∧ v = .slice none 0 0))
theorem unb_bad {w w' : World} {bs : List UInt8} {k n : Nat} (h : unbitsP bs k n = none) (hb : BW w w') : UnbPost w bs k n (.returned (.tuple #[.slice none 0 0, .int .i64 20])) w' := ⟨_, _, rfl, hb, .inr ⟨h, rfl, rfl⟩⟩
theorem unb_ok {w w' : World} {bs : List UInt8} {k n : Nat} {v : Value} {l : List Nat} (h : unbitsP bs k n = some l) (hb : BW w w') (ho : w'.ownsRow w.heap.size 52 1 v l.length (l.map uV)) : UnbPost w bs k n (.returned (.tuple #[v, .int .i64 0])) w' := ⟨_, _, rfl, hb, .inl ⟨l, h, rfl, ho⟩⟩
def ArgPost (w : World) (e : Ending) (w' : World) : Prop := e = .returned (.tuple #[.slice none 0 0, .int .i64 1]) ∧ w = w'

theorem unbits_arg {w : World} {v : Value} {k n : Int} (h1 : -9223372036854775808 ≤ k) (h2 : k ≤ 9223372036854775807) (h3 : -9223372036854775808 ≤ n) (h4 : n ≤ 9223372036854775807) (hn : ¬ (0 ≤ k ∧ k ≤ 64) ∨ ¬ (0 ≤ n ∧ n ≤ 1048576)) : Calls Try.prog 14 #[v, .int .i64 k, .int .i64 n] w (ArgPost w) := by
  have H := Lib.hid (isWidth_any k w h1 h2)
  have H2 := Lib.hid (isLength_any n w h3 h4)
  by_cases hk : 0 ≤ k ∧ k ≤ 64
  · have HD := Lib.hid (decide_eq_true hk)
    have HD2 := Lib.hid (decide_eq_false (show ¬ (0 ≤ n ∧ n ≤ 1048576) by rcases hn with h | h; exact absurd hk h; exact h))
    clear hn h1 h2 h3 h4 hk
    go_enter Try.func14, Try.ntmps14
    go_wp2_with (first | (go_at_call 33; refine H.out.mono ?_; rintro e w' ⟨rfl, rfl⟩; rw [HD.out]) | (go_at_call 36; refine H2.out.mono ?_; rintro e w' ⟨rfl, rfl⟩; rw [HD2.out]))
    go_ret2
    exact ⟨rfl, rfl⟩
  · have HD := Lib.hid (decide_eq_false hk)
    clear hn h1 h2 h3 h4 hk
    go_enter Try.func14, Try.ntmps14
    go_wp2_with (go_at_call 33; refine H.out.mono ?_; rintro e w' ⟨rfl, rfl⟩; rw [HD.out])
    go_ret2
    exact ⟨rfl, rfl⟩
theorem unbits_len {w : World} {ao : Option Addr} {cap : Nat} {bs : List UInt8} {k n : Nat} (hk : k ≤ 64) (hn : n ≤ 1048576) (hb : (bs.length : Int) ≤ 9223372036854775807) (hl : bs.length ≠ packed n k) : Calls Try.prog 14 #[.slice ao bs.length cap, .int .i64 (k : Int), .int .i64 (n : Int)] w (UnbPost w bs k n) := by
  have H := Lib.hid (isWidth_any (k : Int) w (by omega) (by omega))
  have HD := Lib.hid (show decide (0 ≤ (k : Int) ∧ (k : Int) ≤ 64) = true from decide_eq_true (by omega))
  have H2 := Lib.hid (isLength_any (n : Int) w (by omega) (by omega))
  have HD2 := Lib.hid (show decide (0 ≤ (n : Int) ∧ (n : Int) ≤ 1048576) = true from decide_eq_true (by omega))
  have HP := Lib.hid (packedBytes_any n k w (by omega) hk)
  have hne : ((bs.length : Int) != (packed n k : Int)) = true := by simp; omega
  have HN : Hid (unbitsP bs k n = none) := by unfold Hid unbitsP; rw [if_neg fun h => hl h.1]
  generalize packed n k = pn at *
  generalize bs.length = bn at *
  clear hl hk hn
  go_enter Try.func14, Try.ntmps14
  go_wp2_with (first | (go_at_call 33; refine H.out.mono ?_; rintro e w' ⟨rfl, rfl⟩; rw [HD.out]) | (go_at_call 36; refine H2.out.mono ?_; rintro e w' ⟨rfl, rfl⟩; rw [HD2.out]) | (go_at_call 34; refine HP.out.mono ?_; rintro e w' ⟨rfl, rfl⟩))
  go_ret2
  exact unb_bad HN.out (BW.refl _)
end Go.Proofs.Ytdoliejihinpkaa
