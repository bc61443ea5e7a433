/- pack.Bits. -/
import Derived.Test.YtdoliejihinpkaaPackD
import Derived.Outline
import Derived.Deep.LoopGhost
import Derived.WalkMore
import Derived.Laws.OwnMore
namespace Go.Proofs.Ytdoliejihinpkaa
open Go.RowKit Go.Maps

theorem made_zero (z : Value) (hz : z.cells = #[z]) (n : Nat) : (madeCells z.cells (n * 1)).toList = List.replicate n z := by
  rw [hz]
  apply List.ext_getElem?
  intro j
  rw [List.getElem?_replicate]
  by_cases hj : j < n
  · simp [madeCells, hj, Nat.mod_one]
  · simp [madeCells, hj]
theorem make_zero {t e : TypeId} {z : Value} {bytes : Nat} (ht : Try.prog.underlying t = some (.slice e)) (hinfo : (Try.prog.info? e).map (fun i => (i.zero, i.size, i.bytes)) = some (some z, 1, bytes)) (hz : z.cells = #[z]) (n : Nat) (hb : bytes * n ≤ 281474976710656) (hn : (n : Int) ≤ 9223372036854775807) (w : World) :
    ∃ w1, (Instr.makeSlice t (.int .i64 (n : Int)) (.int .i64 (n : Int))).run Try.prog w = .ok (.slice (some ⟨w.heap.size, 0, none⟩) n n) w1 ∧ w1.ownsRow w.heap.size e 1 (.slice (some ⟨w.heap.size, 0, none⟩) n n) n (List.replicate n z) ∧ BW w w1 := by
  obtain ⟨i0, hi, hz0, hz1, hz2⟩ := infoOf hinfo
  obtain ⟨w1, hr, ho, hg⟩ := run_make_full (P := Try.prog) (w := w) w.heap.size t e i0 z 1 ht hi hz0 hz1 .i64 .i64 n (by rw [hz2]; exact hb) (by unfold maxLen; omega) (Nat.le_refl _)
  rw [made_zero z hz] at ho
  exact ⟨w1, hr, ho, bw_grown (BW.refl w) hg (fun k e => by cases e)⟩
theorem info_u64 : (Try.prog.info? 52).map (fun i => (i.zero, i.size, i.bytes)) = some (some (.int .u64 0), 1, 8) := by kernel_rfl
theorem info_i64 : (Try.prog.info? 2).map (fun i => (i.zero, i.size, i.bytes)) = some (some (.int .i64 0), 1, 8) := by kernel_rfl
theorem byte_small {n : Nat} (h : n < 256) : bV (UInt8.ofNat n) = .int .u8 (n : Int) := by
  unfold bV; rw [UInt8.toNat_ofNat', Nat.mod_eq_of_lt h]
theorem zeros_bytes (n : Nat) : List.replicate n (Value.int .u8 0) = (bytesOf n 0).map bV := by
  rw [bytesOf_zero, List.map_replicate]; rfl

theorem bits_none {w : World} {v : Value} {n : Int} (h1 : -9223372036854775808 ≤ n) (h2 : n ≤ 9223372036854775807) (hn : ¬ (0 ≤ n ∧ n ≤ 64)) : Calls Try.prog 12 #[v, .int .i64 n] w fun e w' => e = .returned (.slice none 0 0) ∧ w = w' := by
  have H := Lib.hid (isWidth_any n w h1 h2)
  have HD := Lib.hid (decide_eq_false hn)
  clear hn h1 h2
  go_enter Try.func12, Try.ntmps12
  go_wp2
  go_step3
  go_wp2_with (go_at_call 33; refine H.out.mono ?_; rintro e w' ⟨rfl, rfl⟩; rw [HD.out])
  try rw [Exit.noGoto_ret]
  go_ret
  exact ⟨rfl, rfl⟩

/-- a piece of a number goes into a row of bytes -/
theorem piece_into {k : Nat} {l : List Nat} {i x d m r c pn : Nat} (hx : l[i]? = some x) (hd : d + m ≤ k) (hm : m + r ≤ 8) (hr : (k * i + d) % 8 = r) (hpn : (k * i + d) / 8 < pn) (hc : (bytesOf pn (rowN k (l.take i) + 2 ^ (k * i) * (x % 2 ^ d)))[(k * i + d) / 8]? = some (UInt8.ofNat c)) (hc2 : c < 256) :
    c < 2 ^ r ∧ c + 2 ^ r * (x / 2 ^ d % 2 ^ m) < 256 ∧ bytesOf pn (rowN k (l.take i) + 2 ^ (k * i) * (x % 2 ^ (d + m))) = (bytesOf pn (rowN k (l.take i) + 2 ^ (k * i) * (x % 2 ^ d))).set ((k * i + d) / 8) (UInt8.ofNat (c + 2 ^ r * (x / 2 ^ d % 2 ^ m))) := by
  subst hr
  have hil : i < l.length := (List.getElem?_eq_some_iff.1 hx).1
  have hN : rowN k (l.take i) + 2 ^ (k * i) * (x % 2 ^ d) < 2 ^ (k * i + d) := by
    have h1 := rowN_lt k (l.take i)
    rw [List.length_take, Nat.min_eq_left (by omega)] at h1
    have h2 : 2 ^ (k * i) * (x % 2 ^ d + 1) ≤ 2 ^ (k * i) * 2 ^ d := Nat.mul_le_mul_left _ (Nat.mod_lt _ (two_pos d))
    rw [Nat.mul_add, Nat.mul_one] at h2
    rw [Nat.pow_add]; omega
  have hp : x / 2 ^ d % 2 ^ m < 2 ^ m := Nat.mod_lt _ (two_pos m)
  obtain ⟨h1, h2⟩ := bytesOf_add (k := pn) hN hp hpn hm
  rw [bytesOf_get _ _ _ hpn] at hc
  have hr8 : 2 ^ ((k * i + d) % 8) ≤ 2 ^ 8 := Nat.pow_le_pow_right (by decide) (by omega)
  have e : c = (rowN k (l.take i) + 2 ^ (k * i) * (x % 2 ^ d)) / 256 ^ ((k * i + d) / 8) := by
    injection hc with hc
    have := congrArg UInt8.toNat hc
    rw [UInt8.toNat_ofNat', UInt8.toNat_ofNat', Nat.mod_mod, Nat.mod_eq_of_lt (Nat.lt_of_lt_of_le h1 hr8)] at this
    omega
  rw [← e] at h1 h2
  have hs : c + 2 ^ ((k * i + d) % 8) * (x / 2 ^ d % 2 ^ m) < 256 := by
    have h3 : 2 ^ ((k * i + d) % 8) * (x / 2 ^ d % 2 ^ m + 1) ≤ 2 ^ ((k * i + d) % 8) * 2 ^ m := Nat.mul_le_mul_left _ hp
    rw [← Nat.pow_add] at h3
    have h4 : 2 ^ ((k * i + d) % 8 + m) ≤ 2 ^ 8 := Nat.pow_le_pow_right (by decide) (by omega)
    rw [Nat.mul_add, Nat.mul_one] at h3
    omega
  refine ⟨h1, hs, ?_⟩
  rw [← h2]
  congr 1
  rw [Nat.pow_add 2 d m, Nat.mod_mul, Nat.pow_add 2 (k * i) d, Nat.mul_add, Nat.mul_assoc, Nat.add_assoc]

end Go.Proofs.Ytdoliejihinpkaa
