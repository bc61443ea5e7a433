/- pack.blocks: the iterator over a row's blocks. -/
import Derived.Test.YtdoliejihinpkaaRound
namespace Go.Proofs.Ytdoliejihinpkaa
open Go.RowKit Go.Maps Go.Shelf
attribute [local go_sem] Oper.semAt_some

/-- where a block begins and ends -/
abbrev Blk (n : Nat) := { p : Nat × Nat // p.1 < p.2 ∧ p.2 ≤ n ∧ p.2 ≤ p.1 + 128 }
def blk (n k : Nat) (h : 128 * k < n) : Blk n := ⟨(128 * k, min (128 * k + 128) n), by show 128 * k < min (128 * k + 128) n; omega, by show min (128 * k + 128) n ≤ n; omega, by show min (128 * k + 128) n ≤ 128 * k + 128; omega⟩
def upto (n : Nat) : Nat → List (Blk n)
  | 0 => []
  | k + 1 => if h : 128 * k < n then upto n k ++ [blk n k h] else upto n k
theorem upto_succ {n k : Nat} (h : 128 * k < n) : upto n (k + 1) = upto n k ++ [blk n k h] := by rw [upto, dif_pos h]
theorem upto_len (n : Nat) : ∀ k, (upto n k).length ≤ k
  | 0 => Nat.le_refl _
  | k + 1 => by
    have := upto_len n k
    rw [upto]
    split
    · rw [List.length_append]; simp; omega
    · omega
/-- a block lies as it lay -/
def KpB (B : Nat) (W W' : World) : Prop := W'.heap[B]? = W.heap[B]?
theorem KpB.cell {B : Nat} {W W' : World} (h : KpB B W W') : W'.cell? ⟨B, 0, none⟩ = W.cell? ⟨B, 0, none⟩ := World.cell?_of_block (w := W) (a := ⟨B, 0, none⟩) h
theorem kpB_b {B : Nat} {w : World} (hB : B < w.heap.size) (W : World) (l : Nat) (o o' : Obj) (hl : w.heap.size ≤ l) (h : W.heap[l]? = some o) (_ : o.isCells = false) (_ : o.isWalk = false) : KpB B W (W.putObj l o') :=
  (grownBy_putObj' W l o').block B (by have := (Array.getElem?_eq_some_iff.1 h).1; omega) (fun e => by cases e; omega)
def encB (n : Nat) (x : Blk n) : Array Value := #[.int .i64 (x.1.1 : Int), .int .i64 (x.1.2 : Int)]

set_option maxRecDepth 100000 in
set_option maxHeartbeats 1000000 in
theorem blocks1_in (n : Nat) (hn : n ≤ 1048576) (m l Bn : Nat) (hm : 1 ≤ m) (J Jx : List (Blk n) → World → Prop)
    (hY : ∀ pre x W, J pre W → pre.length < (n + 127) / 128 → YieldAt Fence.wide (m - 1) Try.prog l (encB n x) W fun e W' =>
      (e = .returned (.bool true) ∧ J (pre ++ [x]) W' ∧ KpB Bn W W') ∨ (e = .returned (.bool false) ∧ Jx (pre ++ [x]) W'))
    (W : World) (hBn : W.cell? ⟨Bn, 0, none⟩ = some (.int .i64 (n : Int))) (h0 : J [] W) :
    CallsIn Fence.wide m Try.prog 48 #[.func (.yield l) #[] #[], .pointer (some ⟨Bn, 0, none⟩)] W fun e W' => (∃ v, e = .returned v) ∧
      ((∃ ys, ys = upto n ((n + 127) / 128) ∧ J ys W') ∨ (∃ pre, (∃ k, k ≤ (n + 127) / 128 ∧ pre = upto n k) ∧ Jx pre W')) := by
  refine callsIn_of_wp Try.func48 rfl trivial ?_ rfl
  simp only [Try.ntmps48, List.size_toArray, List.length_cons, List.length_nil, Nat.reduceAdd, Nat.reduceSub, Array.replicate_succ, Array.replicate_zero, List.push_toArray, List.append_toArray, List.nil_append, List.cons_append]
  have hn1 : (n : Int) ≤ 1048576 := by omega
  gi_wp2
  gi_loopw [3] (fun u wr => ∃ k : Nat, u = .int .i64 ((128 * k : Nat) : Int) ∧ k ≤ (n + 127) / 128 ∧ J (upto n k) wr ∧ wr.cell? ⟨Bn, 0, none⟩ = some (.int .i64 (n : Int))) (fun u _ => n - (intOf u).toNat)
  case atStart => exact ⟨0, rfl, Nat.zero_le _, h0, hBn⟩
  case round =>
    obtain ⟨k, rfl, hk, hJs, hc⟩ := hrel
    by_cases hlt : 128 * k < n
    · have hlen := upto_len n k
      obtain ⟨fn, tmps, assign, body, hy, hR⟩ := hY (upto n k) (blk n k hlt) wr hJs (by omega)
      have hup := upto_succ hlt
      have hkk : k + 1 ≤ (n + 127) / 128 := by omega
      dsimp only [encB, blk] at hy
      obtain ⟨e, he⟩ : ∃ e, e = min (128 * k + 128) n := ⟨_, rfl⟩
      obtain ⟨t, ht⟩ : ∃ t, t = 128 * k := ⟨_, rfl⟩
      rw [← he, ← ht] at hy
      rw [← ht]
      have hmin : min ((t : Int) + 128) (n : Int) = (e : Int) := by omega
      have htn : (t : Int) < (n : Int) := by omega
      have ht0 : 0 ≤ (t : Int) := by omega
      obtain ⟨xb, hxb⟩ : ∃ xb, xb = blk n k hlt := ⟨_, rfl⟩
      rw [← hxb] at hR hup
      clear hxb
      have HUP := Lib.hid hup
      have HT := Lib.hid ht
      have HKK := Lib.hid hkk
      have HLT := Lib.hid hlt
      clear hup ht he hlen hlt hkk hk
      gi_wp2
      refine hR.mono ?_
      rintro e2 W3 (⟨rfl, hJ3, hk3⟩ | ⟨rfl, hJx3⟩)
      · have hc3 : W3.cell? ⟨Bn, 0, none⟩ = some (.int .i64 (n : Int)) := (KpB.cell hk3).trans hc
        have hJ4 : J (upto n (k + 1)) W3 := by rw [HUP.out]; exact hJ3
        gi_wp2
        go_roundw
        case rel => exact ⟨k + 1, by rw [HT.out]; go_num, HKK.out, hJ4, hc3⟩
        case measure => simp [intOf]; have := HT.out; omega
      · gi_wp2
        refine bodyPost_ret (results_none rfl _ _ _) rfl ?_
        exact ⟨⟨_, rfl⟩, .inr ⟨_, ⟨k + 1, HKK.out, HUP.out.symm⟩, hJx3⟩⟩
    · have hkk : k = (n + 127) / 128 := by omega
      obtain ⟨t, ht⟩ : ∃ t, t = 128 * k := ⟨_, rfl⟩
      have htn : (n : Int) ≤ (t : Int) := by omega
      rw [← ht]
      have HK := Lib.hid hkk
      clear hkk ht hlt
      gi_wp2
      go_end0
      exact ⟨⟨_, rfl⟩, .inl ⟨_, rfl, by rw [← HK.out]; exact hJs⟩⟩
theorem blocks_in (n : Int) (w : World) : Calls Try.prog 39 #[.int .i64 n] w fun e w' => e = .returned (.func (.func 48) #[] #[.pointer (some ⟨w.heap.size, 0, none⟩)]) ∧ w.alloc (.cells #[.int .i64 n] 3) = w' := by
  go_enter Try.func39, Try.ntmps39
  go_wp2
  go_ret
  exact ⟨rfl, rfl⟩
theorem blocks_stops (n : Nat) (hn : n ≤ 1048576) (m Bn : Nat) (hm : 1 ≤ m) (w : World) (hBn : Bn < w.heap.size) (hc : w.cell? ⟨Bn, 0, none⟩ = some (.int .i64 (n : Int))) :
    SeqStopsK Fence.wide m Try.prog 48 #[.pointer (some ⟨Bn, 0, none⟩)] (encB n) (KpB Bn) (fun ys => ys = upto n ((n + 127) / 128)) (fun pre => ∃ k, k ≤ (n + 127) / 128 ∧ pre = upto n k) ((n + 127) / 128) w := fun l J Jx W hW _ _ hY h0 =>
  blocks1_in n hn m l Bn hm J Jx hY W ((hW.cell (p := ⟨Bn, 0, none⟩) hBn).trans hc) h0
theorem KeepsOthers.of_bw {W W' : World} (h : BW W W') : KeepsOthers W W' := ⟨h.size, fun k o hk _ => (h.block k (Array.getElem?_eq_some_iff.1 hk).1).trans hk⟩
end Go.Proofs.Ytdoliejihinpkaa
