/- The program's Runes: a range over the text, each rune handed on. -/
import Derived.Test.YtljjaepadnmmeaaDoorFldE
import Derived.Test.YtljjaepadnmmeaaDoorFlpA
import Derived.RangeFuncNested
import Derived.RangeFuncBound
import Derived.RangeFuncCalls
import Derived.RangeFuncLeaves
import Derived.RangeFuncBox
import Derived.Shelf.Abstract
import Derived.Shelf.RegionOpen
import Derived.OwnWalkIn
import Derived.TacticsInMore
import Derived.LoopNIn
import Derived.LoopIn
import Derived.WalkSmall
namespace Go.Proofs.YtljjaepadnmmeaaDoor
open Go.RowKit Go.Maps Fld Go.Shelf
attribute [local go_sem] Oper.semAt_some

/-- iterators stand as they stood -/
def KpB (_ : Nat) (W W' : World) : Prop := KeepsWalks W W'
theorem kpB_b {B : Nat} {w : World} (W : World) (l : Nat) (o o' : Obj) (_ : w.heap.size ≤ l) (h : W.heap[l]? = some o) (_ : o.isCells = false) (hw : o.isWalk = false) : KpB B W (W.putObj l o') := KeepsWalks.putObj _ h hw
theorem KpB.bw {B : Nat} {W W' : World} (h : BW W W') : KpB B W W' := ⟨h.size, fun k _ hk _ => (h.block k (Array.getElem?_eq_some_iff.1 hk).1).trans hk⟩
theorem KpB.set {B : Nat} (W : World) (a : Addr) (v : Value) : KpB B W (W.setCell a v) := KeepsWalks.setCell W a v
/-- a place and a rune -/
abbrev RX := { x : Nat × Nat // x.1 ≤ 1000000000000000 ∧ x.2 ≤ 1114111 }
def vals (xs : List RX) : List (Nat × Nat) := xs.map (·.1)
def encR (x : RX) : Array Value := #[.int .i64 (x.1.1 : Int), .int .i32 (x.1.2 : Int)]
theorem piece_le {l : List UInt8} (h : l ≠ []) : (nextL l).1 ≤ 1114111 := by
  rcases split_head h with ⟨c, h1, _⟩ | ⟨h1, _⟩
  · rw [h1]; decide
  · have := isRune_nat.1 h1; omega
theorem bw_grows {W W' : World} (h : BW W W') : W.grownBy W' none := ⟨h.os, h.tape, h.output, h.size, fun k hk _ => h.block k hk⟩
theorem iter_grows {W : World} {k : Nat} (s : ByteArray) (p : Nat) : W.grownBy (W.iterAt k s p) (some k) :=
  ⟨rfl, rfl, rfl, by rw [Lib.iterAt_size]; exact Nat.le_refl _, fun i _ hne => Lib.iterAt_other _ _ _ _ _ (fun e => hne (by rw [e]))⟩
set_option maxRecDepth 100000 in
set_option maxHeartbeats 2000000 in
theorem runes1_in (l : List UInt8) (hl : (l.length : Int) ≤ 1000000000000000) (m ly Bn : Nat) (hm : 1 ≤ m) (W : World) (J Jx : List RX → World → Prop) (hJ : AbidesFrom W.heap.size J)
    (hY : ∀ pre x W, J pre W → pre.length < (placesL l).length → vals (pre ++ [x]) <+: placesL l → YieldAt Fence.wide (m - 1) Tryd.prog ly (encR x) W fun e W' =>
      (e = .returned (.bool true) ∧ J (pre ++ [x]) W' ∧ KpB Bn W W') ∨ (e = .returned (.bool false) ∧ Jx (pre ++ [x]) W'))
    (hBn : W.cell? ⟨Bn, 0, none⟩ = some (textV l)) (h0 : J [] W) :
    CallsIn Fence.wide m Tryd.prog 74 #[.func (.yield ly) #[] #[], .pointer (some ⟨Bn, 0, none⟩)] W fun e W' => (∃ v, e = .returned v) ∧
      ((∃ xs, vals xs = placesL l ∧ J xs W') ∨ (∃ pre, vals pre <+: placesL l ∧ Jx pre W')) := by
  obtain ⟨ps, hps⟩ : ∃ ps, ps = placesL l := ⟨_, rfl⟩
  rw [← hps] at hY ⊢
  obtain ⟨s, hs⟩ : ∃ s, s = ByteArray.mk l.toArray := ⟨_, rfl⟩
  unfold textV at hBn
  rw [← hs] at hBn
  have hsz : s.size = l.length := by rw [hs]; exact text_size l
  have HDC : Hid (∀ k, k < l.length → Utf8.decode s k = nextL (l.drop k)) := fun k hk => by rw [hs]; exact decode_next hk
  obtain ⟨n, hn⟩ : ∃ n, n = l.length := ⟨_, rfl⟩
  rw [← hn] at hsz hl
  have HN := Lib.hid hn
  have HPS := Lib.hid hps
  have HY := Lib.hid hY
  have HJ := Lib.hid hJ
  have HJ0 : Hid (J [] (W.iter s 0)) := hJ [] W _ none h0 (bw_grows (bw_alloc W _)) (fun r e => by cases e)
  have HI0 : Hid ((W.iter s 0).heap[W.heap.size]? = some (.stringIter s 0)) := World.iter_heap W s 0
  clear hs hps hn hY hJ h0
  refine callsIn_of_wp Tryd.func74 rfl trivial ?_ rfl
  simp only [Tryd.ntmps74, List.size_toArray, List.length_cons, List.length_nil, Nat.reduceAdd, Nat.reduceSub, Array.replicate_succ, Array.replicate_zero, List.push_toArray, List.append_toArray, List.nil_append, List.cons_append]
  gi_wp2
  gi_loopw [3, 4] (fun _ _ wr => ∃ (k : Nat) (pre : List RX), k ≤ n ∧ ps = vals pre ++ placesC k (cutsL (l.drop k)) ∧ J pre wr ∧ wr.heap[W.heap.size]? = some (.stringIter s k)) (fun _ _ wr => n - wr.iterPos W.heap.size)
  case atStart => exact ⟨0, [], Nat.zero_le _, by rw [HPS.out, List.drop_zero]; rfl, HJ0.out, HI0.out⟩
  case round =>
    obtain ⟨k, pre, hk, hpl, hJs, hit⟩ := hrel
    by_cases hlt : k < n
    · have hnx : ∀ ty, (Instr.next (.pointer (some ⟨W.heap.size, 0, none⟩)) true ty).run Tryd.prog wr = _ := fun ty => Lib.run_next_any_at wr W.heap.size s k ty hit (by omega)
      have hkl : k < l.length := by rw [← HN.out]; exact hlt
      rw [HDC.out k hkl] at hnx
      have hst := places_step hkl
      have hpc := piece_le (drop_ne hkl)
      have hna := next_at hkl
      obtain ⟨p, hp⟩ : ∃ p, p = nextL (l.drop k) := ⟨_, rfl⟩
      rw [← hp] at hnx hst hpc hna
      obtain ⟨r, q⟩ := p
      simp only at hnx hst hpc hna
      rw [hst] at hpl
      obtain ⟨t, ht⟩ : ∃ t, t = k + q := ⟨_, rfl⟩
      rw [← ht] at hpl hnx
      have htn : t ≤ n := by have := HN.out; omega
      have hbk : k ≤ 1000000000000000 := by omega
      obtain ⟨x, hx⟩ : ∃ x : RX, x = ⟨(k, r), hbk, hpc⟩ := ⟨_, rfl⟩
      have HXE : Hid (encR x = #[.int .i64 (k : Int), .int .i32 (r : Int)]) := by unfold Hid; rw [hx]; rfl
      have HPL : Hid (ps = vals (pre ++ [x]) ++ placesC t (cutsL (l.drop t))) := by
        unfold Hid; rw [hpl, hx]; unfold vals; rw [List.map_append, List.append_assoc]; rfl
      have hpn : pre.length < ps.length := by
        rw [hpl, List.length_append, List.length_cons]; unfold vals; rw [List.length_map]; omega
      have HYX : Hid (∀ W, J pre W → YieldAt Fence.wide (m - 1) Tryd.prog ly #[.int .i64 (k : Int), .int .i32 (r : Int)] W fun e W' =>
          (e = .returned (.bool true) ∧ J (pre ++ [x]) W' ∧ KpB Bn W W') ∨ (e = .returned (.bool false) ∧ Jx (pre ++ [x]) W')) := fun W hW => by
        have h := HY.out pre x W hW hpn ⟨_, HPL.out.symm⟩
        rw [HXE.out] at h; exact h
      have HLT : Hid (k < t ∧ t ≤ n) := ⟨by omega, htn⟩
      obtain ⟨W2, hW2⟩ : ∃ W2, W2 = wr.iterAt W.heap.size s t := ⟨_, rfl⟩
      have hJ2 : J pre W2 := by
        rw [hW2]
        exact HJ.out pre wr _ (some W.heap.size) hJs (iter_grows s t) (fun r e => by cases e; exact ⟨Nat.le_refl _, _, hit, rfl⟩)
      have HIT2 : Hid (W2.heap[W.heap.size]? = some (.stringIter s t)) := by unfold Hid; rw [hW2]; exact Lib.iterAt_heap wr _ s k t hit
      have HM : Hid (wr.iterPos W.heap.size = k) := iterPos_of hit
      rw [← hW2] at hnx
      obtain ⟨fn, tmps, assign, body, hy, hR⟩ := HYX.out W2 hJ2
      clear hst hpc hna hp hpl ht hx hpn hbk hkl hlt hk htn hW2 hit hJs hJ2
      gi_wp2
      refine hR.mono ?_
      rintro e2 W3 (⟨rfl, hJ3, hk3⟩ | ⟨rfl, hJx3⟩)
      · have HK3 := Lib.hid hk3
        clear hk3
        gi_wp2
        go_roundw
        case rel => exact ⟨t, pre ++ [x], HLT.out.2, HPL.out, hJ3, HK3.out.same _ _ HIT2.out rfl⟩
        case measure => rw [HM.out, iterPos_of (HK3.out.same _ _ HIT2.out rfl)]; have := HLT.out; omega
      · gi_wp2
        refine bodyPost_ret (results_none rfl _ _ _) rfl ?_
        exact ⟨⟨_, rfl⟩, .inr ⟨_, ⟨_, HPL.out.symm⟩, hJx3⟩⟩
    · have hnx : ∀ ty, (Instr.next (.pointer (some ⟨W.heap.size, 0, none⟩)) true ty).run Tryd.prog wr = _ := fun ty => Lib.run_next_end_at wr W.heap.size s k ty hit (by omega)
      have HF : Hid (vals pre = ps) := by
        unfold Hid
        rw [hpl, List.drop_eq_nil_of_le (by have := HN.out; omega), cuts_nil, placesC, List.append_nil]
      clear hlt hk hpl hit
      gi_wp2
      go_end0
      exact ⟨⟨_, rfl⟩, .inl ⟨_, HF.out, hJs⟩⟩
theorem runes_in (l : List UInt8) (w : World) : Calls Tryd.prog 58 #[textV l] w fun e w' => e = .returned (.func (.func 74) #[] #[.pointer (some ⟨w.heap.size, 0, none⟩)]) ∧ w.alloc (.cells #[textV l] 9) = w' := by
  unfold textV
  go_enter Tryd.func58, Tryd.ntmps58
  go_wp2
  go_ret
  exact ⟨rfl, rfl⟩
theorem runes_stops (l : List UInt8) (hl : (l.length : Int) ≤ 1000000000000000) (m Bn : Nat) (hm : 1 ≤ m) (w : World) (hBn : Bn < w.heap.size) (hc : w.cell? ⟨Bn, 0, none⟩ = some (textV l)) :
    SeqStopsK Fence.wide m Tryd.prog 74 #[.pointer (some ⟨Bn, 0, none⟩)] encR (KpB Bn) (fun ys => vals ys = placesL l) (fun pre => vals pre <+: placesL l) (placesL l).length w := fun ly J Jx W hW hJ _ hY h0 =>
  runes1_in l hl m ly Bn hm W J Jx hJ (fun pre x W h1 h2 _ => hY pre x W h1 h2) ((hW.cell (p := ⟨Bn, 0, none⟩) hBn).trans hc) h0
end Go.Proofs.YtljjaepadnmmeaaDoor
