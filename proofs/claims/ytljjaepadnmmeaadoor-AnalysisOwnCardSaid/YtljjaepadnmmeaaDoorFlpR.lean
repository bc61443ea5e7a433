/- A range over a function whose elements come in a known order: the body is walked for those alone. -/
import Derived.Test.YtljjaepadnmmeaaDoorFlpE
namespace Go.Proofs.YtljjaepadnmmeaaDoor
open Go.RowKit Go.Maps Fld Go.Shelf

theorem KeepsOthers.of_bw {W W' : World} (h : BW W W') : KeepsOthers W W' := ⟨h.size, fun k _ hk _ => (h.block k (Array.getElem?_eq_some_iff.1 hk).1).trans hk⟩
abbrev fr2 (T : Array Value) (k1 k2 : Nat) (x : RX) : Array Value := (T.setIfInBounds k1 (.int .i64 (x.1.1 : Int))).setIfInBounds k2 (.int .i32 (x.1.2 : Int))
abbrev fr4 (T : Array Value) (j1 j2 k1 k2 : Nat) (x : RX) : Array Value := ((fr2 T k1 k2 x).setIfInBounds j1 (.int .i64 (x.1.1 : Int))).setIfInBounds j2 (.int .i32 (x.1.2 : Int))
set_option maxHeartbeats 1000000 in
theorem range_all {P : Program} {n : Nat} {g : Operand} {j1 j2 k1 k2 : Nat} {assign body : Code} {Q : Exit → Act → World → Prop} {T : Array Value} {ds : List Deferred} {w : World}
    (h1 : 1 ≤ n) {gf : Nat} {lb : Array Value} (hg : (Act.mk T ds).eval g = .func (.func gf) #[] lb) (eg : ∀ args w, (callFunc gf args).run P w = .ok (.enter gf args) w) {S Tr : List RX → Prop}
    (hseq : ∀ (l : Nat) (J : List RX → World → Prop) (W : World), RowKit.Below w.heap.size w W → AbidesFrom W.heap.size J →
      (∀ pre x W1, J pre W1 → Tr (pre ++ [x]) → YieldAt Fence.wide (n - 1 - 1) P l (encR x) W1 fun e W' => e = .returned (.bool true) ∧ J (pre ++ [x]) W' ∧ KeepsWalks W1 W') →
      J [] W → CallsIn Fence.wide (n - 1) P gf (#[.func (.yield l) #[] #[]] ++ lb) W fun e W' => (∃ v, e = .returned v) ∧ ∃ xs, S xs ∧ J xs W')
    (I : List RX → World → Prop) (hI : OwnFrom w.heap.size I) (h0 : I [] w)
    (hassign : ∀ (l : Nat) (x : RX) (W : World) (K : Act → World → Prop), K { tmps := fr4 T j1 j2 k1 k2 x, defers := [] } W →
      assign.wpIn (Fence.wide.inRound l) (n - 1 - 1) P (Exit.then K (fun _ _ _ => False)) { tmps := fr2 T k1 k2 x, defers := [] } W)
    (hbody : ∀ (l : Nat) (pre : List RX) (x : RX) (W : World), I pre W → Tr (pre ++ [x]) →
      body.wpIn (Fence.wide.inRound l) (n - 1 - 1) P (ownPostG w.heap.size KeepsWalks I (fun _ _ _ => False) (pre ++ [x]) W) { tmps := fr4 T j1 j2 k1 k2 x, defers := [] } W)
    (hdone : ∀ (D : Nat) (xs : List RX) (W : World), w.heap.size ≤ D → S xs → I xs W → W.heap[D]? = some (.deferred (some [])) → Q .normal { tmps := T, defers := { target := .collected D, args := #[] } :: ds } W) :
    (Code.rangeFunc g #[k1, k2] assign body).wpIn Fence.wide n P Q { tmps := T, defers := ds } w := by
  refine wpIn_rangeFunc fun fn hfn => ?_
  have hno : Fence.wide.round = none := rfl
  rw [hno]
  -- the loop's record at rest and at work, and the two blocks that keep the books
  obtain ⟨R, hR⟩ : ∃ R : LoopState → Option Code → Loop, R = fun st pe => { state := st, pending := pe, fn, tmps := T, params := #[k1, k2], assign, body, defers := w.heap.size } := ⟨_, rfl⟩
  obtain ⟨N, hN⟩ : ∃ N, N = w.heap.size := ⟨_, rfl⟩
  have rest (st pe) : (R st pe).state = st := by rw [hR]
  obtain ⟨V, hV⟩ : ∃ V, (w.alloc (.deferred (some []))).alloc (.loop (R .ready none)) = V := ⟨_, rfl⟩
  have bLoop : V.heap[N + 1]? = some (.loop (R .ready none)) := by
    have := World.alloc_heap_new (w.alloc (.deferred (some []))) (.loop (R .ready none))
    rw [World.size_alloc] at this; rw [← hV, hN]; exact this
  have bDef : V.heap[N]? = some (.deferred (some [])) := by
    rw [← hV, hN]; exact (Below.heap_alloc _ _ _ (by simp)).trans (World.alloc_heap_new w _)
  have bBel : RowKit.Below w.heap.size w V := by rw [← hV]; exact ((Below.refl _ w).alloc (Nat.le_refl _) _).alloc (by simp) _
  have bSz : V.heap.size = N + 2 := by rw [← hV, hN]; simp
  have bI : I [] V := by rw [← hV]; exact hI.alloc _ (hI.alloc _ h0)
  let Books : List RX → World → Prop := fun pre W => I pre W ∧ W.heap[N + 1]? = some (.loop (R .ready none)) ∧ W.heap[N]? = some (.deferred (some []))
  have hBooks : AbidesFrom V.heap.size Books := fun pre A B row hs hgr hr =>
    ⟨hI pre A B row hs.1 hgr (fun r e => by obtain ⟨h2, o, h3, h4⟩ := hr r e; exact ⟨by omega, o, h3, Obj.not_cells_of_walk h4⟩),
      (grownBy_keeps hgr (fun r e => (hr r e).2) hs.2.1 rfl).trans hs.2.1, (grownBy_keeps hgr (fun r e => (hr r e).2) hs.2.2 rfl).trans hs.2.2⟩
  have hRound : ∀ pre x W1, Books pre W1 → Tr (pre ++ [x]) → YieldAt Fence.wide (n - 1 - 1) P (N + 1) (encR x) W1 fun e W' => e = .returned (.bool true) ∧ Books (pre ++ [x]) W' ∧ KeepsWalks W1 W' := by
    rintro pre x W ⟨hi, hl, hk⟩ htr
    have hlt : N + 1 < W.heap.size := (Array.getElem?_eq_some_iff.1 hl).1
    have hy := run_yield (P := P) (args := encR x) hl (by rw [hR]; rfl)
    rw [hR] at hy
    have hfr : ((#[k1, k2] : Array Tmp).zip (encR x)).foldl (fun t (p, v) => t.setIfInBounds p v) T = fr2 T k1 k2 x := by simp [encR, fr2]
    refine ⟨fn, _, assign, body, hy, roundIn_of_wpIn hfn ?_⟩
    show Code.wpIn _ _ P assign _ { tmps := ((#[k1, k2] : Array Tmp).zip (encR x)).foldl (fun t (p, v) => t.setIfInBounds p v) T, defers := [] } W
    rw [hfr]
    refine hassign _ x W _ ?_
    refine ⟨_, run_beginRound hl (by rw [hR]), ?_⟩
    obtain ⟨W2, hW2⟩ : ∃ W2, W2 = W.putObj (N + 1) (.loop { R .ready none with state := .busy }) := ⟨_, rfl⟩
    rw [← hW2]
    have hl2 : W2.heap[N + 1]? = some (.loop { R .ready none with state := .busy }) := by rw [hW2]; exact World.putObj_heap_same hlt
    have hk2 : W2.heap[N]? = some (.deferred (some [])) := by rw [hW2]; exact (World.putObj_heap_other (by omega)).trans hk
    have hi2 : I pre W2 := by rw [hW2]; exact hI.putObj _ hi (by omega) hl rfl
    have hw2 : KeepsWalks W W2 := by rw [hW2]; exact KeepsWalks.putObj _ hl rfl
    refine wpIn_mono (hbody _ pre x W2 hi2 htr) ?_
    rintro e a3 W3 hp
    cases e with
    | normal =>
      obtain ⟨hk3, hkp3, hi3⟩ := hp
      have hl3 := hk3.same _ _ (by omega) hl2 rfl
      have hd3 := hk3.same _ _ (by omega) hk2 rfl
      have he := run_endRound (P := P) none hl3
      have hlt3 : N + 1 < W3.heap.size := (Array.getElem?_eq_some_iff.1 hl3).1
      rw [hR] at he
      refine ⟨_, _, he, rfl, ⟨hI.putObj _ hi3 (by omega) hl3 rfl, ?_, (World.putObj_heap_other (by omega)).trans hd3⟩, (hw2.trans hkp3).trans (KeepsWalks.putObj _ hl3 rfl)⟩
      rw [hR]; exact World.putObj_heap_same hlt3
    | ret => exact hp.2.elim
    | exit id => exact hp.2.elim
    | goto t => exact hp.2.elim
    | panic ch => exact hp.elim
    | outgrown => exact hp.elim
  refine ⟨N + 1, [{ target := .collected N, args := #[] }], V, { target := .fn (.func gf) lb, args := #[.func (.yield (N + 1)) #[] #[]] }, V, gf, #[.func (.yield (N + 1)) #[] #[]] ++ lb, V, ?_, ?_, ?_, ?_, fun _ => h1, ?_⟩
  · rw [← hV, hR, hN]; exact run_enterLoop_outer _ _ _ _ _
  · simp only [resolve, hg]
    simp [go_sem]
  · intro f' _; trivial
  · simp [invoke, go_sem, eg]
  · refine (hseq (N + 1) Books V bBel hBooks hRound ⟨bI, bLoop, bDef⟩).mono ?_
    rintro e W2 ⟨⟨v, rfl⟩, xs, hS, hi, hl, hk⟩
    have he := run_endLoop (P := P) hl (by rw [hR]; simp)
    rw [hR] at he
    exact ⟨none, _, he, hdone _ xs _ (by omega) hS (hI.putObj _ hi (by omega) hl rfl) (by rw [hN] at hk ⊢; exact (World.putObj_heap_other (by omega)).trans hk)⟩
end Go.Proofs.YtljjaepadnmmeaaDoor
