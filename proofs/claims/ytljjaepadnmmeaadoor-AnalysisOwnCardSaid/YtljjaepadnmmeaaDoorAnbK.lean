/- A range over a function whose body may leave it, told of its own record's block: an iterator may hold a loop of its own over an iterator. -/
import Derived.Test.YtljjaepadnmmeaaDoorAnbH
namespace Go.Proofs.YtljjaepadnmmeaaDoor
open Go.RowKit Go.Maps Fld Ana Go.Shelf

theorem room_any (n : Nat) : Fence.wide.room n := fun d h => by cases h
theorem round_lift {n k : Nat} {P : Program} {l : Nat} {f : FuncId} {tmps : Array Value} {assign body : Code} {w : World} {R : Ending → World → Prop} (h : RoundIn Fence.wide n P l f tmps assign body w R) : RoundIn Fence.wide k P l f tmps assign body w R :=
  ⟨h.1, fun c cs _ => h.2 c cs (room_any _)⟩
theorem round_in {n k : Nat} (l0 : Nat) {P : Program} {l : Nat} {f : FuncId} {tmps : Array Value} {assign body : Code} {w : World} {R : Ending → World → Prop} (h : RoundIn Fence.wide n P l f tmps assign body w R) : RoundIn (Fence.wide.inRound l0) k P l f tmps assign body w R :=
  round_lift h
theorem yield_lift {n k : Nat} {P : Program} {l : Nat} {args : Array Value} {W : World} {R : Ending → World → Prop} (h : YieldAt Fence.wide n P l args W R) : YieldAt Fence.wide k P l args W R := by
  obtain ⟨fn, tmps, assign, body, hy, hR⟩ := h
  exact ⟨fn, tmps, assign, body, hy, round_lift hR⟩
theorem OwnFrom.abides {β : Type} {B : Nat} {J : β → World → Prop} (h : OwnFrom B J) : AbidesFrom B J := fun s W W' row hs hg hr => h s W W' row hs hg fun r e => by
  obtain ⟨h1, o, h2, h3⟩ := hr r e; exact ⟨h1, o, h2, Obj.not_cells_of_walk h3⟩
theorem OwnFrom.mono {β : Type} {B N : Nat} {J : β → World → Prop} (h : OwnFrom B J) (hB : B ≤ N) : OwnFrom N J := fun s W W' row hs hg hr => h s W W' row hs hg fun r e => by
  obtain ⟨h1, h2⟩ := hr r e; exact ⟨by omega, h2⟩
theorem grown_keeps {W W' : World} {row : Option Nat} {b : Nat} {o : Obj} (hg : W.grownBy W' row) (hb : W.heap[b]? = some o) (hne : row ≠ some b) : W'.heap[b]? = some o :=
  (hg.block b (Array.getElem?_eq_some_iff.1 hb).1 (fun e => hne e.symm)).trans hb
/-- what an iterator may count on: whatever the rounds may do, told of the block of the loop's record -/
def IterAt {α : Type} (P : Program) (gf : Nat) (lb : Array Value) (enc : α → Array Value) (Kp : Nat → World → World → Prop) (S Sp Tr : List α → Prop) (w : World) : Prop :=
  ∀ (l : Nat) (J Jx : List α → World → Prop) (W : World), w.heap.size ≤ l → l < W.heap.size → RowKit.Below w.heap.size w W → OwnFrom W.heap.size J → OwnFrom W.heap.size Jx →
    (∀ pre x W1, J pre W1 → Tr (pre ++ [x]) → YieldAt Fence.wide 0 P l (enc x) W1 fun e W' => (e = .returned (.bool true) ∧ J (pre ++ [x]) W' ∧ Kp l W1 W') ∨ (e = .returned (.bool false) ∧ Jx (pre ++ [x]) W' ∧ Kp l W1 W')) →
    J [] W → Calls P gf (#[.func (.yield l) #[] #[]] ++ lb) W fun e W' => (∃ v, e = .returned v) ∧ ((∃ xs, S xs ∧ J xs W') ∨ (∃ pre, Sp pre ∧ Jx pre W'))
/-- how the body of a round may be left: whatever the way, the iterator's word is kept -/
def ownP {α : Type} (B : Nat) (Kp : World → World → Prop) (I : List α → World → Prop) (Ix : Code → List α → World → Prop) (xs : List α) (W : World) : Exit → Act → World → Prop
  | .normal, _, W' => KeepsFrom B W W' ∧ Kp W W' ∧ I xs W'
  | .ret, _, W' => KeepsFrom B W W' ∧ Kp W W' ∧ Ix .ret xs W'
  | .exit id, _, W' => KeepsFrom B W W' ∧ Kp W W' ∧ Ix (.exit id) xs W'
  | .goto t, _, W' => KeepsFrom B W W' ∧ Kp W W' ∧ Ix (.goto t) xs W'
  | .panic _, _, _ => False
  | .outgrown, _, _ => False
set_option maxHeartbeats 1000000 in
theorem range_k {α : Type} {enc : α → Array Value} {ks : Array Tmp} {P : Program} {n : Nat} {g : Operand} {assign body : Code} {Q : Exit → Act → World → Prop} {T : Array Value} {ds : List Deferred} {w : World}
    (h1 : 1 ≤ n) {gf : Nat} {lb : Array Value} (hg : (Act.mk T ds).eval g = .func (.func gf) #[] lb) (eg : ∀ args w, (callFunc gf args).run P w = .ok (.enter gf args) w) (hks : ∀ x, (enc x).size = ks.size)
    {Kp : Nat → World → World → Prop} {S Sp Tr : List α → Prop} (hseq : IterAt P gf lb enc Kp S Sp Tr w)
    (hKt : ∀ {A B C : World}, Kp (w.heap.size + 1) A B → Kp (w.heap.size + 1) B C → Kp (w.heap.size + 1) A C)
    (hKb : ∀ (W : World) (o o' : Obj), W.heap[w.heap.size + 1]? = some o → o.isCells = false → o.isWalk = false → Kp (w.heap.size + 1) W (W.putObj (w.heap.size + 1) o'))
    (I : List α → World → Prop) (Ix : Code → List α → World → Prop) (hI : OwnFrom w.heap.size I) (hIx : ∀ c, OwnFrom w.heap.size (Ix c)) (h0 : I [] w) (FA : α → Array Value)
    (hassign : ∀ (l : Nat) (x : α) (W : World) (K : Act → World → Prop), K { tmps := FA x, defers := [] } W →
      assign.wpIn (Fence.wide.inRound l) (n - 1 - 1) P (Exit.then K (fun _ _ _ => False)) { tmps := (ks.zip (enc x)).foldl (fun t (p, v) => t.setIfInBounds p v) T, defers := [] } W)
    (hbody : ∀ (pre : List α) (x : α) (W : World), w.heap.size + 2 ≤ W.heap.size → I pre W → Tr (pre ++ [x]) →
      body.wpIn (Fence.wide.inRound (w.heap.size + 1)) (n - 1 - 1) P (ownP w.heap.size (Kp (w.heap.size + 1)) I Ix (pre ++ [x]) W) { tmps := FA x, defers := [] } W)
    (hdone : ∀ (D : Nat) (xs : List α) (W : World), w.heap.size ≤ D → S xs → I xs W → W.heap[D]? = some (.deferred (some [])) → Q .normal { tmps := T, defers := { target := .collected D, args := #[] } :: ds } W)
    (hstop : ∀ (D : Nat) (c : Code) (pre : List α) (W : World), w.heap.size ≤ D → Sp pre → Ix c pre W → W.heap[D]? = some (.deferred (some [])) → c.wpIn Fence.wide n P Q { tmps := T, defers := { target := .collected D, args := #[] } :: ds } W) :
    (Code.rangeFunc g ks assign body).wpIn Fence.wide n P Q { tmps := T, defers := ds } w := by
  refine wpIn_rangeFunc fun fn hfn => ?_
  have hno : Fence.wide.round = none := rfl
  rw [hno]
  obtain ⟨R, hR⟩ : ∃ R : LoopState → Option Code → Loop, R = fun st pe => { state := st, pending := pe, fn, tmps := T, params := ks, assign, body, defers := w.heap.size } := ⟨_, rfl⟩
  obtain ⟨N, hN⟩ : ∃ N, N = w.heap.size := ⟨_, rfl⟩
  obtain ⟨V, hV⟩ : ∃ V, (w.alloc (.deferred (some []))).alloc (.loop (R .ready none)) = V := ⟨_, rfl⟩
  have bLoop : V.heap[N + 1]? = some (.loop (R .ready none)) := by
    have := World.alloc_heap_new (w.alloc (.deferred (some []))) (.loop (R .ready none))
    rw [World.size_alloc] at this; rw [← hV, hN]; exact this
  have bDef : V.heap[N]? = some (.deferred (some [])) := by
    rw [← hV, hN]; exact (Below.heap_alloc _ _ _ (by simp)).trans (World.alloc_heap_new w _)
  have bBel : RowKit.Below w.heap.size w V := by rw [← hV]; exact ((Below.refl _ w).alloc (Nat.le_refl _) _).alloc (by simp) _
  have bSz : V.heap.size = N + 2 := by rw [← hV, hN]; simp
  have bI : I [] V := by rw [← hV]; exact hI.alloc _ (hI.alloc _ h0)
  rw [← hN] at hKt hKb hbody hI hIx bBel hdone hstop hR
  let Books : List α → World → Prop := fun pre W => I pre W ∧ W.heap[N + 1]? = some (.loop (R .ready none)) ∧ W.heap[N]? = some (.deferred (some [])) ∧ N + 2 ≤ W.heap.size
  let BooksX : List α → World → Prop := fun pre W => ∃ c, Ix c pre W ∧ W.heap[N + 1]? = some (.loop (R .done (some c))) ∧ W.heap[N]? = some (.deferred (some []))
  have hBooks : OwnFrom V.heap.size Books := fun pre A B row hs hgr hr =>
    ⟨hI pre A B row hs.1 hgr (fun r e => by obtain ⟨h2, h3⟩ := hr r e; exact ⟨by omega, h3⟩),
      grown_keeps hgr hs.2.1 (fun e => by have := (hr _ e).1; omega), grown_keeps hgr hs.2.2.1 (fun e => by have := (hr _ e).1; omega), Nat.le_trans hs.2.2.2 hgr.size⟩
  have hBooksX : OwnFrom V.heap.size BooksX := fun pre A B row hs hgr hr => by
    obtain ⟨c, hc, h2, h3⟩ := hs
    exact ⟨c, hIx c pre A B row hc hgr (fun r e => by obtain ⟨h2, h3⟩ := hr r e; exact ⟨by omega, h3⟩),
      grown_keeps hgr h2 (fun e => by have := (hr _ e).1; omega), grown_keeps hgr h3 (fun e => by have := (hr _ e).1; omega)⟩
  have hRound : ∀ pre x W1, Books pre W1 → Tr (pre ++ [x]) → YieldAt Fence.wide (n - 1 - 1) P (N + 1) (enc x) W1 fun e W' =>
      (e = .returned (.bool true) ∧ Books (pre ++ [x]) W' ∧ Kp (N + 1) W1 W') ∨ (e = .returned (.bool false) ∧ BooksX (pre ++ [x]) W' ∧ Kp (N + 1) W1 W') := by
    rintro pre x W ⟨hi, hl, hk, hs⟩ htr
    have hlt : N + 1 < W.heap.size := (Array.getElem?_eq_some_iff.1 hl).1
    have hy := run_yield (P := P) (args := enc x) hl (by rw [hR]; exact hks x)
    rw [hR] at hy
    refine ⟨fn, _, assign, body, hy, roundIn_of_wpIn hfn (hassign _ x W _ ⟨_, run_beginRound hl (by rw [hR]), ?_⟩)⟩
    obtain ⟨W2, hW2⟩ : ∃ W2, W2 = W.putObj (N + 1) (.loop { R .ready none with state := .busy }) := ⟨_, rfl⟩
    rw [← hW2]
    have hl2 : W2.heap[N + 1]? = some (.loop { R .ready none with state := .busy }) := by rw [hW2]; exact World.putObj_heap_same hlt
    have hk2 : W2.heap[N]? = some (.deferred (some [])) := by rw [hW2]; exact (World.putObj_heap_other (by omega)).trans hk
    have hi2 : I pre W2 := by rw [hW2]; exact hI.putObj _ hi (by omega) hl rfl
    have hs2 : N + 2 ≤ W2.heap.size := by rw [hW2]; simpa [World.putObj] using hs
    have hw2 : Kp (N + 1) W W2 := by rw [hW2]; exact hKb _ _ _ hl rfl rfl
    refine wpIn_mono (hbody pre x W2 hs2 hi2 htr) ?_
    have fin : ∀ (jump : Option Code) (W3 : World), KeepsFrom N W2 W3 →
        (Instr.endRound (N + 1) jump).run P W3 = .ok (.bool jump.isNone) (W3.putObj (N + 1) (.loop (R (if jump.isNone then .ready else .done) jump))) ∧
        W3.heap[N + 1]? = some (.loop { R .ready none with state := .busy }) ∧
        (W3.putObj (N + 1) (.loop (R (if jump.isNone then .ready else .done) jump))).heap[N + 1]? = some (.loop (R (if jump.isNone then .ready else .done) jump)) ∧
        (W3.putObj (N + 1) (.loop (R (if jump.isNone then .ready else .done) jump))).heap[N]? = some (.deferred (some [])) ∧ N + 2 ≤ (W3.putObj (N + 1) (.loop (R (if jump.isNone then .ready else .done) jump))).heap.size := fun jump W3 hk3 => by
      have hl3 := hk3.same _ _ (by omega) hl2 rfl
      have := run_endRound (P := P) jump hl3
      have hsz : N + 2 ≤ W3.heap.size := Nat.le_trans hs2 hk3.size
      rw [hR] at this ⊢
      exact ⟨this, by rw [hR] at hl3; exact hl3, World.putObj_heap_same (Array.getElem?_eq_some_iff.1 hl3).1, (World.putObj_heap_other (by omega)).trans (hk3.same _ _ (Nat.le_refl _) hk2 rfl), by simpa [World.putObj] using hsz⟩
    rintro e a3 W3 hp
    cases e with
    | normal =>
      obtain ⟨hk3, hkp3, hi3⟩ := hp
      obtain ⟨hr, hl3, hl4, hk4, hs4⟩ := fin none W3 hk3
      exact ⟨_, _, hr, .inl ⟨rfl, ⟨hI.putObj _ hi3 (by omega) hl3 rfl, hl4, hk4, hs4⟩, hKt (hKt hw2 hkp3) (hKb _ _ _ hl3 rfl rfl)⟩⟩
    | ret =>
      obtain ⟨hk3, hkp3, hi3⟩ := hp
      obtain ⟨hr, hl3, hl4, hk4, _⟩ := fin (some .ret) W3 hk3
      exact ⟨_, _, hr, .inr ⟨rfl, ⟨.ret, (hIx _).putObj _ hi3 (by omega) hl3 rfl, hl4, hk4⟩, hKt (hKt hw2 hkp3) (hKb _ _ _ hl3 rfl rfl)⟩⟩
    | exit id =>
      obtain ⟨hk3, hkp3, hi3⟩ := hp
      obtain ⟨hr, hl3, hl4, hk4, _⟩ := fin (some (.exit id)) W3 hk3
      exact ⟨_, _, hr, .inr ⟨rfl, ⟨.exit id, (hIx _).putObj _ hi3 (by omega) hl3 rfl, hl4, hk4⟩, hKt (hKt hw2 hkp3) (hKb _ _ _ hl3 rfl rfl)⟩⟩
    | goto t =>
      obtain ⟨hk3, hkp3, hi3⟩ := hp
      obtain ⟨hr, hl3, hl4, hk4, _⟩ := fin (some (.goto t)) W3 hk3
      exact ⟨_, _, hr, .inr ⟨rfl, ⟨.goto t, (hIx _).putObj _ hi3 (by omega) hl3 rfl, hl4, hk4⟩, hKt (hKt hw2 hkp3) (hKb _ _ _ hl3 rfl rfl)⟩⟩
    | panic ch => exact hp.elim
    | outgrown => exact hp.elim
  refine ⟨N + 1, [{ target := .collected N, args := #[] }], V, { target := .fn (.func gf) lb, args := #[.func (.yield (N + 1)) #[] #[]] }, V, gf, #[.func (.yield (N + 1)) #[] #[]] ++ lb, V, ?_, ?_, ?_, ?_, fun _ => h1, ?_⟩
  · rw [← hV, hR, hN]; exact run_enterLoop_outer _ _ _ _ _
  · simp only [resolve, hg]
    simp [go_sem]
  · intro f' _; trivial
  · simp [invoke, go_sem, eg]
  · refine (callsIn_wide.2 (hseq (N + 1) Books BooksX V (by omega) (by omega) (by rw [hN] at bBel; exact bBel) hBooks hBooksX (fun pre x W1 h2 h3 => yield_lift (hRound pre x W1 h2 h3)) ⟨bI, bLoop, bDef, by omega⟩)).mono ?_
    rintro e W2 ⟨⟨v, rfl⟩, (⟨xs, hS, hi, hl, hk, _⟩ | ⟨pre, hSp, c, hi, hl, hk⟩)⟩
    · have he := run_endLoop (P := P) hl (by rw [hR]; simp)
      rw [hR] at he
      exact ⟨none, _, he, hdone _ xs _ (Nat.le_refl _) hS (hI.putObj _ hi (by omega) hl rfl) ((World.putObj_heap_other (by omega)).trans hk)⟩
    · have he := run_endLoop (P := P) hl (by rw [hR]; simp)
      rw [hR] at he
      exact ⟨some c, _, he, hstop _ c pre _ (Nat.le_refl _) hSp ((hIx c).putObj _ hi (by omega) hl rfl) ((World.putObj_heap_other (by omega)).trans hk)⟩
end Go.Proofs.YtljjaepadnmmeaaDoor
