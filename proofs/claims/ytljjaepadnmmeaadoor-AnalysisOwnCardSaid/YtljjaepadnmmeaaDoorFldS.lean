/- FoldRunes: the walk. -/
import Derived.Test.YtljjaepadnmmeaaDoorFldQ
import Derived.Test.YtljjaepadnmmeaaDoorFlpH
namespace Go.Proofs.YtljjaepadnmmeaaDoor
open Go.RowKit Go.Maps Fld Go.Shelf
attribute [local go_sem] Oper.semAt_some

/-- the blocks below D lie as they lay, but for one -/
def Low (D B4 : Nat) (w0 W : World) : Prop := ∀ b, b < D → b ≠ B4 → W.heap[b]? = w0.heap[b]?
theorem low_own {β : Type} {D B4 B : Nat} {w0 : World} (_ : D ≤ w0.heap.size) (hB : D ≤ B) : OwnFrom B (fun (_ : β) W => Low D B4 w0 W ∧ D ≤ W.heap.size) := fun _ W W' row hs hg hr =>
  ⟨fun b hb hne => (hg.block b (by have := hs.2; omega) (fun e => by have := (hr b e.symm).1; omega)).trans (hs.1 b hb hne), Nat.le_trans hs.2 hg.size⟩
theorem prefix_next {α : Type} {pre ps : List α} {x y : α} (h : pre <+: ps) (hy : ps[pre.length]? = some y) : pre ++ [x] <+: ps ↔ x = y := by
  obtain ⟨t, rfl⟩ := h
  rw [List.getElem?_append_right (Nat.le_refl _), Nat.sub_self] at hy
  cases t with
  | nil => simp at hy
  | cons z t =>
    simp at hy
    subst hy
    rw [List.prefix_append_right_inj]
    constructor
    · intro h; exact (List.cons_prefix_cons.1 h).1
    · rintro rfl; exact List.cons_prefix_cons.2 ⟨rfl, List.nil_prefix⟩
/-- the law for a loop of two variables, the frame of a round spelled by what is put into it -/
theorem range_two {P : Program} {n : Nat} {g : Operand} {j1 j2 k1 k2 : Nat} {assign body : Code} {Q : Exit → Act → World → Prop} {T : Array Value} {ds : List Deferred} {w : World}
    (h1 : 1 ≤ n) {gf : Nat} {lb : Array Value} (hg : (Act.mk T ds).eval g = .func (.func gf) #[] lb) (eg : ∀ args w, (callFunc gf args).run P w = .ok (.enter gf args) w)
    {Kp : World → World → Prop} {S Sp : List RX → Prop} {N : Nat} (hseq : SeqStopsK Fence.wide (n - 1) P gf lb encR Kp S Sp N w)
    (hKt : ∀ {A B C : World}, Kp A B → Kp B C → Kp A C) (hKb : ∀ (W : World) (l : Nat) (o o' : Obj), w.heap.size ≤ l → W.heap[l]? = some o → o.isCells = false → o.isWalk = false → Kp W (W.putObj l o'))
    (I : List RX → World → Prop) (Ix : Code → List RX → World → Prop) (hI : OwnFrom w.heap.size I) (hIx : ∀ c, OwnFrom w.heap.size (Ix c)) (h0 : I [] w)
    (hassign : ∀ (l : Nat) (x : RX) (W : World) (K : Act → World → Prop), K { tmps := (((T.setIfInBounds k1 (.int .i64 (x.1.1 : Int))).setIfInBounds k2 (.int .i32 (x.1.2 : Int))).setIfInBounds j1 (.int .i64 (x.1.1 : Int))).setIfInBounds j2 (.int .i32 (x.1.2 : Int)), defers := [] } W →
      assign.wpIn (Fence.wide.inRound l) (n - 1 - 1) P (Exit.then K (fun _ _ _ => False)) { tmps := (T.setIfInBounds k1 (.int .i64 (x.1.1 : Int))).setIfInBounds k2 (.int .i32 (x.1.2 : Int)), defers := [] } W)
    (hbody : ∀ (l : Nat) (pre : List RX) (x : RX) (W : World), I pre W → pre.length < N → body.wpIn (Fence.wide.inRound l) (n - 1 - 1) P (ownPostG w.heap.size Kp I Ix (pre ++ [x]) W) { tmps := (((T.setIfInBounds k1 (.int .i64 (x.1.1 : Int))).setIfInBounds k2 (.int .i32 (x.1.2 : Int))).setIfInBounds j1 (.int .i64 (x.1.1 : Int))).setIfInBounds j2 (.int .i32 (x.1.2 : Int)), defers := [] } W)
    (hdone : ∀ (D : Nat) (xs : List RX) (W : World), w.heap.size ≤ D → S xs → I xs W → W.heap[D]? = some (.deferred (some [])) → Q .normal { tmps := T, defers := { target := .collected D, args := #[] } :: ds } W)
    (hstop : ∀ (D : Nat) (c : Code) (pre : List RX) (W : World), w.heap.size ≤ D → Sp pre → Ix c pre W → W.heap[D]? = some (.deferred (some [])) → c.wpIn Fence.wide n P Q { tmps := T, defers := { target := .collected D, args := #[] } :: ds } W)
    (hKr : ∀ W, Kp W W) :
    (Code.rangeFunc g #[k1, k2] assign body).wpIn Fence.wide n P Q { tmps := T, defers := ds } w :=
  wpIn_rangeFunc_ownG_of_H rfl h1 hg trivial eg hseq (fun h k => hKt h k) hKb (RowKit.Below.refl _ _) (fun _ => rfl) I Ix hI hIx h0 (fun x => { tmps := (((T.setIfInBounds k1 (.int .i64 (x.1.1 : Int))).setIfInBounds k2 (.int .i32 (x.1.2 : Int))).setIfInBounds j1 (.int .i64 (x.1.1 : Int))).setIfInBounds j2 (.int .i32 (x.1.2 : Int)), defers := [] }) (fun l x W K hK => by have h := hassign l x W K hK; simpa [encR] using h) hbody hdone hstop hKr
end Go.Proofs.YtljjaepadnmmeaaDoor
