/- The program's Fold: a builder, over the text's runes. -/
import Derived.Test.YtljjaepadnmmeaaDoorFlpR
import Derived.Test.YtljjaepadnmmeaaDoorFlpG
import Derived.Test.YtljjaepadnmmeaaDoorFlpL
namespace Go.Proofs.YtljjaepadnmmeaaDoor
open Go.RowKit Go.Maps Fld Go.Shelf
attribute [local go_sem] Oper.semAt_some

theorem runes_all (l : List UInt8) (hl : (l.length : Int) ≤ 1000000000000000) (m Bn : Nat) (hm : 1 ≤ m) (w : World) (hBn : Bn < w.heap.size) (hc : w.cell? ⟨Bn, 0, none⟩ = some (textV l)) :
    ∀ (ly : Nat) (J : List RX → World → Prop) (W : World), RowKit.Below w.heap.size w W → AbidesFrom W.heap.size J →
      (∀ pre x W1, J pre W1 → vals (pre ++ [x]) <+: placesL l → YieldAt Fence.wide (m - 1) Tryd.prog ly (encR x) W1 fun e W' => e = .returned (.bool true) ∧ J (pre ++ [x]) W' ∧ KeepsWalks W1 W') →
      J [] W → CallsIn Fence.wide m Tryd.prog 74 (#[.func (.yield ly) #[] #[]] ++ #[.pointer (some ⟨Bn, 0, none⟩)]) W fun e W' => (∃ v, e = .returned v) ∧ ∃ xs, vals xs = placesL l ∧ J xs W' := by
  intro ly J W hW hJ hY h0
  refine (runes1_in l hl m ly Bn hm W J (fun _ _ => False) hJ (fun pre x W1 h1 _ h3 => ?_) ((hW.cell (p := ⟨Bn, 0, none⟩) hBn).trans hc) h0).mono ?_
  · obtain ⟨fn, tmps, assign, body, hy, hR⟩ := hY pre x W1 h1 h3
    exact ⟨fn, tmps, assign, body, hy, hR.mono fun e W' h => .inl h⟩
  · rintro e W' ⟨hv, h | ⟨_, _, h⟩⟩
    · exact ⟨hv, h⟩
    · exact h.elim
theorem bld_kept {B b : Nat} {l : List UInt8} {W W' : World} {row : Option Nat} (h : Bld B b l W) (hg : W.grownBy W' row) (hr : ∀ r, row = some r → ∃ o : Obj, W.heap[r]? = some o ∧ o.isCells = false) : Bld B b l W' := by
  have one : ∀ p, Lib.BuilderAtF 92 5 B b p (Lib.byteCells l) W → Lib.BuilderAtF 92 5 B b p (Lib.byteCells l) W' := by
    rintro p ⟨hB, v, hb, hown, hne⟩
    refine ⟨hB, v, (hg.block b (Array.getElem?_eq_some_iff.1 hb).1 (fun e => ?_)).trans hb, hown.kept hg ?_, hne⟩
    · obtain ⟨o, ho, hc⟩ := hr b e.symm; rw [hb] at ho; cases ho; cases hc
    · cases hv : v.ownBlock with
      | none => exact .inl rfl
      | some g =>
        refine .inr fun e => ?_
        obtain ⟨c, fz, hgc⟩ := Lib.ownsRowF_kind hown g hv
        obtain ⟨o, ho, hc⟩ := hr g e.symm
        rw [hgc] at ho; cases ho; cases hc
  exact h.elim (fun x => .inl (one _ x)) (fun x => .inr (one _ x))
/-- where a fold stands: the places that came, what is written, how far the text was copied and read -/
structure FoldAt (l : List UInt8) (pre : List RX) (acc : List UInt8) (c k : Nat) : Prop where
  places : placesL l = vals pre ++ placesC k (cutsL (l.drop k))
  ck : c ≤ k
  kl : k ≤ l.length
  len : acc.length = c
  all : acc ++ (l.drop c).take (k - c) ++ foldL (l.drop k) = foldL l
def FoldI (l : List UInt8) (B b tb D n0 : Nat) (w0 : World) (pre : List RX) (W : World) : Prop :=
  ∃ acc c k, FoldAt l pre acc c k ∧ Boxed W tb 9 (textV l) ∧ Bld B b acc W ∧ Boxed W D 3 (.int .i64 (c : Int)) ∧ RowKit.Below n0 w0 W ∧ B ≤ W.heap.size
theorem foldI_own {l : List UInt8} {B b tb D n0 N : Nat} {w0 : World} (h0 : n0 ≤ w0.heap.size) (hN : n0 ≤ N) : OwnFrom N (FoldI l B b tb D n0 w0) := by
  rintro pre W W' row ⟨acc, c, k, hF, h1, h2, h3, h4, h5⟩ hg hr
  refine ⟨acc, c, k, hF, boxed_own tb 9 (fun _ : Unit => textV l) () W W' row h1 hg (fun r e => (hr r e).2), bld_kept h2 hg (fun r e => (hr r e).2), boxed_own D 3 (fun _ : Unit => .int .i64 (c : Int)) () W W' row h3 hg (fun r e => (hr r e).2), ?_, Nat.le_trans h5 hg.size⟩
  exact ownFrom_below (β := Unit) h0 hN () W W' row h4 hg hr
theorem foldAt_skip {l : List UInt8} {pre : List RX} {acc : List UInt8} {c k : Nat} (h : FoldAt l pre acc c k) (hk : k < l.length) {x : RX} (hx : x.1 = (k, (nextL (l.drop k)).1)) (hl : lowN (nextL (l.drop k)).1 = (nextL (l.drop k)).1) :
    FoldAt l (pre ++ [x]) acc c (k + (nextL (l.drop k)).2) := by
  have hne := drop_ne hk
  have hp := next_pos hne
  rw [List.length_drop] at hp
  refine ⟨?_, Nat.le_trans h.ck (Nat.le_add_right _ _), by omega, h.len, ?_⟩
  · rw [h.places, places_step hk]; unfold vals; rw [List.map_append, List.map_cons, hx]; simp
  · rw [← h.all, fold_step hne]
    have e : lowB ((nextL (l.drop k)).1, (l.drop k).take (nextL (l.drop k)).2) = (l.drop k).take (nextL (l.drop k)).2 := by unfold lowB; rw [if_pos hl]
    rw [e, List.drop_drop]
    have e2 : (l.drop c).take (k + (nextL (l.drop k)).2 - c) = (l.drop c).take (k - c) ++ (l.drop k).take (nextL (l.drop k)).2 := by
      have hck := h.ck
      rw [show k + (nextL (l.drop k)).2 - c = (k - c) + (nextL (l.drop k)).2 by omega, List.take_add, List.drop_drop, show c + (k - c) = k by omega]
    rw [e2]; simp only [List.append_assoc]
theorem foldAt_low {l : List UInt8} {pre : List RX} {acc : List UInt8} {c k : Nat} (h : FoldAt l pre acc c k) (hk : k < l.length) {x : RX} (hx : x.1 = (k, (nextL (l.drop k)).1)) (hl : lowN (nextL (l.drop k)).1 ≠ (nextL (l.drop k)).1) :
    isRune ((nextL (l.drop k)).1 : Int) = true ∧ (formP (nextL (l.drop k)).1).length = (nextL (l.drop k)).2 ∧
    FoldAt l (pre ++ [x]) (acc ++ (l.drop c).take (k - c) ++ formP (lowN (nextL (l.drop k)).1)) (k + (nextL (l.drop k)).2) (k + (nextL (l.drop k)).2) := by
  have hne := drop_ne hk
  have hp := next_pos hne
  rw [List.length_drop] at hp
  rcases split_head hne with ⟨c1, h1, _⟩ | ⟨h1, _, h3, _⟩
  · rw [h1] at hl; exact absurd low_fffd hl
  refine ⟨h1, h3, ⟨?_, Nat.le_refl _, by omega, ?_, ?_⟩⟩
  · rw [h.places, places_step hk]; unfold vals; rw [List.map_append, List.map_cons, hx]; simp
  · have hck := h.ck
    rw [List.length_append, List.length_append, h.len, List.length_take, List.length_drop, lowN_len, h3]
    omega
  · rw [← h.all, fold_step hne]
    have e : lowB ((nextL (l.drop k)).1, (l.drop k).take (nextL (l.drop k)).2) = formP (lowN (nextL (l.drop k)).1) := by unfold lowB; rw [if_neg hl]
    rw [e, List.drop_drop, Nat.sub_self, List.take_zero, List.append_nil]
    simp only [List.append_assoc]
theorem func_not_nil (w : World) {t : TypeId} {d : TypeDesc} (h : Tryd.prog.underlying t = some d) (hd : ∃ a b c, d = .func a b c) (f : Fn) (a b : Array Value) : (binOp .eql t (.func f a b) .nilFunc).run Tryd.prog w = .ok (.bool false) w := by
  obtain ⟨p, q, r, rfl⟩ := hd
  have h1 : ∀ d : Nat, (Op.equalIn (d + 1) t (.func f a b) .nilFunc).run Tryd.prog w = .ok false w := fun d => by
    simp [Op.equalIn, run_underlying h]
  simp only [binOp]
  simp [Op.equal, Op.maxDepth, h1 9999]
theorem foldAt_next {l : List UInt8} {pre : List RX} {acc : List UInt8} {c k : Nat} (h : FoldAt l pre acc c k) {x : RX} (hx : vals (pre ++ [x]) <+: placesL l) : k < l.length ∧ x.1 = (k, (nextL (l.drop k)).1) := by
  rw [h.places] at hx
  unfold vals at hx
  rw [List.map_append, List.prefix_append_right_inj] at hx
  by_cases hk : k < l.length
  · rw [places_step hk, List.map_cons, List.map_nil, List.cons_prefix_cons] at hx
    exact ⟨hk, hx.1⟩
  · rw [List.drop_eq_nil_of_le (by omega), cuts_nil] at hx
    simp [placesC] at hx
theorem foldAt_end {l : List UInt8} {pre : List RX} {acc : List UInt8} {c k : Nat} (h : FoldAt l pre acc c k) (hx : vals pre = placesL l) : acc ++ l.drop c = foldL l := by
  have hk : k = l.length := by
    by_cases hk : k < l.length
    · have := h.places
      rw [places_step hk, hx] at this
      have := congrArg List.length this
      simp at this
    · have := h.kl; omega
  have := h.all
  rw [hk, List.drop_length, fold_nil, List.append_nil, List.take_of_length_le (by rw [List.length_drop]; omega)] at this
  exact this
theorem KeepsOthers.of_oth {b : Nat} {W W' : World} (h : Oth b W W') (hs : W.heap.size ≤ W'.heap.size) (hb : ∃ o : Obj, W.heap[b]? = some o ∧ o.isCells = true) : KeepsOthers W W' := by
  refine ⟨hs, fun k o hk ho => h k o hk (fun e => ?_) (fun c fz e => by rw [e] at ho; cases ho)⟩
  obtain ⟨o', h1, h2⟩ := hb
  rw [Option.some.inj e] at hk
  rw [hk] at h1; cases h1
  rw [ho] at h2; cases h2
theorem bld_blk {B b : Nat} {l : List UInt8} {W : World} (h : Bld B b l W) : ∃ o : Obj, W.heap[b]? = some o ∧ o.isCells = true := by
  rcases h with ⟨_, v, hb, _⟩ | ⟨_, v, hb, _⟩ <;> exact ⟨_, hb, rfl⟩
theorem box_oth {b D : Nat} {v : Value} {W W' : World} (h : Oth b W W') (hD : Boxed W D 3 v) (hne : D ≠ b) : Boxed W' D 3 v :=
  h D _ hD (fun e => hne (Option.some.inj e)) (fun c fz e => by injection e with _ h2 _; exact absurd h2 (by decide))
theorem bld_set {B b D : Nat} {l : List UInt8} {W : World} {v : Value} (h : Bld B b l W) (hD : Boxed W D 3 v) (hne : D ≠ b) (u : Value) : Bld B b l (W.setCell ⟨D, 0, none⟩ u) := by
  have one : ∀ p, Lib.BuilderAtF 92 5 B b p (Lib.byteCells l) W → Lib.BuilderAtF 92 5 B b p (Lib.byteCells l) (W.setCell ⟨D, 0, none⟩ u) := by
    rintro p ⟨hB, x, hb, hown, hn⟩
    refine ⟨hB, x, (Below.heap_setCell _ _ _ _ (Ne.symm hne)).trans hb, hown.kept (grownBy_setCell' W D u) ?_, hn⟩
    cases hv : x.ownBlock with
    | none => exact .inl rfl
    | some g =>
      refine .inr fun e => ?_
      obtain ⟨c, fz, hgc⟩ := Lib.ownsRowF_kind hown g hv
      rw [Option.some.inj e] at hgc
      rw [show W.heap[D]? = _ from hD] at hgc
      injection hgc with hgc
      injection hgc with _ h2 _
      exact absurd h2 (by decide)
  exact h.elim (fun x => .inl (one _ x)) (fun x => .inr (one _ x))
theorem extract_text {l : List UInt8} {tx : ByteArray} (h : tx = ⟨l.toArray⟩) (c k : Nat) : tx.extract c k = ⟨((l.drop c).take (k - c)).toArray⟩ := by rw [h]; exact ByteArray.extract_mk l c k
set_option maxRecDepth 100000 in
set_option maxHeartbeats 4000000 in
theorem fold_any (l : List UInt8) (hl : (l.length : Int) ≤ 140737488355324) (w : World) : Calls Tryd.prog 62 #[textV l] w (TextPost w (foldL l)) := by
  obtain ⟨tx, htx⟩ : ∃ tx, tx = ByteArray.mk l.toArray := ⟨_, rfl⟩
  have hts : tx.size = l.length := by rw [htx]; exact text_size l
  have hsz : (tx.size : Int) ≤ 140737488355324 := by omega
  have HG := Lib.hid (fun (W : World) (h : W.heap[w.heap.size + 1]? = some (.cells #[.pointer none, .slice none 0 0] 92 (0, 0))) (hs : w.heap.size + 1 ≤ W.heap.size) => grow_any (w.heap.size + 1) (w.heap.size + 1) tx.size W (Nat.le_refl _) h hs (by omega))
  have HIN := Lib.hid (fun W => runes_in l W)
  have HST := Lib.hid (fun (m Bn : Nat) (hm : 1 ≤ m) (W : World) (hB : Bn < W.heap.size) (hc : W.cell? ⟨Bn, 0, none⟩ = some (textV l)) => runes_all l (by omega) m Bn hm W hB hc)
  have HTX := Lib.hid htx
  have HTS := Lib.hid hts
  have hTv : textV l = .string tx := by rw [htx]; rfl
  have HTV := Lib.hid hTv
  have HSZ := Lib.hid hsz
  rw [hTv] at HIN HST ⊢
  refine (callsIn_wide (n := 5)).1 ?_
  refine callsIn_of_wp_marks Tryd.func62 rfl trivial ?_ rfl
  simp only [Tryd.ntmps62, List.size_toArray, List.length_cons, List.length_nil, Nat.reduceAdd, Nat.reduceSub, Array.replicate_succ, Array.replicate_zero, List.push_toArray, List.append_toArray, List.nil_append, List.cons_append]
  clear htx hTv hl hts
  gi_wp2
  obtain ⟨w1, hw1⟩ : ∃ w1, w1 = (w.alloc (.cells #[.string tx] 9)).alloc (.cells #[.pointer none, .slice none 0 0] 92) := ⟨_, rfl⟩
  rw [← hw1]
  have HT1 : Hid (Boxed w1 w.heap.size 9 (.string tx)) := by unfold Hid; rw [hw1]; exact (Boxed.new w 9 _).alloc _
  have HB1 : Hid (BW w w1) := by unfold Hid; rw [hw1]; exact (bw_alloc w _).alloc _
  have HS1 : Hid (w1.heap.size = w.heap.size + 2) := by unfold Hid; rw [hw1]; simp
  have hb1 : w1.heap[w.heap.size + 1]? = some (.cells #[.pointer none, .slice none 0 0] 92 (0, 0)) := by
    rw [hw1]; have := World.alloc_heap_new (w.alloc (.cells #[.string tx] 9)) (.cells #[.pointer none, .slice none 0 0] 92); rw [World.size_alloc] at this; exact this
  refine ⟨trivial, ?_⟩
  refine (callsIn_wide.2 (HG.out w1 hb1 (by rw [HS1.out]; omega))).mono ?_
  rintro e w2 ⟨rfl, hbl, hbe⟩
  have HBL := Lib.hid hbl
  have HBE := Lib.hid hbe
  have HT2 : Hid (Boxed w2 w.heap.size 9 (.string tx)) := (hbe.block w.heap.size (Nat.lt_succ_self _)).trans HT1.out
  have HB2 : Hid (BW w w2) := RowKit.Below.trans HB1.out (hbe.mono (Nat.le_succ _))
  have HS2 : Hid (w.heap.size + 2 ≤ w2.heap.size) := by unfold Hid; rw [← HS1.out]; exact hbe.size
  obtain ⟨w3, hw3⟩ : ∃ w3, w3 = w2.alloc (.cells #[.int .i64 0] 3) := ⟨_, rfl⟩
  obtain ⟨D, hD⟩ : ∃ D, D = w2.heap.size := ⟨_, rfl⟩
  have HT3 : Hid (Boxed w3 w.heap.size 9 (.string tx)) := by unfold Hid; rw [hw3]; exact HT2.out.alloc _
  have HBL3 : Hid (Bld (w.heap.size + 1) (w.heap.size + 1) [] w3) := by unfold Hid; rw [hw3]; exact bld_kept hbl (World.grownBy_alloc w2 _ none) (fun r e => by cases e)
  have HD3 : Hid (Boxed w3 D 3 (.int .i64 0)) := by unfold Hid; rw [hw3, hD]; exact Boxed.new w2 3 _
  have HB3 : Hid (BW w w3) := by unfold Hid; rw [hw3]; exact HB2.out.alloc _
  have HS3 : Hid (w3.heap.size = D + 1) := by unfold Hid; rw [hw3, hD]; simp
  have HDD : Hid (w.heap.size + 2 ≤ D) := by unfold Hid; rw [hD]; exact HS2.out
  have ct3 := HT3.out.cell
  rw [hw3] at ct3
  clear hbl hbe hw1 hb1 HG HT1 HB1 HS1 HBE HT2 HB2 HS2 HBL
  gi_wp2
  rw [← hw3, ← hD]
  clear ct3 hw3 hD
  refine ⟨trivial, ?_⟩
  refine (callsIn_wide.2 (HIN.out _)).mono ?_
  rintro e w4 ⟨rfl, hw4⟩
  have HT4 : Hid (Boxed w4 w.heap.size 9 (.string tx)) := by unfold Hid; rw [← hw4]; exact HT3.out.alloc _
  have HBL4 : Hid (Bld (w.heap.size + 1) (w.heap.size + 1) [] w4) := by unfold Hid; rw [← hw4]; exact bld_kept HBL3.out (World.grownBy_alloc w3 _ none) (fun r e => by cases e)
  have HD4 : Hid (Boxed w4 D 3 (.int .i64 0)) := by unfold Hid; rw [← hw4]; exact HD3.out.alloc _
  have HB4 : Hid (BW w w4) := by unfold Hid; rw [← hw4]; exact HB3.out.alloc _
  have HS4 : Hid (w4.heap.size = D + 2) := by unfold Hid; rw [← hw4, World.size_alloc, HS3.out]
  have HR4 : Hid (Boxed w4 (D + 1) 9 (.string tx)) := by
    unfold Hid; rw [← hw4, ← HS3.out]; exact Boxed.new w3 9 _
  have hs3 := HS3.out
  rw [hs3]
  clear hw4 hs3 HIN HT3 HBL3 HD3 HB3 HS3
  have hnn := func_not_nil w4 Tryd.underlying73 ⟨_, _, _, rfl⟩ (.func 74) #[] #[.pointer (some ⟨D + 1, 0, none⟩)]
  gi_wp2
  refine range_all (S := fun xs => vals xs = placesL l) (Tr := fun pre => vals pre <+: placesL l) (j1 := 5) (j2 := 6) (by decide) (gf := 74) (lb := #[.pointer (some ⟨D + 1, 0, none⟩)]) rfl (enters_of Tryd.func74 (by kernel_rfl) rfl)
    (HST.out (5 - 1) (D + 1) (by decide) w4 (by have := HS4.out; omega) HR4.out.cell)
    (FoldI l (w.heap.size + 1) (w.heap.size + 1) w.heap.size D w.heap.size w) (foldI_own (Nat.le_refl _) HB4.out.size) ?start ?assign ?body ?done
  case start => exact ⟨[], 0, 0, ⟨rfl, Nat.le_refl _, Nat.zero_le _, rfl, rfl⟩, by rw [HTV.out]; exact HT4.out, HBL4.out, HD4.out, HB4.out, by have := HDD.out; have := HS4.out; omega⟩
  case assign =>
    intro l' x W K hK
    gi_wp2
    simpa [fr4, fr2] using hK
  case body =>
    rintro l' pre x W ⟨acc, c, k, hF, hT, hB, hD, hbel, hBs⟩ htr
    obtain ⟨hk, hx⟩ := foldAt_next hF htr
    have hsk := fun h => foldAt_skip hF hk hx h
    have hlo := fun h => foldAt_low hF hk hx h
    have hpl := piece_le (drop_ne hk)
    have hnp := next_pos (drop_ne hk)
    rw [List.length_drop] at hnp
    obtain ⟨⟨x1, x2⟩, hxb⟩ := x
    simp only [Prod.mk.injEq] at hx
    obtain ⟨rfl, rfl⟩ := hx
    obtain ⟨r, hr⟩ : ∃ r, r = (nextL (l.drop x1)).1 := ⟨_, rfl⟩
    obtain ⟨q, hq⟩ : ∃ q, q = (nextL (l.drop x1)).2 := ⟨_, rfl⟩
    obtain ⟨X, hX⟩ : ∃ X : RX, X = ⟨(x1, (nextL (l.drop x1)).1), hxb⟩ := ⟨_, rfl⟩
    rw [← hX] at hsk hlo htr ⊢
    have hX1 : X.1.1 = x1 := by rw [hX]
    have hX2 : X.1.2 = r := by rw [hX, hr]
    rw [← hr] at hsk hlo hpl
    rw [← hq] at hsk hlo hnp
    have HLW := Lib.hid (fun W => lower_any (r : Int) (by omega) (by omega) W)
    rw [← lowN_cast] at HLW
    obtain ⟨m, hm⟩ : ∃ m, m = lowN r := ⟨_, rfl⟩
    rw [← hm] at HLW hsk hlo
    have HM := Lib.hid hm
    have HF := Lib.hid hF
    have hkl := hF.kl
    have hck := hF.ck
    have hal := hF.len
    have HSK := Lib.hid hsk
    have HLO := Lib.hid hlo
    have HT := Lib.hid hT; have HB := Lib.hid hB; have HD := Lib.hid hD; have HBEL := Lib.hid hbel; have HBS := Lib.hid hBs
    have hDD := HDD.out
    simp only [fr4, fr2, hX1, hX2, List.setIfInBounds_toArray, List.set_cons_zero, List.set_cons_succ]
    clear hF hsk hlo hm hr hq hX hX1 hX2 htr hxb hT hB hD hbel hBs
    by_cases hmr : m = r
    · have t1 : ((m : Int) == (r : Int)) = true := by simp [hmr]
      have HMR := Lib.hid hmr
      clear hmr
      gi_wp2
      refine ⟨trivial, ?_⟩
      refine (CallsIn.inRound l' (callsIn_wide.2 (HLW.out _))).mono ?_
      rintro e W2 ⟨rfl, hq2⟩
      have HQ := Lib.hid hq2
      clear hq2
      gi_wp2
      refine ⟨(KeepsOthers.of_bw HQ.out).from _, KpB.bw (B := 0) HQ.out, acc, c, x1 + q, HSK.out HMR.out, ?_, bld_kept HB.out (bw_grows HQ.out) (fun r e => by cases e), ?_, RowKit.Below.trans HBEL.out (HQ.out.mono HBEL.out.size), Nat.le_trans HBS.out HQ.out.size⟩
      · exact HT.out.kept (bw_grows HQ.out) (by simp)
      · exact HD.out.kept (bw_grows HQ.out) (by simp)
    · have t1 : ((m : Int) == (r : Int)) = false := by simp; omega
      obtain ⟨hr1, hr2, hr3⟩ := HLO.out hmr
      have HNX := Lib.hid hr3
      have HRU := Lib.hid hr1
      have HMU : Hid (isRune (m : Int) = true) := by unfold Hid; rw [HM.out]; exact lowN_rune hr1
      have HRL := Lib.hid (fun W => runeLen_any hr1 W)
      rw [hr2] at HRL
      clear hr1 hr2 hr3 hmr
      gi_wp2
      refine ⟨trivial, ?_⟩
      refine (CallsIn.inRound l' (callsIn_wide.2 (HLW.out _))).mono ?_
      rintro e W2 ⟨rfl, hq2⟩
      have hB2 := bld_kept HB.out (bw_grows hq2) (fun r e => by cases e)
      have hT2 : Boxed W2 w.heap.size 9 (textV l) := HT.out.kept (bw_grows hq2) (by simp)
      have hD2 : Boxed W2 D 3 (.int .i64 (c : Int)) := HD.out.kept (bw_grows hq2) (by simp)
      have hS2 : w.heap.size + 1 ≤ W2.heap.size := Nat.le_trans HBS.out hq2.size
      have HQ := Lib.hid hq2
      have ct := hT2.cell
      rw [HTV.out] at ct
      have cd := hD2.cell
      obtain ⟨pc, hpc⟩ : ∃ pc, pc = (l.drop c).take (x1 - c) := ⟨_, rfl⟩
      have hex : tx.extract c x1 = ⟨pc.toArray⟩ := by rw [hpc]; exact extract_text HTX.out c x1
      have HWS := Lib.hid (writeString_any (w.heap.size + 1) (w.heap.size + 1) acc pc W2 hB2 (by rw [hpc, List.length_take, List.length_drop]; have := HTS.out; omega) hS2)
      rw [← hex] at HWS
      have HT2 := Lib.hid hT2; have HD2 := Lib.hid hD2; have HBK := Lib.hid (bld_blk hB2)
      have HPC := Lib.hid hpc
      have hts := HTS.out
      have s1 : (c : Int) ≤ (x1 : Int) := by omega
      have s2 : (x1 : Int) ≤ (tx.size : Int) := by omega
      have s3 : 0 ≤ (c : Int) := by omega
      have s4 : 0 ≤ (x1 : Int) := by omega
      clear hq2 hB2 hT2 hD2 hS2 hpc hex hts
      gi_wp2
      refine ⟨trivial, ?_⟩
      refine (CallsIn.inRound l' (callsIn_wide.2 HWS.out)).mono ?_
      rintro e W3 ⟨rfl, hB3, hbe3, ho3⟩
      have hD3 : Boxed W3 D 3 (.int .i64 (c : Int)) := box_oth ho3 HD2.out (by have := HDD.out; omega)
      have hT3 : Boxed W3 w.heap.size 9 (textV l) := (hbe3.block w.heap.size (Nat.lt_succ_self _)).trans HT2.out
      have HK3 := Lib.hid (KeepsOthers.of_oth ho3 hbe3.size HBK.out)
      have hS3 : w.heap.size + 1 ≤ W3.heap.size := Nat.le_trans (Nat.le_trans HBS.out HQ.out.size) hbe3.size
      have HBB3 := Lib.hid (bld_blk hB3)
      have HWR := Lib.hid (writeRune_any (w.heap.size + 1) (w.heap.size + 1) (acc ++ pc) HMU.out W3 hB3 (by rw [HPC.out, List.length_append, List.length_take, List.length_drop]; have := HTS.out; have := HSZ.out; omega) hS3)
      have HD3 := Lib.hid hD3; have HT3 := Lib.hid hT3; have HS3 := Lib.hid hS3; have HBE3 := Lib.hid hbe3
      clear hD3 hT3 hS3 hbe3 ho3 hB3 ct cd
      gi_wp2
      refine ⟨trivial, ?_⟩
      refine (CallsIn.inRound l' (callsIn_wide.2 HWR.out)).mono ?_
      rintro e W4 ⟨⟨nb, rfl⟩, hB4, hbe4, ho4⟩
      have hD4 : Boxed W4 D 3 (.int .i64 (c : Int)) := box_oth ho4 HD3.out (by have := HDD.out; omega)
      have hT4 : Boxed W4 w.heap.size 9 (textV l) := (hbe4.block w.heap.size (Nat.lt_succ_self _)).trans HT3.out
      have HK4 := Lib.hid (HK3.out.trans (KeepsOthers.of_oth ho4 hbe4.size HBB3.out))
      have HD4 := Lib.hid hD4; have HT4 := Lib.hid hT4; have HB4' := Lib.hid hB4; have HBE4 := Lib.hid hbe4
      have hS4 : w.heap.size + 1 ≤ W4.heap.size := Nat.le_trans HS3.out hbe4.size
      have HS4' := Lib.hid hS4
      have cd := hD4.cell
      have fd := hD4.frozen
      clear hD4 hT4 hS4 hbe4 ho4 hB4
      gi_wp2
      refine ⟨trivial, ?_⟩
      refine (CallsIn.inRound l' (callsIn_wide.2 (HRL.out _))).mono ?_
      rintro e W5 ⟨rfl, rfl⟩
      obtain ⟨t, ht⟩ : ∃ t, t = x1 + q := ⟨_, rfl⟩
      have hti : (x1 : Int) + (q : Int) = (t : Int) := by omega
      have ht0 : 0 ≤ (t : Int) := by omega
      have htb : (t : Int) ≤ 140737488355324 := by have := HTS.out; omega
      have hwt : IntKind.i64.wrap (t : Int) = (t : Int) := wrap_small _ ht0 (by omega)
      have HTQ := Lib.hid ht
      clear ht
      gi_wp2
      have HKA : Hid (KeepsOthers W W5) := (KeepsOthers.of_bw HQ.out).trans HK4.out
      refine ⟨(HKA.out.trans (KeepsOthers.setCell _ _ _)).from _, HKA.out.walks.trans (KeepsWalks.setCell _ _ _), acc ++ pc ++ formP m, t, t, ?_, HT4.out.other (by omega) _, bld_set HB4'.out HD4.out (by omega) _, HD4.out.set _, ?_, by simpa [World.setCell] using HS4'.out⟩
      · have := HNX.out; rw [← HPC.out, ← HTQ.out] at this; exact this
      · refine RowKit.Below.setCell (p := ⟨D, 0, none⟩) ?_ (by show w.heap.size ≤ D; omega) _
        exact RowKit.Below.trans HBEL.out (RowKit.Below.trans (HQ.out.mono HBEL.out.size) (RowKit.Below.trans (HBE3.out.mono (Nat.le_succ _)) (HBE4.out.mono (Nat.le_succ _))))
  case done =>
    rintro D' ys W hD' hys ⟨acc, c, k, hF, hT, hB, hD, hbel, hBs⟩ hK
    have hend := foldAt_end hF hys
    have hcl : c ≤ l.length := Nat.le_trans hF.ck hF.kl
    have hal := hF.len
    have ct := hT.cell
    rw [HTV.out] at ct
    have cd := hD.cell
    obtain ⟨pc, hpc⟩ : ∃ pc, pc = l.drop c := ⟨_, rfl⟩
    have hts := HTS.out
    have hex : tx.extract c tx.size = ⟨pc.toArray⟩ := by
      rw [extract_text HTX.out c tx.size, hpc, List.take_of_length_le (by rw [List.length_drop]; omega)]
    have HWS := Lib.hid (writeString_any (w.heap.size + 1) (w.heap.size + 1) acc pc W hB (by rw [hpc, List.length_drop]; have := HSZ.out; omega) hBs)
    rw [← hex] at HWS
    have HBK := Lib.hid (bld_blk hB)
    have HBEL := Lib.hid hbel; have HBS := Lib.hid hBs; have HKD := Lib.hid hK; have HEND : Hid (acc ++ pc = foldL l) := by unfold Hid; rw [hpc]; exact hend
    have s1 : (c : Int) ≤ (tx.size : Int) := by omega
    have s3 : 0 ≤ (c : Int) := by omega
    clear hend hpc hex hF hT hB hD hbel hBs hK hts hys
    gi_wp2
    refine ⟨trivial, ?_⟩
    refine (callsIn_wide.2 HWS.out).mono ?_
    rintro e W3 ⟨rfl, hB3, hbe3, ho3⟩
    have hS3 : w.heap.size + 1 ≤ W3.heap.size := Nat.le_trans HBS.out hbe3.size
    have hK3 : KeepsOthers W W3 := KeepsOthers.of_oth ho3 hbe3.size HBK.out
    have HBB3 := Lib.hid (bld_blk hB3)
    rw [HEND.out] at hB3
    have HGS := Lib.hid (bString_any (w.heap.size + 1) (w.heap.size + 1) (foldL l) W3 hB3 hS3)
    have HKD3 : Hid (W3.heap[D']? = some (.deferred (some []))) := hK3.same D' _ HKD.out rfl
    have HBEL3 := Lib.hid (RowKit.Below.trans HBEL.out (hbe3.mono (Nat.le_succ _)))
    unfold textV at HGS
    clear hS3 hK3 hB3 hbe3 ho3
    gi_wp2
    refine ⟨trivial, ?_⟩
    refine (callsIn_wide.2 HGS.out).mono ?_
    rintro e W4 ⟨rfl, hbe4, ho4⟩
    have hK4 : W4.heap[D']? = some (.deferred (some [])) := (KeepsOthers.of_oth ho4 hbe4.size HBB3.out).same D' _ HKD3.out rfl
    have HBEL4 := Lib.hid (RowKit.Below.trans HBEL3.out (hbe4.mono (Nat.le_succ _)))
    clear hbe4 ho4
    gi_wp2
    refine ⟨by simp, .inl ⟨_, _, rfl, run_takeDeferred hK4, ?_⟩⟩
    refine ⟨.string ⟨(foldL l).toArray⟩, by simp [results, Tryd.results62, go_sem], rfl, ?_⟩
    exact RowKit.Below.trans HBEL4.out (belowK_b (w := w) (Nat.le_refl _) _ D' _ _ (by have := HS4.out; have := HDD.out; omega) hK4 rfl rfl)
end Go.Proofs.YtljjaepadnmmeaaDoor
