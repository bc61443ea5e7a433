/- Stage 6, the program: the closure that cuts runs, over whatever tests and whatever is told. -/
import Derived.Test.YtljjaepadnmmeaaDoorAnbP
import Derived.Test.YtljjaepadnmmeaaDoorAnbA
import Derived.Test.YtljjaepadnmmeaaDoorAnbK
import Derived.Test.YtljjaepadnmmeaaDoorFlpR
import Derived.Test.YtljjaepadnmmeaaDoorFlpH
namespace Go.Proofs.YtljjaepadnmmeaaDoor
open Go.RowKit Go.Maps Fld Ana Go.Shelf
attribute [local go_sem] Oper.semAt_some

theorem runes_each (l : List UInt8) (hl : (l.length : Int) ≤ 1000000000000000) (m Bn : Nat) (hm : 1 ≤ m) (w : World) (hBn : Bn < w.heap.size) (hc : w.cell? ⟨Bn, 0, none⟩ = some (textV l)) :
    ∀ (ly : Nat) (J : List RX → World → Prop) (W : World), RowKit.Below w.heap.size w W → AbidesFrom W.heap.size J →
      (∀ pre x W1, J pre W1 → vals (pre ++ [x]) <+: placesL l → YieldAt Fence.wide (m - 1) Tryd.prog ly (encR x) W1 fun e W' => e = .returned (.bool true) ∧ J (pre ++ [x]) W' ∧ KeepsWalks W1 W') →
      J [] W → CallsIn Fence.wide m Tryd.prog 74 (#[.func (.yield ly) #[] #[]] ++ #[.pointer (some ⟨Bn, 0, none⟩)]) W fun e W' => (∃ v, e = .returned v) ∧ ∃ xs, vals xs = placesL l ∧ J xs W' := by
  intro ly J W hW hJ hY h0
  refine (runes1_in l hl m ly Bn hm W J (fun _ _ => False) hJ (fun pre x W1 h1 _ h3 => ?_) ((hW.cell (p := ⟨Bn, 0, none⟩) hBn).trans hc) h0).mono ?_
  · obtain ⟨fn, tmps, assign, body, hy, hR⟩ := hY pre x W1 h1 h3
    exact ⟨fn, tmps, assign, body, hy, hR.mono fun e W' h => .inl h⟩
  · rintro e W' ⟨hv, h | ⟨_, _, h⟩⟩
    · exact ⟨hv, h⟩
    · exact h.elim
theorem func_is_not_nil (w : World) {t : TypeId} {d : TypeDesc} (h : Tryd.prog.underlying t = some d) (hd : ∃ a b c, d = .func a b c) (f : Fn) (a b : Array Value) : (binOp .eql t (.func f a b) .nilFunc).run Tryd.prog w = .ok (.bool false) w := by
  obtain ⟨p, q, r, rfl⟩ := hd
  have h1 : ∀ d : Nat, (Op.equalIn (d + 1) t (.func f a b) .nilFunc).run Tryd.prog w = .ok false w := fun d => by
    simp [Op.equalIn, run_underlying h]
  simp only [binOp]
  simp [Op.equal, Op.maxDepth, h1 9999]
/-- all lies as it lay, but for tokens' rows and their one variable -/
structure KT (W W' : World) : Prop where
  os : W'.os = W.os
  size : W.heap.size ≤ W'.heap.size
  same : ∀ (b : Nat) (o : Obj), W.heap[b]? = some o → (∀ c fz, o ≠ .cells c 43 fz) → (∀ c fz, o ≠ .cells c 24 fz) → W'.heap[b]? = some o
theorem KT.refl (W : World) : KT W W := ⟨rfl, Nat.le_refl _, fun _ _ h _ _ => h⟩
theorem KT.trans {A B C : World} (h : KT A B) (k : KT B C) : KT A C := ⟨k.os.trans h.os, Nat.le_trans h.size k.size, fun b o hb h1 h2 => k.same b o (h.same b o hb h1 h2) h1 h2⟩
theorem KT.of_bw {W W' : World} (h : BW W W') : KT W W' := ⟨h.os, h.size, fun b _ hb _ _ => (h.block b (lt_of_heap hb)).trans hb⟩
theorem KT.others {W W' : World} (h : KT W W') : KeepsOthers W W' := ⟨h.size, fun b o hb ho => h.same b o hb (fun c fz e => by rw [e] at ho; cases ho) (fun c fz e => by rw [e] at ho; cases ho)⟩
theorem KT.boxed {W W' : World} {b t : Nat} {v : Value} (h : KT W W') (hb : Boxed W b t v) (h1 : t ≠ 43) (h2 : t ≠ 24) : Boxed W' b t v :=
  h.same b _ hb (fun c fz e => by injection e with _ e2 _; exact h1 e2) (fun c fz e => by injection e with _ e2 _; exact h2 e2)
/-- what a loop's books and an integer's variable leave standing -/
def Stab {β : Type} (B : Nat) (J : β → World → Prop) : Prop := ∀ l W W' row, J l W → W.grownBy W' row → (∀ r, row = some r → B ≤ r ∧ ∃ o : Obj, W.heap[r]? = some o ∧ (o.isCells = false ∨ ∃ v, o = .cells #[v] 3 (0, 0))) → J l W'
theorem Stab.own {β : Type} {B N : Nat} {J : β → World → Prop} (h : Stab B J) (hB : B ≤ N) : OwnFrom N J := fun l W W' row hs hg hr => h l W W' row hs hg fun r e => by
  obtain ⟨h1, o, h2, h3⟩ := hr r e; exact ⟨by omega, o, h2, .inl h3⟩
theorem Stab.bw {β : Type} {B : Nat} {J : β → World → Prop} (h : Stab B J) {l : β} {W W' : World} (hs : J l W) (hb : BW W W') : J l W' := h l W W' none hs (bw_grows hb) (fun r e => by cases e)
theorem Stab.set {β : Type} {B D : Nat} {J : β → World → Prop} (h : Stab B J) {l : β} {W : World} {v : Value} (hs : J l W) (hB : B ≤ D) (hD : Boxed W D 3 v) (u : Value) : J l (W.setCell ⟨D, 0, none⟩ u) :=
  h l W _ (some D) hs (grownBy_setCell' W D u) (fun r e => by cases e; exact ⟨hB, _, hD, .inr ⟨v, rfl⟩⟩)
/-- a closure that is told where tokens begin and end -/
def PutOk (pf : Nat) (plb : Array Value) (L C : Nat) (J : List (Nat × Nat) → World → Prop) : Prop :=
  ∀ l a b W, a ≤ b → b ≤ L → l.length ≤ C → J l W → Calls Tryd.prog pf (#[.int .i64 (a : Int), .int .i64 (b : Int)] ++ plb) W fun e W' => (∃ v, e = .returned v) ∧ J (l ++ [(a, b)]) W' ∧ KT W W'
def frV (s : Option Nat) : Int := match s with | none => -1 | some a => (a : Int)
def RunI (J : List (Nat × Nat) → World → Prop) (b h : Nat → Bool) (P D n0 : Nat) (pv : Value) (pre : List RX) (W : World) : Prop :=
  J ((vals pre).foldl (scanS b h) ([], none)).1 W ∧ Boxed W P 59 pv ∧ Boxed W D 3 (.int .i64 (frV ((vals pre).foldl (scanS b h) ([], none)).2)) ∧ n0 ≤ W.heap.size
theorem runI_own {J : List (Nat × Nat) → World → Prop} {b h : Nat → Bool} {P D n0 B N : Nat} {pv : Value} (hJ : Stab B J) (hB : B ≤ N) : OwnFrom N (RunI J b h P D n0 pv) := by
  rintro pre W W' row ⟨h1, h2, h3, h4⟩ hg hr
  exact ⟨hJ.own hB _ W W' row h1 hg hr, boxed_own P 59 (fun _ : Unit => pv) () W W' row h2 hg (fun r e => (hr r e).2),
    boxed_own D 3 (fun _ : Unit => .int .i64 (frV ((vals pre).foldl (scanS b h) ([], none)).2)) () W W' row h3 hg (fun r e => (hr r e).2), Nat.le_trans h4 hg.size⟩
theorem scan_count (b h : Nat → Bool) : ∀ (ps : List (Nat × Nat)) (s : List (Nat × Nat) × Option Nat), (ps.foldl (scanS b h) s).1.length ≤ s.1.length + ps.length
  | [], s => Nat.le_refl _
  | x :: ps, s => by
    rw [List.foldl_cons, List.length_cons]
    have h1 := scan_count b h ps (scanS b h s x)
    have h2 : (scanS b h s x).1.length ≤ s.1.length + 1 := by
      unfold scanS
      split
      · split
        · split
          · simp only; omega
          · simp only [List.length_append, List.length_cons, List.length_nil]; omega
        · simp only; omega
      · split
        · simp only; omega
        · simp only [List.length_append, List.length_cons, List.length_nil]; omega
    omega
theorem scan_snoc (b h : Nat → Bool) (pre : List RX) (x : RX) : (vals (pre ++ [x])).foldl (scanS b h) ([], none) = scanS b h ((vals pre).foldl (scanS b h) ([], none)) x.1 := by
  unfold vals; rw [List.map_append, List.foldl_append]; rfl
set_option maxRecDepth 100000 in
set_option maxHeartbeats 4000000 in
theorem runs1_any (l : List UInt8) (hl : (l.length : Int) ≤ 1000000000000000) {pf : Nat} {plb : Array Value} {fb fh : Nat} {lbb lbh : Array Value} {Bb Bh B C : Nat} (hC : l.length ≤ C) {b h : Nat → Bool} {J : List (Nat × Nat) → World → Prop}
    (hJ : Stab B J) (hput : PutOk pf plb l.length C J)
    (ep : ∀ args w, (callFunc pf args).run Tryd.prog w = .ok (.enter pf args) w) (eb : ∀ args w, (callFunc fb args).run Tryd.prog w = .ok (.enter fb args) w) (eh : ∀ args w, (callFunc fh args).run Tryd.prog w = .ok (.enter fh args) w)
    (hcb : ∀ l W, J l W → W.cell? ⟨Bb, 0, none⟩ = some (.func (.func fb) #[] lbb)) (hch : ∀ l W, J l W → W.cell? ⟨Bh, 0, none⟩ = some (.func (.func fh) #[] lbh))
    (hb : ∀ l W (r : Nat), J l W → r ≤ 1114111 → Calls Tryd.prog fb (#[.int .i32 (r : Int)] ++ lbb) W (BoolPost W (b r)))
    (hh : ∀ l W (r : Nat), J l W → r ≤ 1114111 → Calls Tryd.prog fh (#[.int .i32 (r : Int)] ++ lbh) W (BoolPost W (h r)))
    (w : World) (hB : B ≤ w.heap.size) (h0 : J [] w) :
    Calls Tryd.prog 57 #[textV l, .func (.func pf) #[] plb, .pointer (some ⟨Bb, 0, none⟩), .pointer (some ⟨Bh, 0, none⟩)] w fun e w' => (∃ v, e = .returned v) ∧ J (scanL b h l) w' := by
  obtain ⟨tx, htx⟩ : ∃ tx, tx = ByteArray.mk l.toArray := ⟨_, rfl⟩
  have hts : tx.size = l.length := by rw [htx]; exact text_size l
  have HIN := Lib.hid (fun W => runes_in l W)
  have HST := Lib.hid (fun (m Bn : Nat) (hm : 1 ≤ m) (W : World) (hB : Bn < W.heap.size) (hc : W.cell? ⟨Bn, 0, none⟩ = some (textV l)) => runes_each l (by omega) m Bn hm W hB hc)
  have HTS := Lib.hid hts
  have hTv : textV l = .string tx := by rw [htx]; rfl
  have HTV := Lib.hid hTv
  have HJ := Lib.hid hJ; have HPUT := Lib.hid hput; have HCB := Lib.hid hcb; have HCH := Lib.hid hch; have HCLB := Lib.hid hb; have HCLH := Lib.hid hh; have H0 := Lib.hid h0; have HBS := Lib.hid hB
  rw [hTv] at HIN HST ⊢
  refine (callsIn_wide (n := 5)).1 ?_
  refine callsIn_of_wp_marks Tryd.func57 rfl trivial ?_ rfl
  simp only [Tryd.ntmps57, List.size_toArray, List.length_cons, List.length_nil, Nat.reduceAdd, Nat.reduceSub, Array.replicate_succ, Array.replicate_zero, List.push_toArray, List.append_toArray, List.nil_append, List.cons_append]
  clear htx hTv hts hJ hput hcb hch hb hh h0 hB
  gi_wp2
  obtain ⟨N, hNn⟩ : ∃ N, N = w.heap.size := ⟨_, rfl⟩
  obtain ⟨w3, hw3⟩ : ∃ w3, w3 = (w.alloc (.cells #[.func (.func pf) #[] plb] 59)).alloc (.cells #[.int .i64 (-1)] 3) := ⟨_, rfl⟩
  rw [← hw3]
  have HP3 : Hid (Boxed w3 N 59 (.func (.func pf) #[] plb)) := by unfold Hid; rw [hw3, hNn]; exact (Boxed.new w 59 _).alloc _
  have HS3 : Hid (w3.heap.size = N + 2) := by unfold Hid; rw [hw3, hNn]; simp
  have HD3 : Hid (Boxed w3 (N + 1) 3 (.int .i64 (-1))) := by
    unfold Hid; rw [hw3, hNn]; have := Boxed.new (w.alloc (.cells #[.func (.func pf) #[] plb] 59)) 3 (.int .i64 (-1)); rw [World.size_alloc] at this; exact this
  have HB3 : Hid (BW w w3) := by unfold Hid; rw [hw3]; exact (bw_alloc w _).alloc _
  rw [← hNn]
  have HBN : Hid (B ≤ N) := by unfold Hid; rw [hNn]; exact HBS.out
  have HNN := Lib.hid hNn
  clear hw3 hNn HBS
  refine ⟨trivial, ?_⟩
  refine (callsIn_wide.2 (HIN.out _)).mono ?_
  rintro e w4 ⟨rfl, hw4⟩
  have HP4 : Hid (Boxed w4 N 59 (.func (.func pf) #[] plb)) := by unfold Hid; rw [← hw4]; exact HP3.out.alloc _
  have HD4 : Hid (Boxed w4 (N + 1) 3 (.int .i64 (-1))) := by unfold Hid; rw [← hw4]; exact HD3.out.alloc _
  have HB4 : Hid (BW w w4) := by unfold Hid; rw [← hw4]; exact HB3.out.alloc _
  have HS4 : Hid (w4.heap.size = N + 3) := by unfold Hid; rw [← hw4, World.size_alloc, HS3.out]
  have HR4 : Hid (Boxed w4 (N + 2) 9 (.string tx)) := by
    unfold Hid; rw [← hw4, ← HS3.out]; exact Boxed.new w3 9 _
  have hs3 := HS3.out
  rw [hs3]
  clear hw4 hs3 HIN HP3 HD3 HB3 HS3
  have hnn := func_is_not_nil w4 Tryd.underlying73 ⟨_, _, _, rfl⟩ (.func 74) #[] #[.pointer (some ⟨N + 2, 0, none⟩)]
  gi_wp2
  refine range_all (S := fun xs => vals xs = placesL l) (Tr := fun pre => vals pre <+: placesL l) (j1 := 7) (j2 := 8) (by decide) (gf := 74) (lb := #[.pointer (some ⟨N + 2, 0, none⟩)]) rfl (enters_of Tryd.func74 (by kernel_rfl) rfl)
    (HST.out (5 - 1) (N + 2) (by decide) w4 (by have := HS4.out; omega) HR4.out.cell)
    (RunI J b h N (N + 1) (N + 2) (.func (.func pf) #[] plb)) (runI_own HJ.out (by have := HS4.out; have := HBN.out; omega)) ?start ?assign ?body ?done
  case start => exact ⟨HJ.out.bw H0.out HB4.out, HP4.out, HD4.out, by have := HS4.out; omega⟩
  case assign =>
    intro l' x W K hK
    gi_wp2
    simpa [fr4, fr2] using hK
  case body =>
    rintro l' pre x W ⟨hj, hp, hd, hs⟩ htr
    have HAH := Lib.hid (fun a => scan_ahead (b := b) (h := h) (a := a) (x := x.1) (pre := vals pre) (l := l) (by unfold vals at htr ⊢; rw [List.map_append] at htr; exact htr))
    have hsn := scan_snoc b h pre x
    have hpl : x.1.1 < l.length := places_lt (by obtain ⟨t, ht⟩ := htr; rw [← ht]; unfold vals; simp)
    obtain ⟨⟨⟨k, r⟩, hxb⟩, hX⟩ : ∃ y, y = x := ⟨_, rfl⟩
    have hX1 : x.1.1 = k := by rw [← hX]
    have hX2 : x.1.2 = r := by rw [← hX]
    have hr1 : r ≤ 1114111 := hxb.2
    have hx12 : x.1 = (k, r) := Prod.ext hX1 hX2
    rw [hX1] at hpl
    rw [hx12] at HAH hsn
    obtain ⟨s, hs1⟩ : ∃ s, s = (vals pre).foldl (scanS b h) ([], none) := ⟨_, rfl⟩
    have HSL : Hid (s.1.length ≤ C) := by
      unfold Hid; rw [hs1]
      have h1 := scan_count b h (vals pre) ([], none)
      have h2 := places_len l
      obtain ⟨t, ht⟩ := htr
      have h3 := congrArg List.length ht
      have h4 : ∀ ys : List RX, (vals ys).length = ys.length := fun ys => by unfold vals; simp
      rw [h4] at h1
      rw [List.length_append, h4] at h3
      simp only [List.length_append, List.length_cons, List.length_nil] at h1 h3
      omega
    rw [← hs1] at hj hd hsn HAH
    have HPR : Hid (∀ W', J (scanS b h s (k, r)).1 W' → Boxed W' N 59 (.func (.func pf) #[] plb) → Boxed W' (N + 1) 3 (.int .i64 (frV (scanS b h s (k, r)).2)) → N + 2 ≤ W'.heap.size → RunI J b h N (N + 1) (N + 2) (.func (.func pf) #[] plb) (pre ++ [x]) W') := fun W' a1 a2 a3 a4 => by
      unfold RunI; rw [hsn]; exact ⟨a1, a2, a3, a4⟩
    have HB := Lib.hid (fun W (hW : J s.1 W) => HCLB.out s.1 W r hW hr1)
    have HH := Lib.hid (fun W (hW : J s.1 W) => HCLH.out s.1 W r hW hr1)
    have cb := HCB.out _ _ hj
    have HJ1 := Lib.hid hj; have HP1 := Lib.hid hp; have HD1 := Lib.hid hd; have HS1 := Lib.hid hs; have HPL := Lib.hid hpl
    have cd := hd.cell
    simp only [fr4, fr2, hX1, hX2, List.setIfInBounds_toArray, List.set_cons_zero, List.set_cons_succ]
    obtain ⟨s1, s2⟩ := s
    clear hsn hx12 hX hX1 hX2 hxb hr1 hj hp hd hs hs1 hpl htr
    rcases s2 with _ | a
    · simp only [frV] at cd
      rcases hbr : b r with _ | _
      · have hst : scanS b h (s1, none) (k, r) = (s1, none) := by simp [scanS, hbr]
        rw [hst] at HPR
        rw [hbr] at HB
        clear hst hbr
        gi_wp2
        refine ⟨trivial, ?_⟩
        refine (CallsIn.inRound l' (callsIn_wide.2 (HB.out _ HJ1.out))).mono ?_
        rintro e W2 ⟨rfl, hq⟩
        have hD2 : Boxed W2 (N + 1) 3 (.int .i64 (-1)) := HD1.out.kept (bw_grows hq) (by simp)
        have HD2 := Lib.hid hD2
        have cd2 := hD2.cell
        have HQ := Lib.hid hq
        clear hq hD2 cd
        gi_wp2
        refine ⟨fun f hf => (by cases hf), ?_⟩
        gi_wp2
        refine ⟨(KeepsOthers.of_bw HQ.out).from _, KpB.bw (B := 0) HQ.out, HPR.out _ (HJ.out.bw HJ1.out HQ.out) (HP1.out.kept (bw_grows HQ.out) (by simp)) HD2.out ?_⟩
        have h1 := HS1.out; have h2 := HQ.out.size
        omega
      · rw [hbr] at HB
        gi_wp2
        refine ⟨trivial, ?_⟩
        refine (CallsIn.inRound l' (callsIn_wide.2 (HB.out _ HJ1.out))).mono ?_
        rintro e W2 ⟨rfl, hq⟩
        have hD2 : Boxed W2 (N + 1) 3 (.int .i64 (-1)) := HD1.out.kept (bw_grows hq) (by simp)
        have fd2 := hD2.frozen
        have cd2 := hD2.cell
        obtain ⟨W3, hW3⟩ : ∃ W3, W3 = W2.setCell ⟨N + 1, 0, none⟩ (.int .i64 (k : Int)) := ⟨_, rfl⟩
        have hJ3 : J s1 W3 := by rw [hW3]; exact HJ.out.set (HJ.out.bw HJ1.out hq) (by have := HBN.out; omega) hD2 _
        have hD3 : Boxed W3 (N + 1) 3 (.int .i64 (k : Int)) := by rw [hW3]; exact hD2.set _
        have HP3 : Hid (Boxed W3 N 59 (.func (.func pf) #[] plb)) := by unfold Hid; rw [hW3]; exact Boxed.other (HP1.out.kept (bw_grows hq) (by simp)) (by omega) _
        have HO3 : Hid (KeepsOthers W W3) := by unfold Hid; rw [hW3]; exact (KeepsOthers.of_bw hq).trans (KeepsOthers.setCell _ _ _)
        have HS3 : Hid (N + 2 ≤ W3.heap.size) := by unfold Hid; rw [hW3]; have h1 := HS1.out; have h2 := hq.size; simp [World.setCell]; omega
        have HAK : Hid (k ≤ k) := Nat.le_refl k
        have ch3 := HCH.out _ _ hJ3
        have cd3 := hD3.cell
        have HJ3 := Lib.hid hJ3; have HD3 := Lib.hid hD3; have HW3 := Lib.hid hW3
        have t2 : ((k : Int) != -1) = true := by simp
        rw [hW3] at cd3 ch3
        clear hq hD2 cd hJ3 hD3 hW3

        rcases hhr : h r with _ | _
        · have hst : scanS b h (s1, none) (k, r) = (s1 ++ [(k, k)], none) := by simp [scanS, hbr, hhr]
          rw [hst] at HPR
          rw [hhr] at HH
          gi_wp2
          rw [← HW3.out]
          refine ⟨trivial, ?_⟩
          refine (CallsIn.inRound l' (callsIn_wide.2 (HH.out _ HJ3.out))).mono ?_
          rintro e W4 ⟨rfl, hq4⟩
          have hP4 : Boxed W4 N 59 (.func (.func pf) #[] plb) := HP3.out.kept (bw_grows hq4) (by simp)
          have hD4 : Boxed W4 (N + 1) 3 (.int .i64 (k : Int)) := HD3.out.kept (bw_grows hq4) (by simp)
          have cp4 := hP4.cell
          have cd4 := hD4.cell
          have HPT := Lib.hid (HPUT.out s1 k k W4 HAK.out (by have := HPL.out; omega) HSL.out (HJ.out.bw HJ3.out hq4))
          have HP4 := Lib.hid hP4; have HD4 := Lib.hid hD4; have HQ4 := Lib.hid hq4
          clear hP4 hD4 hq4 hst hhr
          gi_wp2
          refine ⟨trivial, ?_⟩
          refine (CallsIn.inRound l' (callsIn_wide.2 HPT.out)).mono ?_
          rintro e W5 ⟨⟨v5, rfl⟩, hJ5, hk5⟩
          have HJ5 := Lib.hid hJ5; have HK5 := Lib.hid hk5
          have HP5 := Lib.hid (hk5.boxed HP4.out (by decide) (by decide))
          have hD5 := hk5.boxed HD4.out (by decide) (by decide)
          have HD5 := Lib.hid hD5
          have fd5 := hD5.frozen
          have cd5 := hD5.cell
          clear hJ5 hk5 hD5 cp4 cd4
          gi_wp2
          have HKA : Hid (KeepsOthers W W5) := (HO3.out.trans (KeepsOthers.of_bw HQ4.out)).trans HK5.out.others
          refine ⟨(HKA.out.trans (KeepsOthers.setCell _ _ _)).from _, HKA.out.walks.trans (KeepsWalks.setCell _ _ _), HPR.out _ (HJ.out.set HJ5.out (by have := HBN.out; omega) HD5.out _) (HP5.out.other (by omega) _) (HD5.out.set _) ?_⟩
          have h1 := HS3.out; have h2 := HQ4.out.size; have h3 := HK5.out.size
          simp [World.setCell]; omega
        · have hst : scanS b h (s1, none) (k, r) = (s1, some k) := by simp [scanS, hbr, hhr]
          rw [hst] at HPR
          rw [hhr] at HH
          clear hst hhr
          gi_wp2
          rw [← HW3.out]
          refine ⟨trivial, ?_⟩
          refine (CallsIn.inRound l' (callsIn_wide.2 (HH.out _ HJ3.out))).mono ?_
          rintro e W4 ⟨rfl, hq4⟩
          have HQ4 := Lib.hid hq4
          clear hq4
          gi_wp2
          have HKA : Hid (KeepsOthers W W4) := HO3.out.trans (KeepsOthers.of_bw HQ4.out)
          refine ⟨HKA.out.from _, HKA.out.walks, HPR.out _ (HJ.out.bw HJ3.out HQ4.out) (HP3.out.kept (bw_grows HQ4.out) (by simp)) (HD3.out.kept (bw_grows HQ4.out) (by simp)) ?_⟩
          have h1 := HS3.out; have h2 := HQ4.out.size
          omega
    · simp only [frV] at cd
      have hbr : True := trivial
      obtain ⟨hak, hkl⟩ := HAH.out a rfl
      have HAK : Hid (a ≤ k) := Nat.le_of_lt hak
      have HJ3 := HJ1
      have HP3 := HP1
      have HD3 : Hid (Boxed W (N + 1) 3 (.int .i64 (a : Int))) := HD1
      have HO3 : Hid (KeepsOthers W W) := KeepsOthers.refl W
      have HS3 := HS1
      have ch3 := HCH.out _ _ HJ1.out
      have t1 : ((a : Int) == -1) = false := by simp
      have t2 : ((a : Int) != -1) = true := by simp
      clear hak hkl
      gi_wp2
      refine ⟨fun f hf => (by cases hf), ?_⟩

      rcases hhr : h r with _ | _
      · have hst : scanS b h (s1, some a) (k, r) = (s1 ++ [(a, k)], none) := by simp [scanS, hbr, hhr]
        rw [hst] at HPR
        rw [hhr] at HH
        gi_wp2
        refine ⟨trivial, ?_⟩
        refine (CallsIn.inRound l' (callsIn_wide.2 (HH.out _ HJ3.out))).mono ?_
        rintro e W4 ⟨rfl, hq4⟩
        have hP4 : Boxed W4 N 59 (.func (.func pf) #[] plb) := HP3.out.kept (bw_grows hq4) (by simp)
        have hD4 : Boxed W4 (N + 1) 3 (.int .i64 (a : Int)) := HD3.out.kept (bw_grows hq4) (by simp)
        have cp4 := hP4.cell
        have cd4 := hD4.cell
        have HPT := Lib.hid (HPUT.out s1 a k W4 HAK.out (by have := HPL.out; omega) HSL.out (HJ.out.bw HJ3.out hq4))
        have HP4 := Lib.hid hP4; have HD4 := Lib.hid hD4; have HQ4 := Lib.hid hq4
        clear hP4 hD4 hq4 hst hhr
        gi_wp2
        refine ⟨trivial, ?_⟩
        refine (CallsIn.inRound l' (callsIn_wide.2 HPT.out)).mono ?_
        rintro e W5 ⟨⟨v5, rfl⟩, hJ5, hk5⟩
        have HJ5 := Lib.hid hJ5; have HK5 := Lib.hid hk5
        have HP5 := Lib.hid (hk5.boxed HP4.out (by decide) (by decide))
        have hD5 := hk5.boxed HD4.out (by decide) (by decide)
        have HD5 := Lib.hid hD5
        have fd5 := hD5.frozen
        have cd5 := hD5.cell
        clear hJ5 hk5 hD5 cp4 cd4
        gi_wp2
        have HKA : Hid (KeepsOthers W W5) := (HO3.out.trans (KeepsOthers.of_bw HQ4.out)).trans HK5.out.others
        refine ⟨(HKA.out.trans (KeepsOthers.setCell _ _ _)).from _, HKA.out.walks.trans (KeepsWalks.setCell _ _ _), HPR.out _ (HJ.out.set HJ5.out (by have := HBN.out; omega) HD5.out _) (HP5.out.other (by omega) _) (HD5.out.set _) ?_⟩
        have h1 := HS3.out; have h2 := HQ4.out.size; have h3 := HK5.out.size
        simp [World.setCell]; omega
      · have hst : scanS b h (s1, some a) (k, r) = (s1, some a) := by simp [scanS, hbr, hhr]
        rw [hst] at HPR
        rw [hhr] at HH
        clear hst hhr
        gi_wp2
        refine ⟨trivial, ?_⟩
        refine (CallsIn.inRound l' (callsIn_wide.2 (HH.out _ HJ3.out))).mono ?_
        rintro e W4 ⟨rfl, hq4⟩
        have HQ4 := Lib.hid hq4
        clear hq4
        gi_wp2
        have HKA : Hid (KeepsOthers W W4) := HO3.out.trans (KeepsOthers.of_bw HQ4.out)
        refine ⟨HKA.out.from _, HKA.out.walks, HPR.out _ (HJ.out.bw HJ3.out HQ4.out) (HP3.out.kept (bw_grows HQ4.out) (by simp)) (HD3.out.kept (bw_grows HQ4.out) (by simp)) ?_⟩
        have h1 := HS3.out; have h2 := HQ4.out.size
        omega
  case done =>
    rintro D' ys W hD' hys ⟨hj, hp, hd, hs⟩ hK
    rw [hys] at hj hd
    have HIN := Lib.hid (fun a => scan_lies (b := b) (h := h) (l := l) (a := a))
    have HSC : Hid (scanL b h l = scanE l.length ((placesL l).foldl (scanS b h) ([], none))) := rfl
    obtain ⟨s, hs1⟩ : ∃ s, s = (placesL l).foldl (scanS b h) ([], none) := ⟨_, rfl⟩
    have HSL : Hid (s.1.length ≤ C) := by
      unfold Hid; rw [hs1]
      have h1 := scan_count b h (placesL l) ([], none)
      have h2 := places_len l
      simp only [List.length_nil] at h1
      omega
    rw [← hs1] at hj hd HIN HSC
    have HBD : Hid (B ≤ D') := by unfold Hid; have := HBN.out; have := HS4.out; omega
    have cd := hd.cell
    have cp := hp.cell
    have HJ1 := Lib.hid hj; have HP1 := Lib.hid hp; have HD1 := Lib.hid hd; have HK := Lib.hid hK
    obtain ⟨s1, s2⟩ := s
    clear hj hp hd hs hK hD' hys hs1
    rcases s2 with _ | a
    · simp only [frV] at cd
      gi_wp2
      refine ⟨by simp, .inl ⟨_, _, rfl, run_takeDeferred HK.out, ?_⟩⟩
      refine ⟨_, results_none rfl _ _ _, ⟨_, rfl⟩, ?_⟩
      rw [HSC.out]
      exact (HJ.out.own HBD.out).putObj _ HJ1.out (Nat.le_refl _) HK.out rfl
    · simp only [frV] at cd
      have t2 : ((a : Int) != -1) = true := by simp
      have hlen : (tx.size : Int) = (l.length : Int) := by have := HTS.out; omega
      have HPT := Lib.hid (HPUT.out s1 a l.length W (Nat.le_of_lt (HIN.out a rfl)) (Nat.le_refl _) HSL.out HJ1.out)
      gi_wp2
      refine ⟨trivial, ?_⟩
      refine (callsIn_wide.2 HPT.out).mono ?_
      rintro e W5 ⟨⟨v5, rfl⟩, hJ5, hk5⟩
      have HK5 : Hid (W5.heap[D']? = some (.deferred (some []))) := hk5.others.same D' _ HK.out rfl
      have HJ5 := Lib.hid hJ5
      clear hJ5 hk5
      gi_wp2
      refine ⟨by simp, .inl ⟨_, _, rfl, run_takeDeferred HK5.out, ?_⟩⟩
      refine ⟨_, results_none rfl _ _ _, ⟨_, rfl⟩, ?_⟩
      rw [HSC.out]
      have h1 := (HJ.out.own HBD.out).putObj (.deferred none) HJ5.out (Nat.le_refl _) HK5.out rfl
      exact h1
end Go.Proofs.YtljjaepadnmmeaaDoor
