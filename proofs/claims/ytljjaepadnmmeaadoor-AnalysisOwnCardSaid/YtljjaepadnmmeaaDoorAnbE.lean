/- Stage 6, the program: the tokenizer of pairs. -/
import Derived.Test.YtljjaepadnmmeaaDoorAnbD
namespace Go.Proofs.YtljjaepadnmmeaaDoor
open Go.RowKit Go.Maps Fld Ana Go.Shelf
attribute [local go_sem] Oper.semAt_some

/-- the grams of a run -/
def gramsRun (l : List UInt8) (p : Nat × Nat) : List (Nat × Nat) := (gramsB ((l.drop p.1).take (p.2 - p.1)) 2).map fun q => (p.1 + q.1, p.1 + q.2)
theorem atC_take_le : ∀ (ps : List (Nat × List UInt8)) (m j : Nat), j ≤ m → atC (ps.take m) j = atC ps j
  | _, _, 0, _ => by simp [atC]
  | [], m, j + 1, _ => by rw [List.take_nil]
  | p :: ps, 0, j + 1, h => by omega
  | p :: ps, m + 1, j + 1, h => by rw [List.take_succ_cons, atC, atC, atC_take_le ps m j (by omega)]
theorem sub_cuts {l : List UInt8} {i k : Nat} (hi : i ≤ k) (hk : k ≤ (cutsL l).length) : cutsL (pieces l i k) = ((cutsL l).drop i).take (k - i) := by
  unfold pieces
  rw [← cuts_drop l i (by omega)]
  exact cuts_take _ _
theorem sub_at {l : List UInt8} {i k : Nat} (hi : i ≤ k) (hk : k ≤ (cutsL l).length) (j : Nat) : atL l i + atM (pieces l i k) j = atL l (i + min j (k - i)) := by
  unfold atM
  have e := sub_cuts hi hk
  have e2 : (cutsL (pieces l i k)).length = k - i := by rw [e, List.length_take, List.length_drop]; omega
  rw [e2]
  unfold atL
  rw [e, atC_take_le _ _ _ (Nat.min_le_right ..), atC_add (i := i) (j := min j (k - i)) (by omega)]
theorem run_grams {l : List UInt8} {p : Nat × Nat} (h1 : p.1 < p.2) (h2 : p.2 ≤ (cutsL l).length) : gramsRun l (byPlace l p) = ((if p.2 = p.1 + 1 then [p] else []) ++ (List.range (p.2 - p.1 - 1)).map fun k => (p.1 + k, p.1 + k + 2)).map (byPlace l) := by
  obtain ⟨i, k⟩ := p
  simp only at h1 h2
  unfold gramsRun byPlace
  simp only
  rw [slice_pieces (Nat.le_of_lt h1) h2]
  have hs := fun j => sub_at (Nat.le_of_lt h1) h2 j
  have hc : (cutsL (pieces l i k)).length = k - i := by rw [sub_cuts (Nat.le_of_lt h1) h2, List.length_take, List.length_drop]; omega
  unfold gramsB gramAt
  rw [hc, List.map_map]
  by_cases h : k = i + 1
  · subst h
    rw [if_pos rfl, show i + 1 - i - 2 + 1 = 1 by omega, show i + 1 - i - 1 = 0 by omega]
    simp only [List.range_succ, List.range_zero, List.nil_append, List.map_cons, List.map_nil, Function.comp_apply, List.append_nil, List.cons.injEq, Prod.mk.injEq, and_true]
    rw [hs, hs, show i + min 0 (i + 1 - i) = i by omega, show i + min (0 + 2) (i + 1 - i) = i + 1 by omega]
    exact ⟨rfl, rfl⟩
  · rw [if_neg h, List.nil_append, List.map_map, show k - i - 2 + 1 = k - i - 1 by omega]
    refine List.map_congr_left fun j hj => ?_
    have := List.mem_range.1 hj
    simp only [Function.comp_apply, Prod.mk.injEq]
    rw [hs, hs]
    refine ⟨by congr 1; omega, by congr 1; omega⟩
theorem pairs_cut (l : List UInt8) : ((runs 1 0 (runesOf l)).map (byPlace l)).flatMap (gramsRun l) = (Ana.cut 4 (runesOf l)).map (byPlace l) := by
  unfold Ana.cut
  rw [if_neg (by decide), if_pos rfl, List.flatMap_map, List.map_flatMap]
  refine flatMap_same fun p hp => ?_
  have := (runs_shape (n := 1) (runesOf l) 0).1 p hp
  rw [runes_len] at this
  exact run_grams (by omega) (by omega)
theorem gramsB_len (l : List UInt8) (n : Nat) : (gramsB l n).length = (cutsL l).length - n + 1 := by unfold gramsB; simp
theorem gramsB_in {l : List UInt8} {n : Nat} {q : Nat × Nat} (h : q ∈ gramsB l n) : q.1 ≤ q.2 ∧ q.2 ≤ l.length := by
  unfold gramsB at h
  obtain ⟨j, _, rfl⟩ := List.mem_map.1 h
  exact ⟨atM_mono (Nat.le_add_right _ _), atM_le _ _⟩
theorem runs_total (l : List UInt8) : ∀ (ps : List (Nat × Nat)), (∀ p ∈ ps, p.1 ≤ p.2 ∧ p.2 ≤ l.length) → (ps.flatMap (gramsRun l)).length ≤ ps.length * (l.length + 1)
  | [], _ => by simp
  | p :: ps, h => by
    have h1 := h p (List.mem_cons_self ..)
    have h2 := runs_total l ps (fun q hq => h q (List.mem_cons_of_mem _ hq))
    have h3 : (gramsRun l p).length ≤ l.length + 1 := by
      unfold gramsRun; rw [List.length_map, gramsB_len]
      have := cuts_len ((l.drop p.1).take (p.2 - p.1))
      rw [List.length_take, List.length_drop] at this; omega
    rw [List.flatMap_cons, List.length_append, List.length_cons, Nat.add_mul]; omega
theorem boxed_stab {W W' : World} {row : Option Nat} {b t : Nat} {v : Value} (h : Boxed W b t v) (ht : t ≠ 3) (hg : W.grownBy W' row) (hrow : ∀ r, row = some r → ∃ o : Obj, W.heap[r]? = some o ∧ (o.isCells = false ∨ ∃ v, o = .cells #[v] 3 (0, 0))) : Boxed W' b t v := by
  refine grown_keeps hg h (fun e => ?_)
  obtain ⟨o, ho, h3⟩ := hrow b e
  have h4 : W.heap[b]? = _ := h
  rw [ho] at h4
  obtain rfl := Option.some.inj h4
  rcases h3 with h3 | ⟨u, h3⟩
  · cases h3
  · injection h3 with _ h5 _; exact ht h5
/-- the boxes that stay -/
structure PairB (t2 p2 b0 B1 B2 : Nat) (l : List UInt8) (cv : Value) (W : World) : Prop where
  text : Boxed W t2 9 (textV l)
  put : Boxed W p2 59 cv
  z0 : Boxed W b0 39 (.func (.func 52) #[] #[])
  z1 : Boxed W B1 39 (.func (.func 52) #[] #[])
  z2 : Boxed W B2 39 (.func (.func 55) #[] #[.pointer (some ⟨b0, 0, none⟩)])
theorem PairB.stab {t2 p2 b0 B1 B2 : Nat} {l : List UInt8} {cv : Value} {W W' : World} {row : Option Nat} (h : PairB t2 p2 b0 B1 B2 l cv W) (hg : W.grownBy W' row) (hrow : ∀ r, row = some r → ∃ o : Obj, W.heap[r]? = some o ∧ (o.isCells = false ∨ ∃ v, o = .cells #[v] 3 (0, 0))) : PairB t2 p2 b0 B1 B2 l cv W' :=
  ⟨boxed_stab h.text (by decide) hg hrow, boxed_stab h.put (by decide) hg hrow, boxed_stab h.z0 (by decide) hg hrow, boxed_stab h.z1 (by decide) hg hrow, boxed_stab h.z2 (by decide) hg hrow⟩
theorem PairB.kt {t2 p2 b0 B1 B2 : Nat} {l : List UInt8} {cv : Value} {W W' : World} (h : PairB t2 p2 b0 B1 B2 l cv W) (hk : KT W W') : PairB t2 p2 b0 B1 B2 l cv W' :=
  ⟨hk.boxed h.text (by decide) (by decide), hk.boxed h.put (by decide) (by decide), hk.boxed h.z0 (by decide) (by decide), hk.boxed h.z1 (by decide) (by decide), hk.boxed h.z2 (by decide) (by decide)⟩
def cutV (ob tb : Nat) : Value := .func (.func 35) #[] #[.pointer (some ⟨ob, 0, none⟩), .pointer (some ⟨tb, 0, none⟩)]
structure PairJ (w0 : World) (tb ob t2 p2 b0 B1 B2 : Nat) (l : List UInt8) (ps : List (Nat × Nat)) (W : World) : Prop where
  cut : CutJ w0 tb ob l (ps.flatMap (gramsRun l)) W
  inn : ∀ p ∈ ps, p.1 ≤ p.2 ∧ p.2 ≤ l.length
  box : PairB t2 p2 b0 B1 B2 l (cutV ob tb) W
theorem pairJ_stab {w0 : World} {tb ob t2 p2 b0 B1 B2 : Nat} {l : List UInt8} {B : Nat} (hB : w0.heap.size ≤ B) : Stab B (PairJ w0 tb ob t2 p2 b0 B1 B2 l) := by
  rintro ps W W' row ⟨h1, h2, h3⟩ hg hrow
  exact ⟨cutJ_stab hB _ W W' row h1 hg hrow, h2, h3.stab hg (fun r e => (hrow r e).2)⟩
set_option maxHeartbeats 1000000 in
theorem grams_any (l : List UInt8) (n : Nat) (w : World) : Calls Tryd.prog 60 #[textV l, .int .i64 (n : Int)] w fun e w' => e = .returned (.func (.func 75) #[] #[.pointer (some ⟨w.heap.size, 0, none⟩), .pointer (some ⟨w.heap.size + 1, 0, none⟩)]) ∧ (w.alloc (.cells #[textV l] 9)).alloc (.cells #[.int .i64 (n : Int)] 3) = w' := by
  have hmf : ∀ (fn : Fn) (first cap : Array Value) (w : World), (Instr.makeFunc fn first cap).run Tryd.prog w = .ok (.func fn first cap) w := fun _ _ _ _ => rfl
  unfold textV
  go_enter Tryd.func60, Tryd.ntmps60
  go_wp2
  go_ret
  exact ⟨rfl, rfl⟩
/-- the iterator over grams, for the law of loops -/
theorem grams_iter (l : List UInt8) (hl : (l.length : Int) ≤ 1000000000000000) (n : Nat) (hn : n ≤ 100) (Bt Bn : Nat) (w0 w : World) (hN : NextOk w0) (hb0 : BW w0 w) (hBt : Boxed w Bt 9 (textV l)) (hBn : Boxed w Bn 3 (.int .i64 (n : Int))) :
    IterAt Tryd.prog 75 #[.pointer (some ⟨Bt, 0, none⟩), .pointer (some ⟨Bn, 0, none⟩)] (encG (L := l.length)) (fun _ => GK w0 Bt (textV l)) (fun xs => valG xs = gramsB l n) (fun pre => valG pre <+: gramsB l n) (fun pre => pre.length ≤ (cutsL l).length - n + 1) w := by
  intro ly J Jx W _ _ hbel hJ hJx hY h0
  refine callsIn_wide.1 (grams1_in l hl n hn 1 ly Bt Bn (Nat.le_refl _) w0 W J Jx (OwnFrom.abides hJ) (fun pre x W1 h1 h2 => ?_) hN (hb0.trans hbel) (boxed_on hBt hbel).cell (boxed_on hBn hbel).cell h0)
  obtain ⟨fn, tmps, assign, body, hy, hR⟩ := hY pre x W1 h1 (by simp only [List.length_append, List.length_cons, List.length_nil]; omega)
  exact ⟨fn, tmps, assign, body, hy, hR.mono fun e W' h => h.imp id (fun h => ⟨h.1, h.2.1⟩)⟩
/-- where the pairs of one run stand -/
structure PairI (w0 We : World) (tb ob t2 p2 b0 B1 B2 N a : Nat) (l sub : List UInt8) (base : List (Nat × Nat)) (pre : List (GX sub.length)) (W : World) : Prop where
  cut : CutJ w0 tb ob l (base ++ (valG pre).map fun q => (a + q.1, a + q.2)) W
  box : PairB t2 p2 b0 B1 B2 l (cutV ob tb) W
  beg : Boxed W N 3 (.int .i64 (a : Int))
  sub : Boxed W (N + 1) 9 (textV sub)
  kt : KT We W
theorem boxed_own1 {W W' : World} {row : Option Nat} {b t : Nat} {v : Value} (h : Boxed W b t v) (hg : W.grownBy W' row) (hr : ∀ r, row = some r → ∃ o : Obj, W.heap[r]? = some o ∧ o.isCells = false) : Boxed W' b t v :=
  grown_keeps hg h (fun e => by
    obtain ⟨o, ho, h3⟩ := hr b e
    have h4 : W.heap[b]? = _ := h
    rw [ho] at h4
    obtain rfl := Option.some.inj h4
    cases h3)
theorem pairI_own {w0 We : World} {tb ob t2 p2 b0 B1 B2 N a M : Nat} {l sub : List UInt8} {base : List (Nat × Nat)} (hB : w0.heap.size ≤ M) (hM : We.heap.size ≤ M) : OwnFrom M (PairI w0 We tb ob t2 p2 b0 B1 B2 N a l sub base) := by
  rintro pre W W' row ⟨h1, h2, h3, h4, h5⟩ hg hr
  refine ⟨(cutJ_stab hB).own (Nat.le_refl _) _ W W' row h1 hg hr, h2.stab hg (fun r e => by obtain ⟨_, o, ho, h⟩ := hr r e; exact ⟨o, ho, .inl h⟩), boxed_own1 h3 hg (fun r e => (hr r e).2), boxed_own1 h4 hg (fun r e => (hr r e).2), hg.os.trans h5.os, Nat.le_trans h5.size hg.size, fun b o hb k1 k2 => ?_⟩
  exact grown_keeps hg (h5.same b o hb k1 k2) (fun e => by have := (hr b e).1; have := lt_of_heap hb; omega)
set_option maxRecDepth 100000 in
set_option maxHeartbeats 4000000 in
theorem pairs1_put (w0 : World) (tb ob t2 p2 b0 B1 B2 : Nat) (l : List UInt8) (hl : l.length ≤ 4096) (hob : w0.heap.size ≤ ob) (hN : NextOk w0) : PutOk 59 #[.pointer (some ⟨t2, 0, none⟩), .pointer (some ⟨p2, 0, none⟩)] l.length l.length (PairJ w0 tb ob t2 p2 b0 B1 B2 l) := by
  rintro ps a b W hab hbl hps ⟨hcut, hinn, hbox⟩
  show Calls Tryd.prog 59 #[.int .i64 (a : Int), .int .i64 (b : Int), .pointer (some ⟨t2, 0, none⟩), .pointer (some ⟨p2, 0, none⟩)] W _
  obtain ⟨tx, htxe⟩ : ∃ tx, tx = ByteArray.mk l.toArray := ⟨_, rfl⟩
  have hts : tx.size = l.length := by rw [htxe]; exact text_size l
  have htv : textV l = .string tx := by rw [htxe]; rfl
  obtain ⟨sub, hsub⟩ : ∃ sub, sub = (l.drop a).take (b - a) := ⟨_, rfl⟩
  have hsl : sub.length = b - a := by rw [hsub, List.length_take, List.length_drop]; omega
  obtain ⟨px, hpx⟩ : ∃ px, px = tx.extract a b := ⟨_, rfl⟩
  have hpv : textV sub = .string px := by unfold textV; rw [hpx, hsub, htxe, ByteArray.extract_mk]
  have hct := hbox.text.cell
  rw [htv] at hct
  have hcp := hbox.put.cell
  unfold cutV at hcp
  have HTOT : Hid ((ps.flatMap (gramsRun l)).length ≤ 100000000) := by
    unfold Hid
    have h1 := runs_total l ps hinn
    have h2 : ps.length * (l.length + 1) ≤ 4096 * 4097 := Nat.mul_le_mul (by omega) (by omega)
    omega
  have HEND : Hid ((ps ++ [(a, b)]).flatMap (gramsRun l) = ps.flatMap (gramsRun l) ++ (gramsB sub 2).map (fun q => (a + q.1, a + q.2)) ∧ ∀ p ∈ ps ++ [(a, b)], p.1 ≤ p.2 ∧ p.2 ≤ l.length) := by
    refine ⟨by rw [List.flatMap_append, hsub]; simp [gramsRun], fun p hp => ?_⟩
    rcases List.mem_append.1 hp with h | h
    · exact hinn p h
    · rw [List.mem_singleton.1 h]; exact ⟨hab, hbl⟩
  obtain ⟨base, hbase⟩ : ∃ base, base = ps.flatMap (gramsRun l) := ⟨_, rfl⟩
  rw [← hbase] at hcut HTOT HEND
  have HG := Lib.hid (fun X => grams_any sub 2 X)
  rw [hpv] at HG
  have HPUT := Lib.hid (cut1_put w0 tb ob l (by omega) hob)
  have HCUT := Lib.hid hcut; have HBOX := Lib.hid hbox; have HNX := Lib.hid hN; have HSL := Lib.hid hsl; have HL := Lib.hid hl; have HPV := Lib.hid hpv; have HTS := Lib.hid hts
  have HAB : Hid (a ≤ b ∧ b ≤ l.length) := ⟨hab, hbl⟩
  have s1 : (a : Int) ≤ (b : Int) := by omega
  have s2 : (b : Int) ≤ (tx.size : Int) := by omega
  have s3 : 0 ≤ (a : Int) := by omega
  have s4 : 0 ≤ (b : Int) := by omega
  have hpx2 : tx.extract a b = px := hpx.symm
  have hmf : ∀ (fn : Fn) (first cap : Array Value) (w : World), (Instr.makeFunc fn first cap).run Tryd.prog w = .ok (.func fn first cap) w := fun _ _ _ _ => rfl
  obtain ⟨N, hNn⟩ : ∃ N, N = W.heap.size := ⟨_, rfl⟩
  obtain ⟨W1, hW1⟩ : ∃ W1, W1 = W.alloc (.cells #[.int .i64 (a : Int)] 3) := ⟨_, rfl⟩
  have hk1 : KT W W1 := by rw [hW1]; exact KT.of_bw (bw_alloc W _)
  have hq1 : BW W W1 := by rw [hW1]; exact bw_alloc W _
  have hN1 : Boxed W1 N 3 (.int .i64 (a : Int)) := by rw [hW1, hNn]; exact Boxed.new W _ _
  have hz1 : W1.heap.size = N + 1 := by rw [hW1, hNn, World.size_alloc]
  have c1 : (W.alloc (.cells #[.int .i64 (a : Int)] 3)).cell? ⟨W.heap.size, 0, none⟩ = some (.int .i64 (a : Int)) := (Boxed.new W 3 (.int .i64 (a : Int))).cell
  have c2 : (W.alloc (.cells #[.int .i64 (a : Int)] 3)).cell? ⟨t2, 0, none⟩ = some (.string tx) := by rw [← htv]; exact (hbox.text.alloc _).cell
  have HK1 := Lib.hid hk1; have HQ1 := Lib.hid hq1; have HN1 := Lib.hid hN1; have HZ1 := Lib.hid hz1; have HW1 := Lib.hid hW1
  clear hcut hinn hbox htxe hts htv hsub hsl hpx hpv hbase hab hbl hps hob hN hl hk1 hq1 hN1 hz1 hW1 hct hcp
  refine (callsIn_wide (n := 5)).1 ?_
  refine callsIn_of_wp_marks Tryd.func59 rfl trivial ?_ rfl
  simp only [Tryd.ntmps59, List.size_toArray, List.length_cons, List.length_nil, Nat.reduceAdd, Nat.reduceSub, Array.replicate_succ, Array.replicate_zero, List.push_toArray, List.append_toArray, List.nil_append, List.cons_append]
  gi_wp2
  rw [← HW1.out, ← hNn]
  have HNN := Lib.hid hNn
  clear hNn
  refine ⟨trivial, ?_⟩
  refine (callsIn_wide.2 (HG.out _)).mono ?_
  rintro e W3 ⟨rfl, hw3⟩
  have HB3 : Hid (BW W W3) := by unfold Hid; rw [← hw3]; exact (HQ1.out.alloc _).alloc _
  have HS3 : Hid (Boxed W3 (N + 1) 9 (textV sub)) := by unfold Hid; rw [← hw3, HPV.out, ← HZ1.out]; exact (Boxed.new W1 _ _).alloc _
  have HI3 : Hid (Boxed W3 (N + 2) 3 (.int .i64 ((2 : Nat) : Int))) := by
    unfold Hid; rw [← hw3]
    have := Boxed.new (W1.alloc (.cells #[.string px] 9)) 3 (.int .i64 ((2 : Nat) : Int))
    rw [World.size_alloc, HZ1.out] at this; exact this
  have HN3 : Hid (Boxed W3 N 3 (.int .i64 (a : Int))) := by unfold Hid; rw [← hw3]; exact (HN1.out.alloc _).alloc _
  have HZ3 : Hid (W3.heap.size = N + 3) := by unfold Hid; rw [← hw3, World.size_alloc, World.size_alloc, HZ1.out]
  have hz1 := HZ1.out
  rw [hz1]
  clear hw3 hz1 c1 c2
  have hnn := func_is_not_nil W3 Tryd.underlying76 ⟨_, _, _, rfl⟩ (.func 75) #[] #[.pointer (some ⟨N + 1, 0, none⟩), .pointer (some ⟨N + 1 + 1, 0, none⟩)]
  have HCB : Hid (BW w0 W3) := HCUT.out.bw.trans HB3.out
  gi_wp2
  refine range_k (enc := encG (L := sub.length)) (Kp := fun _ => GK w0 (N + 1) (textV sub)) (S := fun xs => valG xs = gramsB sub 2) (Sp := fun pre => valG pre <+: gramsB sub 2) (Tr := fun pre => pre.length ≤ (cutsL sub).length - 2 + 1) (by decide) (gf := 75) (lb := #[.pointer (some ⟨N + 1, 0, none⟩), .pointer (some ⟨N + 1 + 1, 0, none⟩)]) rfl (enters_of Tryd.func75 (by kernel_rfl) rfl) (fun _ => rfl)
    (grams_iter sub (by have := HSL.out; have := HAB.out; have := HL.out; omega) 2 (by decide) (N + 1) (N + 1 + 1) w0 W3 HNX.out HCB.out HS3.out HI3.out)
    (fun h k => h.trans k) (fun X o o' h hc _ => GK.books (N := W3.heap.size + 1) (by have := HCB.out.size; omega) X _ o o' (Nat.le_refl _) h hc)
    (PairI w0 W tb ob t2 p2 b0 B1 B2 N a l sub base) (fun _ _ _ => False) (pairI_own HCB.out.size HB3.out.size) (fun _ _ _ _ _ h => h.elim) ?start (fun x => #[.int .i64 (a : Int), .int .i64 (b : Int), .pointer (some ⟨t2, 0, none⟩), .pointer (some ⟨p2, 0, none⟩), .pointer (some ⟨N, 0, none⟩), undef, .int .i64 (x.1.1 : Int), .int .i64 (x.1.2 : Int), .string tx, .int .i64 (a : Int), .int .i64 (b : Int), .string px, .func (.func 75) #[] #[.pointer (some ⟨N + 1, 0, none⟩), .pointer (some ⟨N + 1 + 1, 0, none⟩)], .int .i64 (x.1.1 : Int), .int .i64 (x.1.2 : Int), undef, undef, undef, undef, undef, undef, undef, undef]) ?assign ?body ?done (fun _ _ _ _ _ _ h _ => h.elim)
  case start => exact ⟨by simpa [valG] using (cutJ_stab (Nat.le_refl _)).bw HCUT.out HB3.out, HBOX.out.kt (KT.of_bw HB3.out), HN3.out, HS3.out, KT.of_bw HB3.out⟩
  case assign =>
    intro l' x X K hK
    gi_wp2
    simpa [encG] using hK
  case body =>
    rintro pre x X hsz ⟨hc, hbx, hbe, hsu, hkt⟩ htr
    have hq := x.2
    obtain ⟨q1, hq1⟩ : ∃ q1, q1 = x.1.1 := ⟨_, rfl⟩
    obtain ⟨q2, hq2⟩ : ∃ q2, q2 = x.1.2 := ⟨_, rfl⟩
    have HXV : Hid (valG (pre ++ [x]) = valG pre ++ [(q1, q2)]) := by unfold Hid valG; rw [List.map_append, hq1, hq2]; rfl
    rw [← hq1, ← hq2] at hq ⊢
    have hplen : pre.length + 1 ≤ (cutsL sub).length + 1 := by
      simp only [List.length_append, List.length_cons, List.length_nil] at htr; omega
    have hcl := cuts_len sub
    have hsl := HSL.out; have hab := HAB.out; have hlb := HL.out; have htot := HTOT.out
    obtain ⟨t1, ht1⟩ : ∃ t1, t1 = a + q1 := ⟨_, rfl⟩
    obtain ⟨t3, ht3⟩ : ∃ t3, t3 = a + q2 := ⟨_, rfl⟩
    have hcnt : (base ++ (valG pre).map fun q => (a + q.1, a + q.2)).length ≤ 1000000000 := by
      rw [List.length_append, List.length_map]; unfold valG; rw [List.length_map]; omega
    have HP := Lib.hid (HPUT.out _ t1 t3 X (by omega) (by omega) hcnt hc)
    have HTT : Hid (base ++ (valG (pre ++ [x])).map (fun q => (a + q.1, a + q.2)) = (base ++ (valG pre).map fun q => (a + q.1, a + q.2)) ++ [(t1, t3)]) := by
      unfold Hid; rw [HXV.out, List.map_append, ht1, ht3, List.append_assoc]; rfl
    have e1 : (a : Int) + (q1 : Int) = (t1 : Int) := by omega
    have e2 : (a : Int) + (q2 : Int) = (t3 : Int) := by omega
    have w1 : IntKind.i64.wrap (t1 : Int) = (t1 : Int) := wrap_small _ (by omega) (by omega)
    have w2 : IntKind.i64.wrap (t3 : Int) = (t3 : Int) := wrap_small _ (by omega) (by omega)
    have cp := hbx.put.cell
    have ca := hbe.cell
    unfold cutV at cp
    have HBX := Lib.hid hbx; have HBE := Lib.hid hbe; have HSU := Lib.hid hsu; have HKT := Lib.hid hkt
    clear hq hq1 hq2 hplen hcl hsl hab hlb htot ht1 ht3 hcnt hc hbx hbe hsu hkt htr hsz
    gi_wp2
    refine ⟨trivial, ?_⟩
    refine (CallsIn.inRound _ (callsIn_wide.2 HP.out)).mono ?_
    rintro e X2 ⟨⟨v2, rfl⟩, hc2, hk2⟩
    have HC2 := Lib.hid hc2; have HK2 := Lib.hid hk2
    clear hc2 hk2 cp ca
    gi_wp2
    have hs2 : Boxed X2 (N + 1) 9 (textV sub) := HK2.out.boxed HSU.out (by decide) (by decide)
    refine ⟨HK2.out.others.from _, ⟨fun _ => hs2.cell, fun _ => HC2.out.bw⟩, by rw [HTT.out]; exact HC2.out, HBX.out.kt HK2.out, HK2.out.boxed HBE.out (by decide) (by decide), hs2, HKT.out.trans HK2.out⟩
  case done =>
    rintro D' ys X hD' hys ⟨hc, hbx, hbe, hsu, hkt⟩ hK
    rw [hys, ← HEND.out.1] at hc
    have HC := Lib.hid hc; have HBX := Lib.hid hbx; have HKT := Lib.hid hkt; have HK := Lib.hid hK; have HD := Lib.hid hD'
    clear hc hbx hbe hsu hkt hK hD' hys
    gi_wp2
    refine ⟨by simp, .inl ⟨_, _, rfl, run_takeDeferred HK.out, ?_⟩⟩
    refine ⟨_, results_none rfl _ _ _, ⟨_, rfl⟩, ?_, ?_⟩
    · refine (pairJ_stab (Nat.le_refl _)).own (Nat.le_refl _) |>.putObj _ (s := ps ++ [(a, b)]) ⟨HC.out, HEND.out.2, HBX.out⟩ (by have := HD.out; have := HCB.out.size; omega) HK.out rfl
    · refine ⟨HKT.out.os, by simpa [World.putObj] using HKT.out.size, fun k o hk h1 h2 => ?_⟩
      refine (World.putObj_heap_other (fun e => ?_)).trans (HKT.out.same k o hk h1 h2)
      have := lt_of_heap hk; have := HD.out; have := HB3.out.size; omega
end Go.Proofs.YtljjaepadnmmeaaDoor
