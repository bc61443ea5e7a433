/- Stage 6, the program: what a filter leaves of tokens. -/
import Derived.Test.YtljjaepadnmmeaaDoorAnbL
import Derived.Maps.OwnIn
namespace Go.Proofs.YtljjaepadnmmeaaDoor
open Go.RowKit Go.Maps Fld Ana Go.Shelf
attribute [local go_sem] Oper.semAt_some

/-- a slice that reads tokens -/
def TokSrc (w : World) (v : Value) (l : List Tok) : Prop := ∃ ao cap, v = .slice ao l.length cap ∧ ∀ j u, (tokCells l)[j]? = some u → ∃ b off, ao = some ⟨b, off, none⟩ ∧ w.cell? ⟨b, off + j, none⟩ = some u
theorem TokSrc.bw {w W : World} {v : Value} {l : List Tok} (h : TokSrc w v l) (hb : BW w W) : TokSrc W v l := by
  obtain ⟨ao, cap, rfl, hc⟩ := h
  refine ⟨ao, cap, rfl, fun j u hu => ?_⟩
  obtain ⟨b, off, rfl, h1⟩ := hc j u hu
  exact ⟨b, off, rfl, (hb.cell (p := ⟨b, off + j, none⟩) (cell_lt h1)).trans h1⟩
theorem tokCells_at : ∀ (l : List Tok) (i : Nat) (h : i < l.length) (k : Nat) (u : Value), (tokV l[i])[k]? = some u → (tokCells l)[4 * i + k]? = some u
  | t :: l, 0, _, k, u, hu => by
    unfold tokCells; rw [List.flatMap_cons, Nat.mul_zero, Nat.zero_add, List.getElem?_append_left]
    · exact hu
    · exact (List.getElem?_eq_some_iff.1 hu).1
  | t :: l, i + 1, h, k, u, hu => by
    have ih := tokCells_at l i (by simpa using h) k u (by simpa using hu)
    unfold tokCells at ih ⊢
    rw [List.flatMap_cons, List.getElem?_append_right (by simp [tokV]; omega)]
    have : (tokV t).length = 4 := rfl
    rw [this, show 4 * (i + 1) + k - 4 = 4 * i + k by omega]; exact ih
/-- what a filter of these words makes of tokens -/
def mapT (g : List UInt8 → List (List UInt8)) (l : List Tok) : List Tok := l.flatMap fun t => (g t.text).map fun x => { t with text := x }
theorem mapT_snoc (g : List UInt8 → List (List UInt8)) (l : List Tok) (t : Tok) : mapT g (l ++ [t]) = mapT g l ++ (g t.text).map fun x => { t with text := x } := by unfold mapT; rw [List.flatMap_append]; simp
def throughL (g : List UInt8 → List (List UInt8)) (l : List Tok) : List Tok × Int := if (mapT g l).length ≤ 4096 then (mapT g l, 0) else ([], 84)
/-- tokens and an error handed out -/
def LinkPost (w : World) (r : List Tok × Int) (e : Ending) (w' : World) : Prop := ∃ v, e = .returned (.tuple #[v, .int .i64 r.2]) ∧ w'.ownsRow w.heap.size 43 4 v r.1.length (tokCells r.1) ∧ BW w w'
/-- the marks that ranges left -/
def mark (D : Nat) : Deferred := { target := .collected D, args := #[] }
def Mk (B : Nat) (Ds : List Nat) (W : World) : Prop := Ds.Nodup ∧ ∀ D ∈ Ds, B ≤ D ∧ W.heap[D]? = some (Obj.deferred (some []))
theorem Mk.keep {B : Nat} {Ds : List Nat} {W W' : World} (h : Mk B Ds W) (hk : ∀ D : Nat, W.heap[D]? = some (Obj.deferred (some [])) → W'.heap[D]? = some (Obj.deferred (some []))) : Mk B Ds W' :=
  ⟨h.1, fun D hD => ⟨(h.2 D hD).1, hk D (h.2 D hD).2⟩⟩
theorem Mk.bw {B : Nat} {Ds : List Nat} {W W' : World} (h : Mk B Ds W) (hb : BW W W') : Mk B Ds W' := h.keep fun D hD => (hb.block D (lt_of_heap hD)).trans hD
theorem Mk.others {B : Nat} {Ds : List Nat} {W W' : World} (h : Mk B Ds W) (hb : KeepsOthers W W') : Mk B Ds W' := h.keep fun D hD => hb.same D _ hD rfl
theorem leave_marks {F : Fence} {n : Nat} {P : Program} {fn : Func} {tmps : Array Value} {R : Ending → World → Prop} {Fin : World → Prop} {B : Nat}
    (hFin : ∀ W D, B ≤ D → Fin W → W.heap[D]? = some (Obj.deferred (some [])) → Fin (W.putObj D (.deferred none))) (hend : ∀ W, Fin W → LeavesIn F n P fn tmps R [] .returning W) :
    ∀ (Ds : List Nat) (W : World), Mk B Ds W → Fin W → LeavesInM F n P fn tmps R (Ds.map mark) .returning W
  | [], W, _, hf => hend W hf
  | D :: Ds, W, ⟨hn, hm⟩, hf => by
    obtain ⟨hD, hk⟩ := hm D (List.mem_cons_self ..)
    rw [List.nodup_cons] at hn
    refine ⟨by simp, .inl ⟨D, _, rfl, run_takeDeferred hk, ?_⟩⟩
    refine leave_marks hFin hend Ds _ ⟨hn.2, fun E hE => ⟨(hm E (List.mem_cons_of_mem _ hE)).1, ?_⟩⟩ (hFin W D hD hf hk)
    exact (World.putObj_heap_other (fun e => hn.1 (by rw [← e]; exact hE))).trans (hm E (List.mem_cons_of_mem _ hE)).2
/-- where the answer stands: the two results' variables, the tokens' variable and row -/
structure OutI (w : World) (O : Nat) (acc : List Tok) (nt : Option Nat) (W : World) : Prop where
  bw : BW w W
  r1 : Boxed W w.heap.size 24 (.slice none 0 0)
  r2 : Boxed W (w.heap.size + 1) 25 (.int .i64 0)
  out : ∃ v, Boxed W O 24 v ∧ W.ownsRow (w.heap.size + 2) 43 4 v acc.length (tokCells acc) ∧ ∀ b, nt = some b → v.ownBlock ≠ some b
theorem OutI.grown {w : World} {O : Nat} {acc : List Tok} {nt : Option Nat} {W W' : World} {row : Option Nat} (h : OutI w O acc nt W) (hg : W.grownBy W' row) (hr : ∀ r, row = some r → w.heap.size ≤ r ∧ ∃ o : Obj, W.heap[r]? = some o ∧ o.isCells = false) : OutI w O acc nt W' := by
  obtain ⟨h1, h2, h3, v, h4, h5, h6⟩ := h
  refine ⟨RowKit.Below.grown h1 hg h1.size (fun r e => (hr r e).1), boxed_own1 h2 hg (fun r e => (hr r e).2), boxed_own1 h3 hg (fun r e => (hr r e).2), v, boxed_own1 h4 hg (fun r e => (hr r e).2), h5.kept hg ?_, h6⟩
  cases hv : v.ownBlock with
  | none => exact .inl rfl
  | some b =>
    obtain ⟨_, c, fz, hb⟩ := row4_own h5 b hv
    refine .inr fun e => ?_
    obtain ⟨_, o, ho, hc⟩ := hr b e.symm
    rw [hb] at ho; cases ho; cases hc
theorem OutI.on {w : World} {O : Nat} {acc : List Tok} {nt : Option Nat} {W W' : World} (h : OutI w O acc nt W) (hb : BW W W') : OutI w O acc nt W' := h.grown (bw_grow hb) (fun r e => by cases e)
/-- a new token's block is none of the row's -/
theorem OutI.fresh {w : World} {O : Nat} {acc : List Tok} {W : World} (h : OutI w O acc none W) {t : Nat} (ht : W.heap.size ≤ t) : OutI w O acc (some t) W := by
  obtain ⟨h1, h2, h3, v, h4, h5, _⟩ := h
  refine ⟨h1, h2, h3, v, h4, h5, fun b e hv => ?_⟩
  obtain rfl := Option.some.inj e
  obtain ⟨_, c, fz, hb⟩ := row4_own h5 _ hv
  have := lt_of_heap hb; omega
theorem OutI.drop {w : World} {O : Nat} {acc : List Tok} {nt : Option Nat} {W : World} (h : OutI w O acc nt W) : OutI w O acc none W := by
  obtain ⟨h1, h2, h3, v, h4, h5, _⟩ := h
  exact ⟨h1, h2, h3, v, h4, h5, fun b e => by cases e⟩
theorem kx_set {w0 : World} {x0 b t : Nat} {v u : Value} {W : World} (h : Boxed W b t v) (ht : t = 24 ∨ t = 25) (hb : w0.heap.size ≤ b) : KX w0 x0 W (W.setCell ⟨b, 0, none⟩ u) := by
  refine ⟨fun k o _ hk h1 h2 h3 => (Below.heap_setCell _ _ _ _ (fun e => ?_)).trans hk, by simp [World.setCell], fun hw => RowKit.Below.setCell (p := ⟨b, 0, none⟩) hw hb u⟩
  have e2 : k = b := by first | exact e | exact e.symm
  have h4 : W.heap[b]? = _ := h
  rw [← e2, hk] at h4
  rcases ht with rfl | rfl
  · exact h2 _ _ (Option.some.inj h4)
  · exact h3 _ _ (Option.some.inj h4)
def tokBlk (t : Tok) : Obj := .cells #[textV t.text, .int .i64 t.pos, .int .i64 t.fr, .int .i64 t.en] 43 (0, 0)
/-- behind the append and the store -/
theorem thr_end {w0 w Z Wx w6 : World} {O x0 tb : Nat} {acc : List Tok} {t t' : Tok} {v v6 : Value} {cs : Array Value} (hw0 : w0.heap.size ≤ w.heap.size) (hWx : Wx = Z.alloc (.cells cs 43)) (hbw : BW w Z) (hO : w.heap.size + 2 ≤ O)
    (h1 : Boxed Z w.heap.size 24 (.slice none 0 0)) (h2 : Boxed Z (w.heap.size + 1) 25 (.int .i64 0)) (hsz : w.heap.size + 2 ≤ Z.heap.size)
    (hv : Boxed Z O 24 v) (hr : Z.ownsRow (w.heap.size + 2) 43 4 v acc.length (tokCells acc)) (hne : v.ownBlock ≠ some tb) (htb : Z.heap[tb]? = some (tokBlk t))
    (hown : w6.ownsRow (w.heap.size + 2) 43 4 v6 (acc.length + 1) (tokCells acc ++ tokV t')) (hg : Wx.grownBy w6 v.ownBlock) (hat : v6.ownBlock = v.ownBlock ∨ v6.ownBlock = some Wx.heap.size) :
    Boxed w6 O 24 v ∧ OutI w O (acc ++ [t']) (some tb) (w6.setCell ⟨O, 0, none⟩ v6) ∧ (w6.setCell ⟨O, 0, none⟩ v6).heap[tb]? = some (tokBlk t) ∧ KX w0 x0 Z (w6.setCell ⟨O, 0, none⟩ v6) ∧ KeepsOthers Z (w6.setCell ⟨O, 0, none⟩ v6) := by
  subst hWx
  obtain ⟨b1, b2, b3, b4, b5⟩ := hv.appended (n₀ := w.heap.size + 2) (by decide) hr hsz hO hown hg
  have hneO : w.heap.size ≠ O := by omega
  have hr1 : Boxed w6 w.heap.size 24 (.slice none 0 0) := (h1.alloc _).kept hg (h1.not_row (by decide) hr)
  have hr2 : Boxed w6 (w.heap.size + 1) 25 (.int .i64 0) := (h2.alloc _).kept hg (h2.not_row (by decide) hr)
  have htl := lt_of_heap htb
  have ht6 : w6.heap[tb]? = some (tokBlk t) := grown_keeps hg ((Below.heap_alloc _ _ _ (by omega)).trans htb) hne
  have htO : tb ≠ O := fun e => by
    have h4 : Z.heap[O]? = _ := hv
    rw [← e, htb] at h4
    injection h4 with h4; injection h4 with _ h5 _; exact absurd h5 (by decide)
  refine ⟨b1, ⟨RowKit.Below.trans hbw (b5.mono (by omega)), hr1.other hneO _, hr2.other (by omega) _, v6, b2, ?_, fun b e hb => ?_⟩, (Below.heap_setCell _ _ _ _ (fun e => htO (by first | exact e | exact e.symm))).trans ht6, ⟨fun k o hk0 hk a1 a2 a3 => ?_, b5.size, fun hw => RowKit.Below.trans hw (b5.mono (by omega))⟩, b4⟩
  · rw [List.length_append, tokCells_snoc]; exact b3
  · obtain rfl := Option.some.inj e
    rcases hat with h | h
    · rw [h] at hb; exact hne hb
    · rw [h, World.size_alloc] at hb
      have := Option.some.inj hb; omega
  · have hk1 : w6.heap[k]? = some o := grown_keeps hg ((Below.heap_alloc _ _ _ (by have := lt_of_heap hk; omega)).trans hk) (fun e => by
      obtain ⟨_, c, fz, h⟩ := row4_own hr k e
      rw [hk] at h; exact a1 c fz (Option.some.inj h))
    refine (Below.heap_setCell _ _ _ _ (fun e => ?_)).trans hk1
    have e2 : k = O := by first | exact e | exact e.symm
    have h4 : Z.heap[O]? = _ := hv
    rw [← e2, hk] at h4
    exact a2 _ _ (Option.some.inj h4)
/-- where a range over a token's words stands -/
structure ThrI (w : World) (O tb : Nat) (acc : List Tok) (t : Tok) (Ds : List Nat) (pre : List (List UInt8)) (Z : World) : Prop where
  out : OutI w O (acc ++ pre.map fun x => { t with text := x }) (some tb) Z
  cnt : acc.length + pre.length ≤ 4096
  tok : Z.heap[tb]? = some (tokBlk t)
  marks : Mk w.heap.size Ds Z
/-- where it stands when too many came -/
structure ThrX (w : World) (acc : List Tok) (Ds : List Nat) (c : Code) (pre : List (List UInt8)) (Z : World) : Prop where
  ret : c = .ret
  bw : BW w Z
  r1 : Boxed Z w.heap.size 24 (.slice none 0 0)
  r2 : Boxed Z (w.heap.size + 1) 25 (.int .i64 84)
  cnt : 4096 < acc.length + pre.length
  marks : Mk w.heap.size Ds Z
theorem thrI_own {w : World} {O tb B : Nat} {acc : List Tok} {t : Tok} {Ds : List Nat} (hB : w.heap.size ≤ B) (hD : ∀ D ∈ Ds, D < B) (htb : tb < B) : OwnFrom B (ThrI w O tb acc t Ds) := by
  rintro pre Z Z' row ⟨h1, h2, h3, h4⟩ hg hr
  refine ⟨h1.grown hg (fun r e => by obtain ⟨a, b⟩ := hr r e; exact ⟨by omega, b⟩), h2, grown_keeps hg h3 (fun e => by have := (hr _ e).1; omega), h4.1, fun D hd => ⟨(h4.2 D hd).1, grown_keeps hg (h4.2 D hd).2 (fun e => by have := (hr _ e).1; have := hD D hd; omega)⟩⟩
theorem thrX_own {w : World} {B : Nat} {acc : List Tok} {Ds : List Nat} (hB : w.heap.size ≤ B) (hD : ∀ D ∈ Ds, D < B) (c : Code) : OwnFrom B (ThrX w acc Ds c) := by
  rintro pre Z Z' row ⟨h0, h1, h2, h3, h4, h5⟩ hg hr
  refine ⟨h0, RowKit.Below.grown h1 hg h1.size (fun r e => by have := (hr r e).1; omega), boxed_own1 h2 hg (fun r e => (hr r e).2), boxed_own1 h3 hg (fun r e => (hr r e).2), h4, h5.1, fun D hd => ⟨(h5.2 D hd).1, grown_keeps hg (h5.2 D hd).2 (fun e => by have := (hr _ e).1; have := hD D hd; omega)⟩⟩
theorem mapT_append (g : List UInt8 → List (List UInt8)) (a b : List Tok) : mapT g (a ++ b) = mapT g a ++ mapT g b := by unfold mapT; rw [List.flatMap_append]
theorem through_many {g : List UInt8 → List (List UInt8)} {l : List Tok} {i : Nat} {t : Tok} {pre : List (List UInt8)} (ht : l.take (i + 1) = l.take i ++ [t]) (hp : pre <+: g t.text) (h : 4096 < (mapT g (l.take i)).length + pre.length) : throughL g l = ([], 84) := by
  unfold throughL
  rw [if_neg]
  have h1 : mapT g l = mapT g (l.take i) ++ ((g t.text).map fun x => { t with text := x }) ++ mapT g (l.drop (i + 1)) := by
    rw [← mapT_snoc, ← ht, ← mapT_append, List.take_append_drop]
  have h2 := hp.length_le
  rw [h1, List.length_append, List.length_append, List.length_map]; omega
/-- the results' variables, at the end -/
structure ThrE (w : World) (ao : Option Addr) (n c : Nat) (er : Int) (acc : List Tok) (W : World) : Prop where
  bw : BW w W
  r1 : Boxed W w.heap.size 24 (.slice ao n c)
  r2 : Boxed W (w.heap.size + 1) 25 (.int .i64 er)
  row : W.ownsRow w.heap.size 43 4 (.slice ao n c) acc.length (tokCells acc)
theorem thrE_put {w : World} {ao : Option Addr} {n c : Nat} {er : Int} {acc : List Tok} {W : World} {D : Nat} (hD : w.heap.size ≤ D) (h : ThrE w ao n c er acc W) (hk : W.heap[D]? = some (Obj.deferred (some []))) : ThrE w ao n c er acc (W.putObj D (.deferred none)) := by
  have hg := grownBy_putObj' W D (.deferred none)
  have hr : ∀ r, some D = some r → ∃ o : Obj, W.heap[r]? = some o ∧ o.isCells = false := fun r e => by cases e; exact ⟨_, hk, rfl⟩
  exact ⟨RowKit.Below.grown h.bw hg h.bw.size (fun r e => by cases e; exact hD), boxed_own1 h.r1 hg hr, boxed_own1 h.r2 hg hr, ownsRow_putObj h.row _ hk rfl⟩
set_option maxRecDepth 100000 in
set_option maxHeartbeats 4000000 in
theorem through_any {w0 wf : World} {ff : Nat} {lbf : Array Value} {g : List UInt8 → List (List UInt8)} (hf : FiltOk w0 wf ff lbf g) (ef : ∀ args w, (callFunc ff args).run Tryd.prog w = .ok (.enter ff args) w)
    {l : List Tok} (hlt : ∀ t ∈ l, (t.text.length : Int) ≤ 1000000000000) (hll : (l.length : Int) ≤ 1000000000000) {v : Value} (w : World) (hb0 : BW w0 w) (hbf : BW wf w) (hs : TokSrc w v l) :
    Calls Tryd.prog 28 #[.func (.func ff) #[] lbf, v] w (LinkPost w (throughL g l)) := by
  obtain ⟨ao, cap, rfl, hcells⟩ := hs
  obtain ⟨N, hNn⟩ : ∃ N, N = w.heap.size := ⟨_, rfl⟩
  obtain ⟨n, hn⟩ : ∃ n, n = l.length := ⟨_, rfl⟩
  rw [← hn] at hll ⊢
  obtain ⟨w1, hw1⟩ : ∃ w1, w1 = (w.alloc (.cells #[.slice none 0 0] 24)).alloc (.cells #[.int .i64 0] 25) := ⟨_, rfl⟩
  obtain ⟨i0, hi9, hz0, hz1, hz2⟩ := infoOf info_tok
  obtain ⟨m, hm⟩ : ∃ m, m = min n 4096 := ⟨_, rfl⟩
  obtain ⟨w2, hrun, hown, hgr⟩ := run_make_own (P := Tryd.prog) w1 w1.heap.size 24 43 i0 (.agg #[.string ⟨#[]⟩, .int .i64 0, .int .i64 0, .int .i64 0]) 4 Tryd.underlying24 hi9 hz0 hz1 .i64 .i64 m (by rw [hz2]; omega) (by unfold maxLen; omega) (Nat.le_refl _)
  have hmi : min (n : Int) 4096 = (m : Int) := by omega
  have HW1 := Lib.hid hw1
  have HN := Lib.hid hn; have HNN := Lib.hid hNn; have HM : Hid (m ≤ 4096) := by unfold Hid; omega
  rw [hw1] at hrun
  have HOWN := Lib.hid hown; have HGR := Lib.hid hgr; have HC := Lib.hid hcells; have HF := Lib.hid hf; have HLT := Lib.hid hlt; have HLL := Lib.hid hll; have HB0 := Lib.hid hb0; have HBF := Lib.hid hbf
  have HI9 := Lib.hid hi9; have HZ0 := Lib.hid hz0; have HZ1 := Lib.hid hz1; have HZ2 := Lib.hid hz2
  clear hn hm hown hgr hcells hf hlt hb0 hbf hi9 hz0 hz1 hz2 hw1 hNn
  refine (callsIn_wide (n := 5)).1 ?_
  refine callsIn_of_wp_marks Tryd.func28 rfl trivial ?_ rfl
  simp only [Tryd.ntmps28, List.size_toArray, List.length_cons, List.length_nil, Nat.reduceAdd, Nat.reduceSub, Array.replicate_succ, Array.replicate_zero, List.push_toArray, List.append_toArray, List.nil_append, List.cons_append]
  gi_wp2
  obtain ⟨O, hO⟩ : ∃ O, O = w2.heap.size := ⟨_, rfl⟩
  obtain ⟨W0, hW0⟩ : ∃ W0, W0 = w2.alloc (.cells #[.slice (some ⟨w.heap.size + 1 + 1, 0, none⟩) 0 m] 24) := ⟨_, rfl⟩
  rw [← hW0, ← hO]
  have HO : Hid (w.heap.size + 2 ≤ O ∧ OutI w O [] none W0) := by
    have hz : w1.heap.size = w.heap.size + 2 := by rw [HW1.out, World.size_alloc, World.size_alloc]
    have h12 : BW w w1 := by rw [HW1.out]; exact (bw_alloc w _).alloc _
    have h23 : BW w w2 := by have hg := HGR.out; exact RowKit.Below.grown h12 hg h12.size (fun r e => by cases e)
    have hr1 : Boxed w1 w.heap.size 24 (.slice none 0 0) := by rw [HW1.out]; exact (Boxed.new w _ _).alloc _
    have hr2 : Boxed w1 (w.heap.size + 1) 25 (.int .i64 0) := by
      rw [HW1.out]; have := Boxed.new (w.alloc (.cells #[.slice none 0 0] 24)) 25 (.int .i64 0)
      rw [World.size_alloc] at this; exact this
    have ho := HOWN.out
    rw [hz] at ho
    refine ⟨by rw [hO]; have := HGR.out.size; omega, by rw [hW0]; exact h23.alloc _, ?_, ?_, .slice (some ⟨w.heap.size + 1 + 1, 0, none⟩) 0 m, ?_, ?_, fun b e => by cases e⟩
    · rw [hW0]; exact (hr1.kept HGR.out (by simp)).alloc _
    · rw [hW0]; exact (hr2.kept HGR.out (by simp)).alloc _
    · rw [hW0, hO]; exact Boxed.new w2 _ _
    · rw [hW0]; exact ho.alloc _
  clear hO hW0 hrun hmi
  refine wpIn_loop (I := fun a W => ∃ (i : Nat) (Ds : List Nat) (u8 u9 u17 u18 u19 u20 u21 u22 u23 u24 u25 u26 u27 u28 u29 u30 u31 u32 u33 u34 u35 u36 u37 u38 u39 : Value), i ≤ n ∧ (mapT g (l.take i)).length ≤ 4096 ∧ OutI w O (mapT g (l.take i)) none W ∧ Mk w.heap.size Ds W ∧
      a = { tmps := #[.func (.func ff) #[] lbf, .slice ao n cap, undef, undef, .pointer (some ⟨w.heap.size, 0, none⟩), .pointer (some ⟨w.heap.size + 1, 0, none⟩), .pointer (some ⟨O, 0, none⟩), undef, u8, u9, .slice ao n cap, .int .i64 (n : Int), .int .i64 (m : Int), .slice (some ⟨w.heap.size + 1 + 1, 0, none⟩) 0 m, .slice ao n cap, .int .i64 (n : Int), .int .i64 (i : Int), u17, u18, u19, u20, u21, u22, u23, u24, u25, u26, u27, u28, u29, u30, u31, u32, u33, u34, u35, u36, u37, u38, u39, undef], defers := Ds.map mark })
    (fun a _ => n - (intOf (a.tmps.getD 16 undef)).toNat) ?_ ?_
  · exact ⟨0, [], _, _, _, _, _, _, _, _, _, _, _, _, _, _, _, _, _, _, _, _, _, _, _, _, _, Nat.zero_le _, Nat.zero_le _, HO.out.2, ⟨List.nodup_nil, fun D h => by cases h⟩, rfl⟩
  rintro a W ⟨i, Ds, u8, u9, u17, u18, u19, u20, u21, u22, u23, u24, u25, u26, u27, u28, u29, u30, u31, u32, u33, u34, u35, u36, u37, u38, u39, hi, hcnt, hout, hmk, rfl⟩
  have HI := Lib.hid hi; have HCNT := Lib.hid hcnt; have HOUT := Lib.hid hout; have HMK := Lib.hid hmk
  clear hcnt hout hmk
  by_cases hin : i < n
  · have hlti : (i : Int) < (n : Int) := by omega
    have hil : i < l.length := by rw [← HN.out]; exact hin
    obtain ⟨t, ht⟩ : ∃ t, t = l[i] := ⟨_, rfl⟩
    have hcs := fun k u (h : (tokV t)[k]? = some u) => HC.out (4 * i + k) u (tokCells_at l i hil k u (by rw [← ht]; exact h))
    obtain ⟨b, off, hao, d0⟩ := hcs 0 (textV t.text) rfl
    subst hao
    have dd : ∀ k u, (tokV t)[k]? = some u → w.cell? ⟨b, off + i * 4 + k, none⟩ = some u := fun k u h => by
      obtain ⟨b', off', e, d⟩ := hcs k u h
      injection e with e; injection e with e1 e2
      rw [show off + i * 4 + k = off' + (4 * i + k) by omega, e1]; exact d
    have dw : ∀ k u, (tokV t)[k]? = some u → W.cell? ⟨b, off + i * 4 + k, none⟩ = some u := fun k u h =>
      (HOUT.out.bw.cell (p := ⟨b, off + i * 4 + k, none⟩) (cell_lt (dd k u h))).trans (dd k u h)
    have c0 := dw 0 _ rfl
    have c1 := dw 1 _ rfl
    have c2 := dw 2 _ rfl
    have c3 := dw 3 _ rfl
    obtain ⟨tx, htx⟩ : ∃ tx, textV t.text = .string tx := ⟨_, rfl⟩
    rw [htx] at c0
    rw [Nat.add_zero] at c0
    have HT : Hid (l.take (i + 1) = l.take i ++ [t] ∧ t ∈ l) := ⟨by rw [List.take_succ_eq_append_getElem hil, ht], by rw [ht]; exact List.getElem_mem hil⟩
    have HTX := Lib.hid htx; have HIN := Lib.hid hin
    have hi0 : 0 ≤ (i : Int) := by omega
    clear hcs d0 dd dw ht htx hil hin hi
    gi_wp2
    obtain ⟨tb, htb⟩ : ∃ tb, tb = W.heap.size := ⟨_, rfl⟩
    obtain ⟨W1, hW1⟩ : ∃ W1, W1 = W.alloc (.cells #[.string tx, .int .i64 t.pos, .int .i64 t.fr, .int .i64 t.en] 43) := ⟨_, rfl⟩
    rw [← hW1, ← htb]
    have hb1 : BW W W1 := by rw [hW1]; exact bw_alloc W _
    have htk : W1.heap[tb]? = some (tokBlk t) := by unfold tokBlk; rw [hW1, htb, HTX.out]; exact heap_new W _
    have HFC := Lib.hid (HF.out W1 t.text (HBF.out.trans (HOUT.out.bw.trans hb1)) (HLT.out t HT.out.2))
    have HO1 : Hid (OutI w O (mapT g (l.take i)) (some tb) W1) := (HOUT.out.fresh (by omega)).on hb1
    have HTK := Lib.hid htk
    have HMK1 := Lib.hid (HMK.out.bw hb1)
    rw [HTX.out] at HFC
    clear hW1 htb hb1 htk c0 c1 c2 c3 HOUT HMK
    refine ⟨trivial, ?_⟩
    refine (callsIn_wide.2 HFC.out).mono ?_
    rintro e X2 ⟨gi, lbi, rfl, hq2, he, htl⟩
    have HQ2 := Lib.hid hq2; have HE := Lib.hid he; have HTL := Lib.hid htl
    have HTK2 : Hid (X2.heap[tb]? = some (tokBlk t)) := (hq2.block tb (lt_of_heap HTK.out)).trans HTK.out
    have HMK2 := Lib.hid (HMK1.out.bw hq2)
    have HO2 := Lib.hid (HO1.out.on hq2)
    clear hq2 he htl HTK HMK1 HO1
    have hnn := func_is_not_nil X2 Tryd.underlying63 ⟨_, _, _, rfl⟩ (.func gi) #[] lbi
    have HW0 : Hid (w0.heap.size ≤ w.heap.size) := HB0.out.size
    have HX2 : Hid (w.heap.size ≤ X2.heap.size) := HO2.out.bw.size
    gi_wp2
    refine range_k (enc := encW) (Kp := KX w0) (S := fun xs => xs = g t.text) (Sp := fun pre => pre <+: g t.text) (Tr := fun pre => pre.length ≤ (g t.text).length) (by decide) (gf := gi) (lb := lbi) rfl HE.out (fun _ => rfl)
      (HTL.out X2 (BW.refl X2)) (fun h k => h.trans k) (fun Z o o' h _ _ => KX.books (by have := HW0.out; have := HX2.out; omega) Z o o' h)
      (ThrI w O tb (mapT g (l.take i)) t Ds) (ThrX w (mapT g (l.take i)) Ds) (thrI_own HX2.out (fun D hd => lt_of_heap (HMK2.out.2 D hd).2) (lt_of_heap HTK2.out)) (thrX_own HX2.out (fun D hd => lt_of_heap (HMK2.out.2 D hd).2)) ?start (fun x => #[.func (.func ff) #[] lbf, .slice (some ⟨b, off, none⟩) n cap, undef, undef, .pointer (some ⟨w.heap.size, 0, none⟩), .pointer (some ⟨w.heap.size + 1, 0, none⟩), .pointer (some ⟨O, 0, none⟩), undef, .pointer (some ⟨tb, 0, none⟩), textV x, .slice (some ⟨b, off, none⟩) n cap, .int .i64 (n : Int), .int .i64 (m : Int), .slice (some ⟨w.heap.size + 1 + 1, 0, none⟩) 0 m, .slice (some ⟨b, off, none⟩) n cap, .int .i64 (n : Int), .int .i64 (i : Int), .bool true, .pointer (some ⟨b, off + i * 4, none⟩), .agg #[.string tx, .int .i64 t.pos, .int .i64 t.fr, .int .i64 t.en], .func (.func ff) #[] lbf, .pointer (some ⟨tb, 0, none⟩), .string tx, .func (.func gi) #[] lbi, textV x, u25, u26, u27, u28, u29, u30, u31, u32, u33, u34, u35, u36, u37, u38, u39, undef]) ?assign ?body ?done ?stop
    case start => exact ⟨by simpa using HO2.out, by simpa using HCNT.out, HTK2.out, HMK2.out⟩
    case assign =>
      intro l' x Z K hK
      gi_wp2
      simpa [encW] using hK
    case body =>
      rintro pre x Z hsz ⟨hout, hlen, htk, hmk⟩ htr
      obtain ⟨hbw, hr1, hr2, v, hv, hrow, hne⟩ := hout
      obtain ⟨ao2, cp2, rfl⟩ := row4_form hrow
      obtain ⟨acc, hacc⟩ : ∃ acc, acc = mapT g (l.take i) ++ pre.map fun x => { t with text := x } := ⟨_, rfl⟩
      have HACC : Hid (mapT g (l.take i) ++ (pre ++ [x]).map (fun x => { t with text := x }) = acc ++ [{ t with text := x }]) := by unfold Hid; rw [hacc, List.map_append, List.append_assoc]; rfl
      have HLEN : Hid (acc.length = (mapT g (l.take i)).length + pre.length) := by unfold Hid; rw [hacc, List.length_append, List.length_map]
      rw [← hacc] at hrow hv hne
      obtain ⟨k, hk⟩ : ∃ k, k = acc.length := ⟨_, rfl⟩
      have hk96 : k ≤ 4096 := by have := HLEN.out; omega
      obtain ⟨px, hpx⟩ : ∃ px, textV x = .string px := ⟨_, rfl⟩
      have HPX := Lib.hid hpx
      have hco := hv.cell
      rw [← hk] at hco
      rw [hpx]
      have HV := Lib.hid hv; have HROW := Lib.hid hrow; have HNE := Lib.hid (hne tb rfl); have HBW := Lib.hid hbw; have HR1 := Lib.hid hr1; have HR2 := Lib.hid hr2; have HTOK := Lib.hid htk; have HMKZ := Lib.hid hmk
      have HSZ : Hid (w.heap.size + 2 ≤ Z.heap.size) := by unfold Hid; have h1 := hr2.lt; omega
      have HKK := Lib.hid hk
      by_cases hk4 : k = 4096
      · have t1 : ((k : Int) == 4096) = true := by rw [hk4]; rfl
        have f1 := hr1.frozen; have f2 := hr2.frozen; have d1 := hr1.cell; have d2 := hr2.cell
        have HX : Hid (4096 < (mapT g (l.take i)).length + (pre ++ [x]).length) := by
          unfold Hid; rw [List.length_append]; simp only [List.length_cons, List.length_nil]; have := HLEN.out; omega
        obtain ⟨Z1, hZ1⟩ : ∃ Z1, Z1 = Z.setCell ⟨w.heap.size, 0, none⟩ (.slice none 0 0) := ⟨_, rfl⟩
        have HZ1 := Lib.hid hZ1
        have hq1 : Boxed Z1 w.heap.size 24 (.slice none 0 0) := by rw [hZ1]; exact hr1.set _
        have hq2 : Boxed Z1 (w.heap.size + 1) 25 (.int .i64 0) := by rw [hZ1]; exact hr2.other (by omega) _
        have f3 := hq2.frozen
        rw [hZ1] at f3
        have HQ1 := Lib.hid hq1; have HQ2' := Lib.hid hq2
        clear hv hrow hne hbw hr1 hr2 htk hmk hlen hacc hk hk4 hk96 htr hsz hq1 hq2 hZ1 hpx
        gi_wp2
        rw [← HZ1.out]
        have hkx1 : KX w0 (X2.heap.size + 1) Z Z1 := by rw [HZ1.out]; exact kx_set HR1.out (.inl rfl) HW0.out
        have hkx2 : KX w0 (X2.heap.size + 1) Z1 (Z1.setCell ⟨w.heap.size + 1, 0, none⟩ (.int .i64 84)) := kx_set HQ2'.out (.inr rfl) (by have := HW0.out; omega)
        have hko : KeepsOthers Z (Z1.setCell ⟨w.heap.size + 1, 0, none⟩ (.int .i64 84)) := by rw [HZ1.out]; exact (KeepsOthers.setCell _ _ _).trans (KeepsOthers.setCell _ _ _)
        refine ⟨hko.from _, hkx1.trans hkx2, rfl, ?_, HQ1.out.other (by omega) _, HQ2'.out.set _, HX.out, HMKZ.out.others hko⟩
        rw [HZ1.out]
        exact RowKit.Below.setCell (p := ⟨w.heap.size + 1, 0, none⟩) (RowKit.Below.setCell (p := ⟨w.heap.size, 0, none⟩) HBW.out (Nat.le_refl _) _) (by show w.heap.size ≤ w.heap.size + 1; omega) _
      · have t1 : ((k : Int) == 4096) = false := by simp; omega
        have e1 := cell_of htk (i := 1) rfl
        have e2 := cell_of htk (i := 2) rfl
        have e3 := cell_of htk (i := 3) rfl
        obtain ⟨Wx, hWx⟩ : ∃ Wx, Wx = Z.alloc (.cells #[.string px, .int .i64 t.pos, .int .i64 t.fr, .int .i64 t.en] 43) := ⟨_, rfl⟩
        have HX2' : Hid (Wx.ownsRow (w.heap.size + 2) 43 4 (.slice ao2 k cp2) k (tokCells acc)) := by unfold Hid; rw [hWx, hk]; exact hrow.alloc _
        have HX4 : Hid (∀ j u, [Value.string px, .int .i64 t.pos, .int .i64 t.fr, .int .i64 t.en][j]? = some u → Wx.cell? ((⟨Z.heap.size, 0, none⟩ : Addr).add j) = some u) := by
          unfold Hid; rw [hWx]; exact World.news_of_block (heap_new Z _)
        have HX5 : Hid (k + 1 ≤ maxLen) := by unfold Hid maxLen; omega
        have HRB : Hid ((k + 1) * 40 ≤ 140737488355328) := by unfold Hid; omega
        have HX6 : Hid (w.heap.size + 2 ≤ Wx.heap.size) := by unfold Hid; rw [hWx, World.size_alloc]; have := HSZ.out; omega
        have HTV' : Hid (tokV { t with text := x } = [.string px, .int .i64 t.pos, .int .i64 t.fr, .int .i64 t.en]) := by unfold Hid tokV; rw [hpx]
        have HCN : Hid ((mapT g (l.take i)).length + (pre ++ [x]).length ≤ 4096) := by
          unfold Hid; rw [List.length_append]; simp only [List.length_cons, List.length_nil]; have := HLEN.out; omega
        have HWX := Lib.hid hWx
        clear hv hrow hne hbw hr1 hr2 htk hmk hlen hacc hk hk4 hk96 htr hsz hWx hpx
        gi_wp2_with (gi_at_builtin; rw [← HWX.out]; refine wpListIn_append_own_at _ rfl _ _ 24 rfl (w.heap.size + 2) 43 i0 (.agg #[.string ⟨#[]⟩, .int .i64 0, .int .i64 0, .int .i64 0]) 4 40 Tryd.underlying24 HI9.out HZ0.out HZ1.out HZ2.out rfl (by decide) (.slice ao2 k cp2) k (tokCells acc) rfl HX2'.out ⟨Z.heap.size, 0, none⟩ 1 1 [.string px, .int .i64 t.pos, .int .i64 t.fr, .int .i64 t.en] rfl rfl HX4.out (by simp [Value.oneCell']) HX5.out HRB.out HX6.out ?_; intro v6 w6 ho6 hg6 _ hat6; have HO6 := Lib.hid ho6; have HG6 := Lib.hid hg6; have HAT6 := Lib.hid hat6; have hk3 := (show Boxed w6 O 24 (.slice ao2 k cp2) from by rw [HWX.out] at hg6; rw [HKK.out]; exact (HV.out.alloc _).kept hg6 (by rw [HKK.out]; exact HV.out.not_row (by decide) HROW.out)); have c63 := hk3.cell; have f63 := hk3.frozen; obtain ⟨o6, c6, rfl⟩ := row4_form ho6; clear ho6 hg6 hat6 hk3)
        have hg7 := HG6.out
        have hown7 := HO6.out
        rw [HKK.out] at hown7 hg7
        rw [← HTV'.out] at hown7
        obtain ⟨_, a1, a2, a3, a4⟩ := thr_end (w0 := w0) (x0 := X2.heap.size + 1) HW0.out HWX.out HBW.out HO.out.1 HR1.out HR2.out HSZ.out HV.out HROW.out HNE.out HTOK.out hown7 hg7 (by have := HAT6.out; rw [HKK.out] at this; exact this)
        rw [← HKK.out] at a1 a2 a3 a4
        exact ⟨a4.from _, a3, by rw [HACC.out]; exact a1, HCN.out, a2, HMKZ.out.others a4⟩
    case done =>
      rintro D xs Z hD hxs ⟨hout, hcnt, htk, hmk⟩ hK
      rw [hxs, ← mapT_snoc, ← HT.out.1] at hout
      have HCN : Hid ((mapT g (l.take (i + 1))).length ≤ 4096) := by
        unfold Hid; rw [HT.out.1, mapT_snoc, List.length_append, List.length_map, ← hxs]; exact hcnt
      have HMK' : Hid (Mk w.heap.size (D :: Ds) Z) := by
        refine ⟨List.nodup_cons.2 ⟨fun h => ?_, hmk.1⟩, fun E hE => ?_⟩
        · have := lt_of_heap (HMK2.out.2 D h).2; omega
        · rcases List.mem_cons.1 hE with rfl | hE
          · exact ⟨Nat.le_trans HX2.out hD, hK⟩
          · exact hmk.2 E hE
      have HOUT' := Lib.hid hout.drop
      clear hout hcnt htk hmk hK hD hxs
      gi_wp2
      refine ⟨⟨i + 1, D :: Ds, _, _, _, _, _, _, _, _, _, _, _, _, _, _, _, _, _, _, _, _, _, _, _, _, _, HIN.out, HCN.out, HOUT'.out, HMK'.out, rfl⟩, ?_⟩
      simp [intOf]; have := HIN.out; omega
    case stop =>
      rintro D c pre Z hD hSp ⟨hc, hbw, hr1, hr2, hcnt, hmk⟩ hK
      subst hc
      have HTH := Lib.hid (through_many HT.out.1 hSp hcnt)
      have HMK' : Hid (Mk w.heap.size (D :: Ds) Z) := by
        refine ⟨List.nodup_cons.2 ⟨fun h => ?_, hmk.1⟩, fun E hE => ?_⟩
        · have := lt_of_heap (HMK2.out.2 D h).2; omega
        · rcases List.mem_cons.1 hE with rfl | hE
          · exact ⟨Nat.le_trans HX2.out hD, hK⟩
          · exact hmk.2 E hE
      have HE' : Hid (ThrE w none 0 0 84 [] Z) := ⟨hbw, hr1, hr2, World.ownsRow_nil _ _ _ _⟩
      clear hbw hr1 hr2 hcnt hmk hK hD hSp
      gi_wp2
      refine leave_marks (Fin := ThrE w none 0 0 84 []) (B := w.heap.size) (fun W D hD h hk => thrE_put hD h hk) (fun W h => ?_) (D :: Ds) Z HMK'.out HE'.out
      have k1 := h.r1.cell; have k2 := h.r2.cell
      refine ⟨.tuple #[.slice none 0 0, .int .i64 84], by simp [results, Tryd.results28, go_sem, k1, k2], ?_⟩
      rw [HTH.out]
      exact ⟨_, rfl, h.row, h.bw⟩
  · have hin2 : i = n := by have := HI.out; omega
    have hlti : (n : Int) ≤ (i : Int) := by omega
    have htk : l.take i = l := List.take_of_length_le (by rw [← HN.out]; omega)
    have HTH : Hid (throughL g l = (mapT g (l.take i), 0)) := by unfold Hid throughL; rw [htk] at HCNT ⊢; rw [if_pos HCNT.out]
    obtain ⟨hbw, hr1, hr2, v, hv, hrow, _⟩ := HOUT.out
    obtain ⟨ao2, cp2, rfl⟩ := row4_form hrow
    obtain ⟨k, hk⟩ : ∃ k, k = (mapT g (l.take i)).length := ⟨_, rfl⟩
    have hco := hv.cell
    rw [← hk] at hco
    have f1 := hr1.frozen; have f2 := hr2.frozen; have d1 := hr1.cell; have d2 := hr2.cell
    obtain ⟨Z1, hZ1⟩ : ∃ Z1, Z1 = W.setCell ⟨w.heap.size, 0, none⟩ (.slice ao2 k cp2) := ⟨_, rfl⟩
    have hq2 : Boxed Z1 (w.heap.size + 1) 25 (.int .i64 0) := by rw [hZ1]; exact hr2.other (by omega) _
    have f3 := hq2.frozen
    rw [hZ1] at f3
    have HE' : Hid (ThrE w ao2 k cp2 0 (mapT g (l.take i)) (Z1.setCell ⟨w.heap.size + 1, 0, none⟩ (.int .i64 0))) := by
      have hr3 := row_base hrow (base' := w.heap.size) (by omega)
      rw [← hk] at hr3
      have g1 := hr3.kept (grownBy_setCell' W w.heap.size (.slice ao2 k cp2)) (.inr (fun e => hr1.not_row (by decide) hr3 e.symm))
      rw [← hZ1] at g1
      refine ⟨?_, (by rw [hZ1]; exact (hr1.set _).other (by omega) _), hq2.set _, ?_⟩
      · rw [hZ1]
        exact RowKit.Below.setCell (p := ⟨w.heap.size + 1, 0, none⟩) (RowKit.Below.setCell (p := ⟨w.heap.size, 0, none⟩) hbw (Nat.le_refl _) _) (by show w.heap.size ≤ w.heap.size + 1; omega) _
      · rw [← hk]
        exact g1.kept (grownBy_setCell' Z1 _ _) (.inr (fun e => hq2.not_row (by decide) g1 e.symm))
    have HMK' : Hid (Mk w.heap.size Ds (Z1.setCell ⟨w.heap.size + 1, 0, none⟩ (.int .i64 0))) := by
      unfold Hid; rw [hZ1]; exact HMK.out.others ((KeepsOthers.setCell _ _ _).trans (KeepsOthers.setCell _ _ _))
    have HZ1' := Lib.hid hZ1
    clear hbw hr1 hr2 hv hrow hq2 hZ1 htk hk hin hi
    gi_wp2
    refine leave_marks (Fin := ThrE w ao2 k cp2 0 (mapT g (l.take i))) (B := w.heap.size) (fun W D hD h hk => thrE_put hD h hk) (fun W h => ?_) Ds _ ?_ ?_
    · have k1 := h.r1.cell; have k2 := h.r2.cell
      refine ⟨.tuple #[.slice ao2 k cp2, .int .i64 0], by simp [results, Tryd.results28, go_sem, k1, k2], ?_⟩
      rw [HTH.out]
      exact ⟨_, rfl, h.row, h.bw⟩
    · have := HMK'.out; rw [HZ1'.out] at this; first | exact this | simpa using this
    · have := HE'.out; rw [HZ1'.out] at this; first | exact this | simpa using this
end Go.Proofs.YtljjaepadnmmeaaDoor
