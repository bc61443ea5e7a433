/- Stage 6, the laws: AncE to AncI in one text (a claim holds sixty files): answers are memory of their own. Made of those by joining. -/
import Derived.Test.YtljjaepadnmmeaaDoorAncC
import Derived.Maps.AppendAt
import Derived.Laws.AppendOwnNone
namespace Go.Proofs.YtljjaepadnmmeaaDoor
section
open Go.RowKit Go.Maps Fld Ana Go.Shelf
attribute [local go_sem] Oper.semAt_some

theorem run_one {i : Int} (hi : i = 1 ∨ i = 2) {s : List UInt8} (hs : s.length ≤ 4096) : runL [i] s = (toks i.toNat s, 0) := by
  have hk : checkL [i] = 0 := by rcases hi with rfl | rfl <;> decide
  rw [run_ok hk s, if_neg (by omega), if_neg (by have := toks_few i.toNat s; omega)]
  rfl
/-- a row that may be appended: where it has no block it has no room -/
def RowSrc (w : World) (v : Value) (l : List Tok) : Prop := TokSrc w v l ∧ ∀ cap, v = .slice none l.length cap → cap = 0
theorem RowSrc.bw {w W : World} {v : Value} {l : List Tok} (h : RowSrc w v l) (hb : BW w W) : RowSrc W v l := ⟨h.1.bw hb, h.2⟩
theorem rowSrc_of {w : World} {base : Nat} {v : Value} {l : List Tok} (h : w.ownsRow base 43 4 v l.length (tokCells l)) : RowSrc w v l := by
  refine ⟨tokSrc_of_row h, fun cap e => ?_⟩
  obtain ⟨_, h2 | ⟨g', cap', cur', hv', _⟩⟩ := h
  · rw [h2.1] at e; injection e with _ _ e; exact e.symm
  · rw [hv'] at e; cases e
theorem tok_cell1 (l : List Tok) : ∀ u ∈ tokCells l, u.oneCell' = true := by
  intro u hu
  unfold tokCells at hu
  obtain ⟨t, _, hu⟩ := List.mem_flatMap.1 hu
  simp only [tokV, List.mem_cons, List.not_mem_nil, or_false, textV] at hu
  rcases hu with rfl | rfl | rfl | rfl <;> rfl
set_option maxRecDepth 100000 in
/-- append of a row to the nil slice -/
theorem append_first {w : World} {ops : Array Oper} {rest : List Oper} {o : Oper} {a : Act} {Q : Exit → Act → World → Prop} (hgd : o.guard = none) (s x : Operand)
    (ho : o.op = .call { callee := .builtin .append, args := #[s, x], argTypes := #[24, 24] }) (hs : a.eval s = .slice none 0 0) {l : List Tok} {v : Value} (hx : a.eval x = v) (hsrc : RowSrc w v l) (h4 : l.length ≤ 4096)
    (h : ∀ v' w', w'.ownsRow w.heap.size 43 4 v' l.length (tokCells l) → BW w w' → wpList Tryd.prog ops Q rest (a.put o.dst v') w') : wpList Tryd.prog ops Q (o :: rest) a w := by
  obtain ⟨i0, hi9, hz0, hz1, hz2⟩ := infoOf info_tok
  obtain ⟨⟨ao, cap, rfl, hc⟩, hcap⟩ := hsrc
  cases ao with
  | none =>
    have hc0 := hcap cap rfl
    subst hc0
    have hl : l = [] := by
      cases l with
      | nil => rfl
      | cons t r => obtain ⟨b, off, e, _⟩ := hc 0 (textV t.text) (by simp [tokCells, tokV]); cases e
    subst hl
    refine wpList_append_own_none hgd s x 24 ho w.heap.size 43 i0 4 Tryd.underlying24 hi9 _ 0 [] hs (World.ownsRow_nil _ _ _ _) hx ?_
    exact h _ w (World.ownsRow_nil _ _ _ _) (BW.refl w)
  | some ad =>
    refine wpList_append_own_at w hgd s x 24 ho w.heap.size 43 i0 (.agg #[.string ⟨#[]⟩, .int .i64 0, .int .i64 0, .int .i64 0]) 4 40 Tryd.underlying24 hi9 hz0 hz1 hz2 rfl (by decide) _ 0 [] hs (World.ownsRow_nil _ _ _ _) ad l.length cap (tokCells l) hx (tokCells_len l) (fun j u hu => ?_) (tok_cell1 l) (by unfold maxLen; omega) (by omega) (Nat.le_refl _) ?_
    · obtain ⟨b, off, e, hcell⟩ := hc j u hu
      injection e with e
      rw [e, show (⟨b, off, none⟩ : Addr).add j = ⟨b, off + j, none⟩ by unfold Addr.add; by_cases e : j = 0 <;> simp [e]]
      exact hcell
    · intro v' w' ho' hg' _ _
      rw [Nat.zero_add, List.nil_append] at ho'
      exact h v' w' ho' (bw_grown (BW.refl w) hg' (fun k e => by cases e))
theorem run_src {w : World} (arr : Array Value) (c : List Int) (n : Nat) (h : arr.toList = c.map fun x => .int .i64 x) (hn : n = c.length) (hb : (n : Int) ≤ 1000) (s : List UInt8) (hN : NextOk w) {l : List Tok} (hr : runL c s = (l, 0)) (W : World) (hW : BW w W) :
    Calls Tryd.prog 10 #[.slice (some ⟨W.heap.size, 0, none⟩) n n, textV s] (W.alloc (.cells arr 3)) fun e w' => ∃ ao cap, e = .returned (.tuple #[.slice ao l.length cap, .int .i64 0]) ∧ RowSrc w' (.slice ao l.length cap) l ∧ BW W w' := by
  refine (run_new W arr c n h hn hb s (hN.bw hW) hr).mono ?_
  rintro e w' ⟨ao, cap, rfl, hrow, hq⟩
  exact ⟨ao, cap, rfl, rowSrc_of hrow, hq⟩
end
end Go.Proofs.YtljjaepadnmmeaaDoor
namespace Go.Proofs.YtljjaepadnmmeaaDoor
section
open Go.RowKit Go.Maps Fld Ana Go.Shelf
attribute [local go_sem] Oper.semAt_some

/-- the slice of no elements that a literal makes -/
theorem row_empty (w : World) : (w.alloc (.cells #[] 43)).ownsRow w.heap.size 43 4 (.slice (some ⟨w.heap.size, 0, none⟩) 0 0) 0 (tokCells []) :=
  ⟨rfl, .inr ⟨w.heap.size, 0, #[], rfl, Nat.le_refl _, heap_new w _, Nat.le_refl _, by unfold maxLen; omega, rfl, rfl⟩⟩
set_option maxRecDepth 100000 in
/-- append of a row of tokens to an owned one -/
theorem append_row {w : World} {ops : Array Oper} {rest : List Oper} {o : Oper} {a : Act} {Q : Exit → Act → World → Prop} (hgd : o.guard = none) (s x : Operand)
    (ho : o.op = .call { callee := .builtin .append, args := #[s, x], argTypes := #[24, 24] }) {B n : Nat} {v0 : Value} {l0 : List Tok} (hs : a.eval s = v0) (hown : w.ownsRow B 43 4 v0 n (tokCells l0)) (hB : B ≤ w.heap.size) {l : List Tok} {v : Value} (hx : a.eval x = v) (hsrc : RowSrc w v l) (h4 : n + l.length ≤ 100000)
    (h : ∀ v' w', w'.ownsRow B 43 4 v' (n + l.length) (tokCells (l0 ++ l)) → w.grownBy w' v0.ownBlock → (v'.ownBlock = v0.ownBlock ∨ v'.ownBlock = some w.heap.size) → wpList Tryd.prog ops Q rest (a.put o.dst v') w') : wpList Tryd.prog ops Q (o :: rest) a w := by
  obtain ⟨i0, hi9, hz0, hz1, hz2⟩ := infoOf info_tok
  obtain ⟨⟨ao, cap, rfl, hc⟩, hcap⟩ := hsrc
  have hcat : tokCells (l0 ++ l) = tokCells l0 ++ tokCells l := by unfold tokCells; rw [List.flatMap_append]
  cases ao with
  | none =>
    have hc0 := hcap cap rfl
    subst hc0
    have hl : l = [] := by
      cases l with
      | nil => rfl
      | cons t r => obtain ⟨b, off, e, _⟩ := hc 0 (textV t.text) (by simp [tokCells, tokV]); cases e
    subst hl
    refine wpList_append_own_none hgd s x 24 ho B 43 i0 4 Tryd.underlying24 hi9 _ n _ hs hown hx ?_
    exact h _ w (by rw [List.append_nil]; exact hown) (World.grownBy.refl _ _) (.inl rfl)
  | some ad =>
    refine wpList_append_own_at w hgd s x 24 ho B 43 i0 (.agg #[.string ⟨#[]⟩, .int .i64 0, .int .i64 0, .int .i64 0]) 4 40 Tryd.underlying24 hi9 hz0 hz1 hz2 rfl (by decide) _ n _ hs hown ad l.length cap (tokCells l) hx (tokCells_len l) (fun j u hu => ?_) (tok_cell1 l) (by unfold maxLen; omega) (by omega) hB ?_
    · obtain ⟨b, off, e, hcell⟩ := hc j u hu
      injection e with e
      rw [e, show (⟨b, off, none⟩ : Addr).add j = ⟨b, off + j, none⟩ by unfold Addr.add; by_cases e : j = 0 <;> simp [e]]
      exact hcell
    · intro v' w' ho' hg' _ hat'
      rw [← hcat] at ho'
      exact h v' w' ho' hg' hat'
theorem cells_set (t : Tok) : ∀ (l : List Tok) (i : Nat), i < l.length → ((((tokCells l).set (i * 4) (textV t.text)).set (i * 4 + 1) (.int .i64 t.pos)).set (i * 4 + 2) (.int .i64 t.fr)).set (i * 4 + 3) (.int .i64 t.en) = tokCells (l.set i t)
  | [], i, h => by cases h
  | x :: r, 0, _ => by simp [tokCells, tokV]
  | x :: r, i + 1, h => by
    have ih := cells_set t r i (by simpa using h)
    have e : ∀ l : List Tok, tokCells (x :: l) = textV x.text :: Value.int .i64 x.pos :: Value.int .i64 x.fr :: Value.int .i64 x.en :: tokCells l := fun l => by simp [tokCells, tokV]
    rw [List.set_cons_succ, e, e, ← ih]
    rw [show (i + 1) * 4 = i * 4 + 1 + 1 + 1 + 1 by omega, show i * 4 + 1 + 1 + 1 + 1 + 1 = (i * 4 + 1) + 1 + 1 + 1 + 1 by omega, show i * 4 + 1 + 1 + 1 + 1 + 2 = (i * 4 + 2) + 1 + 1 + 1 + 1 by omega, show i * 4 + 1 + 1 + 1 + 1 + 3 = (i * 4 + 3) + 1 + 1 + 1 + 1 by omega]
    simp only [List.set_cons_succ]
/-- a token stored over one of an owned row: each of the four cells may be written, and the row behind it -/
theorem row_store {w : World} {B g n cap : Nat} {l : List Tok} (h : w.ownsRow B 43 4 (.slice (some ⟨g, 0, none⟩) n cap) n (tokCells l)) (hl : n = l.length) {i : Nat} (hi : i < n) (t : Tok) :
    (∃ v, w.cell? ⟨g, i * 4, none⟩ = some v) ∧ w.frozen? ⟨g, i * 4, none⟩ = false ∧
    (∃ v, (w.setCell ⟨g, i * 4, none⟩ (textV t.text)).cell? ⟨g, i * 4 + 1, none⟩ = some v) ∧ (w.setCell ⟨g, i * 4, none⟩ (textV t.text)).frozen? ⟨g, i * 4 + 1, none⟩ = false ∧
    (∃ v, ((w.setCell ⟨g, i * 4, none⟩ (textV t.text)).setCell ⟨g, i * 4 + 1, none⟩ (.int .i64 t.pos)).cell? ⟨g, i * 4 + 2, none⟩ = some v) ∧ ((w.setCell ⟨g, i * 4, none⟩ (textV t.text)).setCell ⟨g, i * 4 + 1, none⟩ (.int .i64 t.pos)).frozen? ⟨g, i * 4 + 2, none⟩ = false ∧
    (∃ v, (((w.setCell ⟨g, i * 4, none⟩ (textV t.text)).setCell ⟨g, i * 4 + 1, none⟩ (.int .i64 t.pos)).setCell ⟨g, i * 4 + 2, none⟩ (.int .i64 t.fr)).cell? ⟨g, i * 4 + 3, none⟩ = some v) ∧ (((w.setCell ⟨g, i * 4, none⟩ (textV t.text)).setCell ⟨g, i * 4 + 1, none⟩ (.int .i64 t.pos)).setCell ⟨g, i * 4 + 2, none⟩ (.int .i64 t.fr)).frozen? ⟨g, i * 4 + 3, none⟩ = false ∧
    ((((w.setCell ⟨g, i * 4, none⟩ (textV t.text)).setCell ⟨g, i * 4 + 1, none⟩ (.int .i64 t.pos)).setCell ⟨g, i * 4 + 2, none⟩ (.int .i64 t.fr)).setCell ⟨g, i * 4 + 3, none⟩ (.int .i64 t.en)).ownsRow B 43 4 (.slice (some ⟨g, 0, none⟩) n cap) n (tokCells (l.set i t)) := by
  obtain ⟨_, ⟨e, _⟩ | ⟨g', cap', cur, e, hb, hh, hn, hm, hcs, htk⟩⟩ := h
  · cases e
  · injection e with e1 e2 e3
    injection e1 with e1; injection e1 with e1
    subst e1; subst e3
    have hlen : i * 4 + 3 < cur.size := by omega
    have k1 := heap_set (i := i * 4) hh (textV t.text)
    have k2 := heap_set (i := i * 4 + 1) k1 (.int .i64 t.pos)
    have k3 := heap_set (i := i * 4 + 2) k2 (.int .i64 t.fr)
    have k4 := heap_set (i := i * 4 + 3) k3 (.int .i64 t.en)
    have one : ∀ (W : World) (c : Array Value) (k : Nat), W.heap[g]? = some (.cells c 43 (0, 0)) → k < c.size → ∃ v, W.cell? ⟨g, k, none⟩ = some v := fun W c k hc hk => ⟨c[k], cell_of hc (Array.getElem?_eq_getElem hk)⟩
    refine ⟨one _ _ _ hh (by omega), unfrozen_of hh, one _ _ _ k1 (by simp; omega), unfrozen_of k1, one _ _ _ k2 (by simp; omega), unfrozen_of k2, one _ _ _ k3 (by simp; omega), unfrozen_of k3, ?_, .inr ⟨g, cap, _, rfl, hb, k4, hn, hm, by simpa using hcs, ?_⟩⟩
    · rw [tokCells_len, List.length_set, hl]
    · simp only [Array.toList_setIfInBounds, List.take_set, htk]
      exact cells_set t l i (by omega)
end
end Go.Proofs.YtljjaepadnmmeaaDoor
namespace Go.Proofs.YtljjaepadnmmeaaDoor
section
open Go.RowKit Go.Maps Fld Ana Go.Shelf

theorem row_still {w w' : World} {B e s n : Nat} {v : Value} {xs : List Value} (h : w.ownsRow B e s v n xs) (hk : ∀ k o, v.ownBlock = some k → w.heap[k]? = some o → w'.heap[k]? = some o) : w'.ownsRow B e s v n xs := by
  obtain ⟨h1, h2 | ⟨g, cap, cur, rfl, hb, hh, r⟩⟩ := h
  · exact ⟨h1, .inl h2⟩
  · exact ⟨h1, .inr ⟨g, cap, cur, rfl, hb, hk g _ rfl hh, r⟩⟩
theorem row_lt4 {w : World} {B e s n : Nat} {v : Value} {xs : List Value} (h : w.ownsRow B e s v n xs) {k : Nat} (hk : v.ownBlock = some k) : k < w.heap.size := by
  obtain ⟨_, c, fz, hh⟩ := row4_own h k hk
  exact lt_of_heap hh
def Apart (a b : Value) : Prop := ∀ k, a.ownBlock = some k → b.ownBlock ≠ some k
theorem Apart.symm {a b : Value} (h : Apart a b) : Apart b a := fun k h1 h2 => h k h2 h1
/-- three rows of tokens, each in a block of its own above B; what lay below B as it was -/
structure OwnI (w0 : World) (va vb vc : Value) (la lb lc : List Tok) (W : World) : Prop where
  a : W.ownsRow w0.heap.size 43 4 va la.length (tokCells la)
  b : W.ownsRow w0.heap.size 43 4 vb lb.length (tokCells lb)
  c : W.ownsRow w0.heap.size 43 4 vc lc.length (tokCells lc)
  ab : Apart va vb
  ac : Apart va vc
  bc : Apart vb vc
  bw : BW w0 W
variable {w0 W W' : World} {va vb vc v' : Value} {la lb lc l : List Tok}
theorem OwnI.turn (h : OwnI w0 va vb vc la lb lc W) : OwnI w0 vb va vc lb la lc W := ⟨h.b, h.a, h.c, h.ab.symm, h.bc, h.ac, h.bw⟩
theorem OwnI.alloc (h : OwnI w0 va vb vc la lb lc W) (o : Obj) : OwnI w0 va vb vc la lb lc (W.alloc o) := ⟨h.a.alloc o, h.b.alloc o, h.c.alloc o, h.ab, h.ac, h.bc, h.bw.alloc o⟩
/-- the first row behind an append -/
theorem OwnI.grow (h : OwnI w0 va vb vc la lb lc W) (ho : W'.ownsRow w0.heap.size 43 4 v' (la.length + l.length) (tokCells (la ++ l))) (hg : W.grownBy W' va.ownBlock) (hat : v'.ownBlock = va.ownBlock ∨ v'.ownBlock = some W.heap.size) : OwnI w0 v' vb vc (la ++ l) lb lc W' := by
  have fresh : ∀ {x : Value} {lx : List Tok}, W.ownsRow w0.heap.size 43 4 x lx.length (tokCells lx) → Apart va x → Apart v' x := fun hx hap k h1 h2 => by
    rcases hat with e | e
    · exact hap k (e ▸ h1) h2
    · have h3 := row_lt4 hx h2
      rw [e] at h1
      have := Option.some.inj h1
      omega
  have keep : ∀ {x : Value} {lx : List Tok}, W.ownsRow w0.heap.size 43 4 x lx.length (tokCells lx) → Apart va x → W'.ownsRow w0.heap.size 43 4 x lx.length (tokCells lx) := fun hx hap =>
    row_still hx fun k o hk ho => grown_keeps hg ho (fun e => hap k e hk)
  exact ⟨by rw [List.length_append]; exact ho, keep h.b h.ab, keep h.c h.ac, fresh h.b h.ab, fresh h.c h.ac, h.bc, bw_grown h.bw hg (fun k e => (row4_own h.a k e).1)⟩
end
end Go.Proofs.YtljjaepadnmmeaaDoor
namespace Go.Proofs.YtljjaepadnmmeaaDoor
section
open Go.RowKit Go.Maps Fld Ana Go.Shelf
attribute [local go_sem] Oper.semAt_some

theorem OwnI.store {w0 W : World} {vb vc : Value} {la lb lc : List Tok} {g n cap i : Nat} (h : OwnI w0 (.slice (some ⟨g, 0, none⟩) n cap) vb vc la lb lc W) (hn : n = la.length) (hi : i < n) (t : Tok) :
    OwnI w0 (.slice (some ⟨g, 0, none⟩) n cap) vb vc (la.set i t) lb lc ((((W.setCell ⟨g, i * 4, none⟩ (textV t.text)).setCell ⟨g, i * 4 + 1, none⟩ (.int .i64 t.pos)).setCell ⟨g, i * 4 + 2, none⟩ (.int .i64 t.fr)).setCell ⟨g, i * 4 + 3, none⟩ (.int .i64 t.en)) := by
  have ha := h.a
  rw [← hn] at ha
  have hst := (row_store ha hn hi t).2.2.2.2.2.2.2.2
  have hg0 : w0.heap.size ≤ g := (row4_own h.a g rfl).1
  have other : ∀ (k : Nat) (o : Obj), k ≠ g → W.heap[k]? = some o → ((((W.setCell ⟨g, i * 4, none⟩ (textV t.text)).setCell ⟨g, i * 4 + 1, none⟩ (.int .i64 t.pos)).setCell ⟨g, i * 4 + 2, none⟩ (.int .i64 t.fr)).setCell ⟨g, i * 4 + 3, none⟩ (.int .i64 t.en)).heap[k]? = some o := fun k o hk ho => by
    have s1 := (Below.heap_setCell W ⟨g, i * 4, none⟩ (textV t.text) k (fun e => hk (by first | exact e | exact e.symm))).trans ho
    have s2 := (Below.heap_setCell _ ⟨g, i * 4 + 1, none⟩ (.int .i64 t.pos) k (fun e => hk (by first | exact e | exact e.symm))).trans s1
    have s3 := (Below.heap_setCell _ ⟨g, i * 4 + 2, none⟩ (.int .i64 t.fr) k (fun e => hk (by first | exact e | exact e.symm))).trans s2
    exact (Below.heap_setCell _ ⟨g, i * 4 + 3, none⟩ (.int .i64 t.en) k (fun e => hk (by first | exact e | exact e.symm))).trans s3
  refine ⟨by rw [List.length_set, ← hn]; exact hst, row_still h.b fun k o hk ho => other k o (fun e => h.ab g rfl (e ▸ hk)) ho, row_still h.c fun k o hk ho => other k o (fun e => h.ac g rfl (e ▸ hk)) ho, h.ab, h.ac, h.bc, ?_⟩
  exact RowKit.Below.setCell (p := ⟨g, i * 4 + 3, none⟩) (RowKit.Below.setCell (p := ⟨g, i * 4 + 2, none⟩) (RowKit.Below.setCell (p := ⟨g, i * 4 + 1, none⟩) (RowKit.Below.setCell (p := ⟨g, i * 4, none⟩) h.bw hg0 _) hg0 _) hg0 _) hg0 _
theorem own_begin {w1 w2 w3 w4 : World} {va vb vc : Value} {T : List Tok} (ha : w2.ownsRow w1.heap.size 43 4 va T.length (tokCells T)) (h12 : BW w1 w2) (hb : w3.ownsRow w2.heap.size 43 4 vb T.length (tokCells T)) (h23 : BW w2 w3)
    (hc : w4.ownsRow w3.heap.size 43 4 vc (0 + T.length) (tokCells ([] ++ T))) (hg : (w3.alloc (.cells #[] 43)).grownBy w4 (some w3.heap.size)) : OwnI w1 va vb vc T T T w4 := by
  rw [Nat.zero_add, List.nil_append] at hc
  have s12 := h12.size
  have s23 := h23.size
  have k34 : ∀ (k : Nat) (o : Obj), k < w3.heap.size → w3.heap[k]? = some o → w4.heap[k]? = some o := fun k o hk ho =>
    grown_keeps hg ((Below.heap_alloc _ _ _ hk).trans ho) (fun e => by injection e with e; omega)
  have h34 : BW w3 w4 := bw_grown (bw_alloc w3 _) hg (fun k e => by injection e with e; omega)
  refine ⟨row_still ha fun k o hk ho => k34 k o (by have := row_lt4 ha hk; omega) ((h23.block k (row_lt4 ha hk)).trans ho), row_base (row_still hb fun k o hk ho => k34 k o (row_lt4 hb hk) ho) s12, row_base hc (by omega), fun k h1 h2 => ?_, fun k h1 h2 => ?_, fun k h1 h2 => ?_, (h12.trans h23).trans h34⟩
  · have := row_lt4 ha h1; have := (row4_own hb k h2).1; omega
  · have := row_lt4 ha h1; have := (row4_own hc k h2).1; omega
  · have := row_lt4 hb h1; have := (row4_own hc k h2).1; omega
theorem src_one (W : World) (p : Int) : RowSrc (W.alloc (.cells #[.string ⟨#[]⟩, .int .i64 p, .int .i64 0, .int .i64 0] 43)) (.slice (some ⟨W.heap.size, 0, none⟩) 1 1) [⟨[], p, 0, 0⟩] :=
  ⟨tokSrc_new W _ _ 1 rfl rfl, fun cap e => by cases e⟩
theorem row_some {w : World} {B e s n : Nat} {v : Value} {xs : List Value} (h : w.ownsRow B e s v n xs) (hn : 0 < n) : ∃ g cap, v = .slice (some ⟨g, 0, none⟩) n cap ∧ n ≤ cap ∧ (cap : Int) ≤ 9223372036854775807 := by
  obtain ⟨_, ⟨_, h0⟩ | ⟨g, cap, cur, rfl, _, _, h1, h2, _⟩⟩ := h
  · omega
  · exact ⟨g, cap, rfl, h1, by unfold maxLen at h2; omega⟩
end
end Go.Proofs.YtljjaepadnmmeaaDoor
namespace Go.Proofs.YtljjaepadnmmeaaDoor
section
open Go.RowKit Go.Maps Fld Ana Go.Shelf
attribute [local go_sem] Oper.semAt_some

theorem last_pos {w : World} {B n cap : Nat} {ao : Option Addr} {l : List Tok} {t : Tok} (h : w.ownsRow B 43 4 (.slice ao (n + 1) cap) (l ++ [t]).length (tokCells (l ++ [t]))) (hn : n = l.length) :
    ∃ g, ao = some ⟨g, 0, none⟩ ∧ w.cell? ⟨g, n * 4 + 1, none⟩ = some (.int .i64 t.pos) ∧ n + 1 ≤ cap ∧ (cap : Int) ≤ 9223372036854775807 := by
  obtain ⟨g, cap', e, h1, h2⟩ := row_some h (by simp)
  injection e with e1 e2 e3
  subst e1; subst e3
  obtain ⟨b, o, e, _, hc, _⟩ := (tokSrc_of_row h).cells (i := n) (by simp; omega)
  injection e with e; injection e with e1 e2
  subst e1; subst e2
  have ht : (l ++ [t])[n]'(by simp; omega) = t := by subst hn; simp
  rw [ht, Nat.zero_add] at hc
  exact ⟨g, rfl, hc, by rw [e2]; exact h1, h2⟩
theorem front_src {w : World} {ao : Option Addr} {n cap : Nat} {l : List Tok} {t : Tok} (h : TokSrc w (.slice ao (n + 1) cap) (l ++ [t])) (hn : n = l.length) : TokSrc w (.slice ao n cap) l := by
  obtain ⟨ao', cap', e, hc⟩ := h
  injection e with e1 e2 e3
  subst e1; subst e3
  refine ⟨ao, cap, by rw [hn], fun j u hu => hc j u ?_⟩
  have : tokCells (l ++ [t]) = tokCells l ++ tokCells [t] := by unfold tokCells; rw [List.flatMap_append]
  rw [this, List.getElem?_append_left (by have := (List.getElem?_eq_some_iff.1 hu).1; exact this)]
  exact hu
theorem own_b {w1 W : World} {va vc : Value} {la lc T : List Tok} {ao : Option Addr} {m cp : Nat} (h : OwnI w1 va (.slice ao m cp) vc la T lc W) (hm : m = T.length) : W.ownsRow w1.heap.size 43 4 (.slice ao m cp) m (tokCells T) := by
  have := h.b
  rw [← hm] at this; exact this
theorem own_last {w1 W : World} {va vc : Value} {la T : List Tok} {ao : Option Addr} {m cp : Nat} {t : Tok} (h : OwnI w1 (.slice ao (m + 1) cp) va vc (T ++ [t]) la T W) (hm : m = T.length) (h4 : m ≤ 4096) (W' : World) (hW : BW W W') :
    Calls Tryd.prog 12 #[.slice ao m cp, vc] W' fun e w' => e = .returned (.bool true) ∧ BW W' w' := by
  refine (tokens_any ((front_src (tokSrc_of_row h.a) hm).bw hW) ((tokSrc_of_row h.c).bw hW) (by omega) (by omega)).mono ?_
  rintro e w' ⟨rfl, k, rfl⟩
  exact ⟨ret_bool (decide_eq_true rfl), bw_drew (BW.refl W') k⟩
def minusT : Tok := ⟨[], -1, 0, 0⟩
set_option maxRecDepth 100000 in
set_option maxHeartbeats 4000000 in
theorem own_any (w : World) (ao : Option Addr) (cap : Nat) (c : List Int) (h : ISrc w ao cap c) (s : List UInt8) (hN : NextOk w) : Calls Tryd.prog 8 #[.slice ao c.length cap, textV s] w (TrueP w) := by
  obtain ⟨n, hn⟩ : ∃ n, n = c.length := ⟨_, rfl⟩
  obtain ⟨tx, htx⟩ : ∃ tx, textV s = .string tx := ⟨_, rfl⟩
  have HKN := Lib.hid (known_any w hN)
  obtain ⟨r, hr⟩ : ∃ r, runL c s = r := ⟨_, rfl⟩
  have HRN := Lib.hid (fun W (hW : BW w W) => run_row h hN s n hn hr W hW)
  have hln := run_len c s
  rw [hr] at hln
  rw [htx] at HRN ⊢
  rw [← hn]
  obtain ⟨T, er⟩ := r
  simp only at hln
  obtain ⟨m, hm⟩ : ∃ m, m = T.length := ⟨_, rfl⟩
  have hm4 : (m : Int) ≤ 4096 := by omega
  have HM := Lib.hid hm
  unfold Hid at HRN
  simp only [← hm] at HRN
  replace HRN := Lib.hid HRN
  clear h hn htx hr hN hln hm
  go_enter Tryd.func8, Tryd.ntmps8
  go_wp2_with fail
  refine HKN.out.mono ?_
  rintro e w1 ⟨rfl, hq1⟩
  have HQ1 := Lib.hid hq1
  clear hq1
  go_wp2_with fail
  refine (HRN.out _ HQ1.out).mono ?_
  rintro e w2 ⟨ao2, cp2, rfl, hrow2, hq2⟩
  have HQ2 := Lib.hid (HQ1.out.trans hq2)
  have HQ12 := Lib.hid hq2
  have HA2 := Lib.hid hrow2
  clear hq2 hrow2
  go_wp2_with fail
  refine (HRN.out _ HQ2.out).mono ?_
  rintro e w3 ⟨ao3, cp3, rfl, hrow3, hq3⟩
  have HQ3 := Lib.hid (HQ2.out.trans hq3)
  have HQ23 := Lib.hid hq3
  have HB3 := Lib.hid hrow3
  clear hq3 hrow3
  by_cases he : er = 0
  · subst he
    have HSB : Hid (RowSrc (w3.alloc (.cells #[] 43)) (.slice ao3 m cp3) T) := by
      have hb := HB3.out
      unfold Hid
      rw [HM.out] at hb ⊢
      exact (rowSrc_of hb).bw (bw_alloc _ _)
    have HL : Hid (0 + T.length ≤ 100000) := by unfold Hid; have := HM.out; omega
    have HWS : Hid (w3.heap.size ≤ (w3.alloc (.cells #[] 43)).heap.size) := by unfold Hid; rw [World.size_alloc]; omega
    have HE := Lib.hid (row_empty w3)
    go_wp2_with (at_builtin; refine append_row rfl _ _ rfl rfl HE.out HWS.out rfl HSB.out HL.out ?_; intro v4 w4 ho4 hg4 _; have HO4 := Lib.hid ho4; have HG4 := Lib.hid hg4; clear ho4 hg4)
    have HOI : Hid (OwnI w1 (.slice ao2 m cp2) (.slice ao3 m cp3) v4 T T T w4) := by
      have ha := HA2.out
      have hb := HB3.out
      unfold Hid
      rw [HM.out] at ha hb ⊢
      exact own_begin ha HQ12.out hb HQ23.out HO4.out HG4.out
    go_loopw [10] (fun s10 wr => ∃ i : Nat, i ≤ m ∧ s10 = .int .i64 (i : Int) ∧ ∃ la : List Tok, m = la.length ∧ OwnI w1 (.slice ao2 m cp2) (.slice ao3 m cp3) v4 la T T wr) (fun s10 _ => m - (intOf s10).toNat)
    case atStart => exact ⟨0, Nat.zero_le _, rfl, T, HM.out, HOI.out⟩
    case round =>
      obtain ⟨i, hi, rfl, la, hla, hoi⟩ := hrel
      have HLA := Lib.hid hla
      by_cases hlt : i < m
      · have hlti : (i : Int) < (m : Int) := by omega
        have hi0 : 0 ≤ (i : Int) := by omega
        have ha := hoi.a
        rw [← hla] at ha
        obtain ⟨g, cap', e1, _, _⟩ := row_some ha (by omega)
        injection e1 with e1 e2 e3
        subst e1; subst e3
        have hst := row_store ha hla hlt minusT
        have hnx := hoi.store hla hlt minusT
        have htm : textV minusT.text = Value.string ⟨#[]⟩ := rfl
        rw [htm] at hst hnx
        obtain ⟨⟨y0, c0⟩, f0, ⟨y1, c1⟩, f1, ⟨y2, c2⟩, f2, ⟨y3, c3⟩, f3, _⟩ := hst
        simp only [minusT] at c0 f0 c1 f1 c2 f2 c3 f3
        have HNX := Lib.hid hnx
        have HLT := Lib.hid hlt
        have hjl : (i : Int) + 1 ≤ 4096 := by omega
        clear ha hnx hoi hla hlt hi htm
        go_wp2
        go_roundw
        case rel => exact ⟨i + 1, HLT.out, by first | rfl | go_num, la.set i minusT, by rw [List.length_set]; exact HLA.out, HNX.out⟩
        case measure => simp [intOf]; have := HLT.out; omega
      · have HOI2 := Lib.hid hoi
        have hle : (m : Int) ≤ (i : Int) := by omega
        clear hoi hla hlt hi
        have HS1 := Lib.hid (src_one wr (-2))
        have HO1 := Lib.hid (HOI2.out.alloc (.cells #[.string ⟨#[]⟩, .int .i64 (-2), .int .i64 0, .int .i64 0] 43))
        have HA1 : Hid ((wr.alloc (.cells #[.string ⟨#[]⟩, .int .i64 (-2), .int .i64 0, .int .i64 0] 43)).ownsRow w1.heap.size 43 4 (.slice ao2 m cp2) m (tokCells la)) := by
          have := HO1.out.a; rw [← HLA.out] at this; exact this
        have HB1 : Hid (w1.heap.size ≤ (wr.alloc (.cells #[.string ⟨#[]⟩, .int .i64 (-2), .int .i64 0, .int .i64 0] 43)).heap.size) := HO1.out.bw.size
        have HL1 : Hid (m + [(⟨[], -2, 0, 0⟩ : Tok)].length ≤ 100000) := by unfold Hid; simp only [List.length_cons, List.length_nil]; omega
        have HMM : Hid (m ≤ 4096) := by unfold Hid; omega
        go_wp2_with (first | (refine (HTK.out _ (BW.refl w6)).mono ?_; rintro e w7 ⟨rfl, hq7⟩; have hq8 := (HQ1.out.trans HOK.out.bw).trans hq7; clear hq7) | (at_builtin; refine append_row rfl _ _ rfl rfl HB2.out HC2.out rfl HS2.out HL2.out ?_; intro v6 w6 ho6 hg6 hat6; have HOK := Lib.hid (HO2.out.turn.grow (l := [⟨[], -3, 0, 0⟩]) (by rw [← HM.out]; exact ho6) hg6 hat6); obtain ⟨o6, c6, rfl⟩ := row4_form ho6; clear ho6 hg6 hat6; obtain ⟨g5, e5, p5, _, _⟩ := last_pos HOK.out.b HLA.out; obtain ⟨g6, e6, _, q6, q6'⟩ := last_pos HOK.out.a HM.out; subst e5; subst e6; have HTK := Lib.hid (own_last HOK.out HM.out HMM.out)) | (at_builtin; refine append_row rfl _ _ rfl rfl HA1.out HB1.out rfl HS1.out HL1.out ?_; intro v5 w5 ho5 hg5 hat5; have HOJ := Lib.hid (HO1.out.grow (l := [⟨[], -2, 0, 0⟩]) (by rw [← HLA.out]; exact ho5) hg5 hat5); obtain ⟨o5, c5, rfl⟩ := row4_form ho5; clear ho5 hg5 hat5; have HO2 := Lib.hid (HOJ.out.alloc (.cells #[.string ⟨#[]⟩, .int .i64 (-3), .int .i64 0, .int .i64 0] 43)); have HS2 := Lib.hid (src_one w5 (-3)); have HB2 := Lib.hid (own_b HO2.out HM.out); have HC2 := Lib.hid HO2.out.bw.size; have HL2 : Hid (m + [(⟨[], -3, 0, 0⟩ : Tok)].length ≤ 100000) := HL1.out))
        go_ret
        exact ⟨rfl, by assumption⟩
  · have t1 : (er != 0) = true := by simpa using he
    go_wp2
    go_ret
    exact ⟨rfl, HQ3.out⟩
end
end Go.Proofs.YtljjaepadnmmeaaDoor
