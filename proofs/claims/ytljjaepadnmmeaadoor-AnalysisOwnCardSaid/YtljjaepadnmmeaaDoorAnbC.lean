/- Stage 6, the program: tokens in memory; the closure that is told where one begins and ends. -/
import Derived.Test.YtljjaepadnmmeaaDoorAnbB
import Derived.Deep.AppendLies
import Derived.Deep.RegionLaw
namespace Go.Proofs.YtljjaepadnmmeaaDoor
open Go.RowKit Go.Maps Fld Ana Go.Shelf
attribute [local go_sem] Oper.semAt_some

def tokV (t : Tok) : List Value := [textV t.text, .int .i64 t.pos, .int .i64 t.fr, .int .i64 t.en]
def tokCells (l : List Tok) : List Value := l.flatMap tokV
theorem tokCells_len (l : List Tok) : (tokCells l).length = l.length * 4 := by
  unfold tokCells; induction l with
  | nil => rfl
  | cons t l ih => rw [List.flatMap_cons, List.length_append, ih, List.length_cons]; simp [tokV]; omega
theorem tokCells_snoc (l : List Tok) (t : Tok) : tokCells (l ++ [t]) = tokCells l ++ tokV t := by unfold tokCells; rw [List.flatMap_append]; simp
theorem info_tok : (Tryd.prog.info? 43).map (fun i => (i.zero, i.size, i.bytes)) = some (some (.agg #[.string ⟨#[]⟩, .int .i64 0, .int .i64 0, .int .i64 0]), 4, 40) := by kernel_rfl
/-- the token of two places, the i-th -/
def tokAt (l : List UInt8) (p : Nat × Nat) (i : Nat) : Tok := ⟨(l.drop p.1).take (p.2 - p.1), (i : Int), (p.1 : Int), (p.2 : Int)⟩
def tokB (l : List UInt8) (ps : List (Nat × Nat)) : List Tok := ps.zipIdx.map fun x => tokAt l x.1 x.2
theorem tokB_len (l : List UInt8) (ps : List (Nat × Nat)) : (tokB l ps).length = ps.length := by unfold tokB; simp
theorem tokB_snoc (l : List UInt8) (ps : List (Nat × Nat)) (p : Nat × Nat) : tokB l (ps ++ [p]) = tokB l ps ++ [tokAt l p ps.length] := by
  unfold tokB; rw [List.zipIdx_append]; simp
theorem row4_form {w : World} {base e s n : Nat} {v : Value} {xs : List Value} (h : w.ownsRow base e s v n xs) : ∃ ao cap, v = .slice ao n cap := by
  rcases h.2 with ⟨rfl, h0⟩ | ⟨g, cap, cur, rfl, _⟩
  · exact ⟨none, 0, by rw [h0]⟩
  · exact ⟨some ⟨g, 0, none⟩, cap, rfl⟩
theorem row4_own {w : World} {base e s n : Nat} {v : Value} {xs : List Value} (h : w.ownsRow base e s v n xs) : ∀ b, v.ownBlock = some b → base ≤ b ∧ ∃ c fz, w.heap[b]? = some (.cells c e fz) := by
  intro b hb
  rcases h.2 with ⟨rfl, _⟩ | ⟨g, cap, cur, rfl, hg, hgb, _⟩
  · cases hb
  · simp only [Value.ownBlock, Option.some.injEq] at hb
    subst hb; exact ⟨hg, _, _, hgb⟩
/-- where the tokens stand: the text's variable, the tokens' variable, its row -/
structure CutJ (w0 : World) (tb ob : Nat) (l : List UInt8) (ps : List (Nat × Nat)) (W : World) : Prop where
  bw : BW w0 W
  text : Boxed W tb 9 (textV l)
  out : ∃ v, Boxed W ob 24 v ∧ W.ownsRow w0.heap.size 43 4 v ps.length (tokCells (tokB l ps))
theorem cutJ_stab {w0 : World} {tb ob : Nat} {l : List UInt8} {B : Nat} (hB : w0.heap.size ≤ B) : Stab B (CutJ w0 tb ob l) := by
  rintro ps W W' row ⟨hb, ht, v, hv, hr⟩ hg hrow
  have far : ∀ b o, W.heap[b]? = some o → (∀ r, row = some r → b ≠ r) → W'.heap[b]? = some o := fun b o hb hne => grown_keeps hg hb (fun e => hne b e rfl)
  have kind : ∀ b c t fz, W.heap[b]? = some (.cells c t fz) → t ≠ 3 → row ≠ some b := fun b c t fz hb hti e => by
    obtain ⟨_, o, ho, h3⟩ := hrow b e
    rw [hb] at ho
    obtain rfl := Option.some.inj ho
    rcases h3 with h3 | ⟨u, h3⟩
    · cases h3
    · injection h3 with _ h4 _; exact hti h4
  refine ⟨?_, far tb _ ht (fun r e => by rintro rfl; exact kind tb _ _ _ ht (by decide) e), v, far ob _ hv (fun r e => by rintro rfl; exact kind ob _ _ _ hv (by decide) e), hr.kept hg ?_⟩
  · exact RowKit.Below.grown hb hg hb.size (fun k e => by have := (hrow k e).1; omega)
  · cases hvb : v.ownBlock with
    | none => exact .inl rfl
    | some g =>
      obtain ⟨_, c, fz, h⟩ := row4_own hr g hvb
      exact .inr fun e => kind g _ _ _ h (by decide) e.symm
theorem cut_end {w0 W Wx w3 : World} {tb ob a b : Nat} {l : List UInt8} {ps : List (Nat × Nat)} {v v6 : Value} {cs : Array Value} (hWx : Wx = (W.alloc (.cells cs 43)).drew) (hJ : BW w0 W) (hob : w0.heap.size ≤ ob) (ht : Boxed W tb 9 (textV l)) (hv : Boxed W ob 24 v)
    (hr : W.ownsRow w0.heap.size 43 4 v ps.length (tokCells (tokB l ps)))
    (hown : w3.ownsRow w0.heap.size 43 4 v6 (ps.length + 1) (tokCells (tokB l ps) ++ tokV (tokAt l (a, b) ps.length))) (hg : Wx.grownBy w3 v.ownBlock) :
    Boxed w3 ob 24 v ∧ CutJ w0 tb ob l (ps ++ [(a, b)]) (w3.setCell ⟨ob, 0, none⟩ v6) ∧ KT W (w3.setCell ⟨ob, 0, none⟩ v6) := by
  have hg1 : (W.alloc (.cells cs 43)).grownBy w3 v.ownBlock := by rw [hWx] at hg; exact ⟨hg.os, hg.tape, hg.output, hg.size, hg.block⟩
  obtain ⟨b1, b2, b3, _, b5⟩ := hv.appended (n₀ := w0.heap.size) (by decide) hr hJ.size hob hown hg1
  have hne : tb ≠ ob := fun e => by
    have h1 : W.heap[tb]? = _ := ht
    have h2 : W.heap[ob]? = _ := hv
    rw [e, h2] at h1
    injection h1 with h1
    injection h1 with _ h3 _
    exact absurd h3 (by decide)
  refine ⟨b1, ⟨RowKit.Below.trans hJ b5, ((ht.alloc _).kept hg1 (ht.not_row (by decide) hr)).other hne _, v6, b2, ?_⟩, ?_⟩
  · rw [List.length_append, tokB_snoc, tokCells_snoc]; exact b3
  · refine ⟨b5.os, b5.size, fun k o hk h1 h2 => ?_⟩
    have hk1 : (W.alloc (.cells cs 43)).heap[k]? = some o := (Below.heap_alloc _ _ _ (by have := lt_of_heap hk; omega)).trans hk
    have hk2 : w3.heap[k]? = some o := grown_keeps hg1 hk1 (fun e => by
      obtain ⟨_, c, fz, h⟩ := row4_own hr k e
      rw [hk] at h; exact h1 c fz (Option.some.inj h))
    refine (Below.heap_setCell _ _ _ _ (fun e => ?_)).trans hk2
    have e2 : k = ob := by first | exact e | exact e.symm
    have h3 : W.heap[ob]? = _ := hv
    rw [← e2, hk] at h3
    exact h2 _ _ (Option.some.inj h3)
set_option maxRecDepth 100000 in
set_option maxHeartbeats 4000000 in
theorem cut1_put (w0 : World) (tb ob : Nat) (l : List UInt8) (hl : (l.length : Int) ≤ 1000000000000000) (hob : w0.heap.size ≤ ob) : PutOk 35 #[.pointer (some ⟨ob, 0, none⟩), .pointer (some ⟨tb, 0, none⟩)] l.length 1000000000 (CutJ w0 tb ob l) := by
  rintro ps a b W hab hbl hps ⟨hbw, htx, v, hbx, hrow⟩
  show Calls Tryd.prog 35 #[.int .i64 (a : Int), .int .i64 (b : Int), .pointer (some ⟨ob, 0, none⟩), .pointer (some ⟨tb, 0, none⟩)] W _
  obtain ⟨tx, htxe⟩ : ∃ tx, tx = ByteArray.mk l.toArray := ⟨_, rfl⟩
  have hts : tx.size = l.length := by rw [htxe]; exact text_size l
  obtain ⟨px, hpx⟩ : ∃ px, px = tx.extract a b := ⟨_, rfl⟩
  have HTV : Hid (tokV (tokAt l (a, b) ps.length) = [.string px, .int .i64 (ps.length : Int), .int .i64 (a : Int), .int .i64 (b : Int)]) := by
    unfold Hid tokV tokAt textV; simp only; rw [hpx, htxe, ByteArray.extract_mk]
  have htv : textV l = .string tx := by rw [htxe]; rfl
  have hct := htx.cell
  rw [htv] at hct
  have hco := hbx.cell
  obtain ⟨ao, cap, hv⟩ := row4_form hrow
  obtain ⟨n, hn⟩ : ∃ n, n = ps.length := ⟨_, rfl⟩
  rw [← hn] at hv HTV hps
  have HOWN := Lib.hid hrow
  rw [hv] at hco hbx
  have s1 : (a : Int) ≤ (b : Int) := by omega
  have s2 : (b : Int) ≤ (tx.size : Int) := by omega
  have s3 : 0 ≤ (a : Int) := by omega
  have s4 : 0 ≤ (b : Int) := by omega
  obtain ⟨Wx, hWx⟩ : ∃ Wx, Wx = (W.alloc (.cells #[.string px, .int .i64 (n : Int), .int .i64 (a : Int), .int .i64 (b : Int)] 43)).drew := ⟨_, rfl⟩
  have HX2 : Hid (Wx.ownsRow w0.heap.size 43 4 (.slice ao n cap) n (tokCells (tokB l ps))) := by
    unfold Hid; rw [hWx, ← hv, hn]; exact (show (W.alloc (.cells #[.string px, .int .i64 (ps.length : Int), .int .i64 (a : Int), .int .i64 (b : Int)] 43)).ownsRow w0.heap.size 43 4 v ps.length (tokCells (tokB l ps)) from hrow.alloc _)
  have HX4 : Hid (∀ j u, [Value.string px, .int .i64 (n : Int), .int .i64 (a : Int), .int .i64 (b : Int)][j]? = some u → Wx.cell? ((⟨W.heap.size, 0, none⟩ : Addr).add j) = some u) := by
    unfold Hid; rw [hWx]
    exact World.news_of_block (show (W.alloc (.cells #[.string px, .int .i64 (n : Int), .int .i64 (a : Int), .int .i64 (b : Int)] 43)).heap[W.heap.size]? = _ from heap_new W _)
  have HX5 : Hid (n + 1 ≤ maxLen) := by unfold Hid maxLen; omega
  have HRB : Hid ((n + 1) * 40 ≤ 140737488355328) := by unfold Hid; omega
  have HX6 : Hid (w0.heap.size ≤ Wx.heap.size) := by unfold Hid; rw [hWx]; have := hbw.size; show _ ≤ (W.alloc _).heap.size; rw [World.size_alloc]; omega
  have HX7 : Hid (Wx.heap.size = W.heap.size + 1) := by unfold Hid; rw [hWx]; show (W.alloc _).heap.size = _; rw [World.size_alloc]
  obtain ⟨i0, hi9, hz0, hz1, hz2⟩ := infoOf info_tok
  have HI9 := Lib.hid hi9; have HZ0 := Lib.hid hz0; have HZ1 := Lib.hid hz1; have HZ2 := Lib.hid hz2
  have HEND : Hid (∀ (w3 : World) (v6 : Value), w3.ownsRow w0.heap.size 43 4 v6 (n + 1) (tokCells (tokB l ps) ++ [Value.string px, .int .i64 (n : Int), .int .i64 (a : Int), .int .i64 (b : Int)]) → Wx.grownBy w3 (Value.slice ao n cap).ownBlock → Boxed w3 ob 24 (.slice ao n cap) ∧ CutJ w0 tb ob l (ps ++ [(a, b)]) (w3.setCell ⟨ob, 0, none⟩ v6) ∧ KT W (w3.setCell ⟨ob, 0, none⟩ v6)) := fun w3 v6 h1 h2 => by
    rw [← HTV.out, hn] at h1
    rw [← hv] at h2 ⊢
    exact cut_end hWx hbw hob htx (by rw [hv]; exact hbx) HOWN.out h1 h2
  have hcx : (W.alloc (.cells #[.string px, .int .i64 (n : Int), .int .i64 (a : Int), .int .i64 (b : Int)] 43)).cell? ⟨ob, 0, none⟩ = some (.slice ao n cap) := (hbx.alloc _).cell
  have HWX := Lib.hid hWx
  have hpx2 : tx.extract a b = px := hpx.symm
  clear hrow hbx hbw htx hpx htxe htv hv hWx hi9 hz0 hz1 hz2 hab hbl hts hn
  go_enter Tryd.func35, Tryd.ntmps35
  refine wp_region_noPanic ?_
  go_region_law (first
    | (rw [← HWX.out]; refine step_append_lies _ (by rfl) _ _ 24 rfl w0.heap.size 43 i0 (.agg #[.string ⟨#[]⟩, .int .i64 0, .int .i64 0, .int .i64 0]) 4 40 Tryd.underlying24 HI9.out HZ0.out HZ1.out HZ2.out rfl (by decide) (.slice ao n cap) n (tokCells (tokB l ps)) rfl HX2.out ⟨W.heap.size, 0, none⟩ 1 1 [.string px, .int .i64 (n : Int), .int .i64 (a : Int), .int .i64 (b : Int)] rfl rfl HX4.out (by simp [Value.oneCell']) (by decide) HX5.out HRB.out HX6.out Wx.heap.size rfl ?_; intro gg cap6 w3 hown hgr hat hlt6; obtain ⟨e1, e2, e3⟩ := HEND.out w3 _ hown hgr; have c6 := e1.cell; have f6 := e1.frozen; have HE2 := Lib.hid e2; have HE3 := Lib.hid e3; clear hown hgr hat hlt6 e1 e2 e3))
  all_goals
    refine NoPanic.normal ?_
    go_end0
    exact ⟨⟨_, rfl⟩, HE2.out, HE3.out⟩
end Go.Proofs.YtljjaepadnmmeaaDoor
