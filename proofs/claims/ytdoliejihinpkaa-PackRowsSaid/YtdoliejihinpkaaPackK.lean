/- pack.Put. -/
import Derived.Test.YtdoliejihinpkaaPackJ
import Derived.Deep.RegionHeld3
namespace Go.Proofs.Ytdoliejihinpkaa
open Go.RowKit Go.Maps Go.Shelf
attribute [local go_sem] Oper.semAt_some

theorem step_append_own {P : Program} {ops : Array Oper} {o : Oper} {a : Act} {w : World} {K : Act → World → Prop} {Q : Exit → Act → World → Prop} {E : Prop}
    (hg : o.guard = none) (s x : Operand) (t : TypeId) (hop : o.op = Op.call { callee := Callee.builtin Builtin.append, args := #[s, x], argTypes := #[t, t] })
    (base : Nat) (e : TypeId) (i : TypeInfo) (z : Value) (size bytes : Nat) (ht : P.underlying t = some (.slice e)) (hi : P.info? e = some i) (hz : i.zero = some z)
    (hsize : i.size = size) (hby : i.bytes = bytes) (hzs : z.cells.size = size) (hsz : 0 < size)
    (v : Value) (n : Nat) (xs : List Value) (hs : a.eval s = v) (hown : w.ownsRow base e size v n xs)
    (ad : Addr) (m c : Nat) (news : List Value) (hx : a.eval x = .slice (some ad) m c) (hl : news.length = m * size) (hnews : ∀ j u, news[j]? = some u → w.cell? (ad.add j) = some u) (h1 : ∀ u ∈ news, u.oneCell' = true)
    (h63 : n + m ≤ maxLen) (hbytes : (n + m) * bytes ≤ 140737488355328) (hbase : base ≤ w.heap.size)
    (hK : ∀ v' w', w'.ownsRow base e size v' (n + m) (xs ++ news) → w.grownBy w' v.ownBlock → K (a.put o.dst v') w') :
    if Region.wanted o (yielded ops a.tmps) = true then Oper.wp P o a w K Q else E := by
  have hw : Region.wanted o (yielded ops a.tmps) = true := by simp [Region.wanted, hg]
  rw [if_pos hw]
  obtain ⟨v', w', hrun, r1, r2, _⟩ := run_append_own (P := P) w base t o.type e i z size bytes ht hi hz hsize hby hzs hsz v n xs hown ad m c news hl hnews h1 h63 hbytes hbase
  unfold Oper.wp
  simp [execOp, hop, resolve, invoke, builtin, hs, hx, hrun, Result.andThen]
  exact hK _ _ r1 r2

def part1 (l : List Int) {n : Nat} (x : Blk n) : List Int := (l.drop x.1.1).take (x.1.2 - x.1.1)
def outP (l : List Int) {n : Nat} (pre : List (Blk n)) : List UInt8 := pre.flatMap fun x => blockP (part1 l x)
theorem Src.part {w : World} {b off n cap : Nat} {xs : List Value} (h : Src w (.slice (some ⟨b, off, none⟩) n cap) xs) {i j : Nat} (hj : j ≤ xs.length) (hij : i < j) : Src w (.slice (some ⟨b, off + i, none⟩) (j - i) (cap - i)) ((xs.drop i).take (j - i)) := by
  rcases h with ⟨ao', c', e, e2, h5, h6⟩ | ⟨b', off', c, hv, h1, h2, h3, h4⟩
  · subst e2; simp at hj; omega
  · cases hv
    have hl : ((xs.drop i).take (j - i)).length = j - i := by rw [List.length_take, List.length_drop]; omega
    refine .inr ⟨b, off + i, cap - i, by rw [hl], by rw [hl]; omega, by omega, h3, fun k u hu => ?_⟩
    rw [List.getElem?_take] at hu
    split at hu
    · rw [List.getElem?_drop] at hu
      rw [Nat.add_assoc]; exact h4 _ u hu
    · cases hu
theorem outP_snoc (l : List Int) {n : Nat} (pre : List (Blk n)) (x : Blk n) : outP l (pre ++ [x]) = outP l pre ++ blockP (part1 l x) := by unfold outP; simp
theorem part1_len {l : List Int} {n : Nat} (hl : l.length = n) (x : Blk n) : (part1 l x).length = x.1.2 - x.1.1 ∧ 0 < (part1 l x).length ∧ (part1 l x).length ≤ 128 := by
  have h := x.2
  unfold part1
  rw [List.length_take, List.length_drop]; omega
theorem part1_i64 {l : List Int} (h : I64s l) {n : Nat} (x : Blk n) : I64s (part1 l x) := fun y hy => h y (List.mem_of_mem_drop (List.mem_of_mem_take hy))
theorem outP_len {l : List Int} {n : Nat} (hl : l.length = n) (h : I64s l) : ∀ pre : List (Blk n), (outP l pre).length ≤ 1035 * pre.length
  | [] => by simp [outP]
  | x :: r => by
    have h1 := outP_len hl h r
    have h2 := part1_len hl x
    have h3 := block_most (l := part1 l x) (by intro e; rw [e] at h2; simp at h2) (part1_i64 h x)
    show ((x :: r).flatMap _).length ≤ _
    rw [List.flatMap_cons, List.length_append, List.length_cons]
    have h1' : (r.flatMap fun x => blockP (part1 l x)).length ≤ 1035 * r.length := h1
    omega
theorem outP_upto {l : List Int} {n : Nat} (hl : l.length = n) : ∀ k, k ≤ (n + 127) / 128 → outP l (upto n k) = putP (l.take (128 * k))
  | 0, _ => by simp [upto, outP, putP_nil]
  | k + 1, hk => by
    have hlt : 128 * k < n := by omega
    rw [upto_succ hlt, outP_snoc, outP_upto hl k (by omega)]
    have e : l.take (128 * (k + 1)) = l.take (128 * k) ++ part1 l (blk n k hlt) := by
      unfold part1 blk
      show _ = _ ++ (l.drop (128 * k)).take (min (128 * k + 128) n - 128 * k)
      by_cases h : 128 * k + 128 ≤ n
      · rw [Nat.min_eq_left h, show 128 * k + 128 - 128 * k = 128 by omega, show 128 * (k + 1) = 128 * k + 128 by omega, List.take_add]
      · rw [Nat.min_eq_right (by omega), List.take_of_length_le (by omega), List.take_of_length_le (l := l.drop (128 * k)) (by rw [List.length_drop]; omega), List.take_append_drop]
    rw [e, putP_append k _ _ (by rw [List.length_take]; omega)]
    congr 1
    have h2 := part1_len hl (blk n k hlt)
    rw [putP_one (by intro e; rw [e] at h2; simp at h2) h2.2.2]
theorem outP_all {l : List Int} {n : Nat} (hl : l.length = n) : outP l (upto n ((n + 127) / 128)) = putP l := by
  rw [outP_upto hl _ (Nat.le_refl _), List.take_of_length_le (by omega)]

set_option maxRecDepth 100000 in
set_option maxHeartbeats 2000000 in
theorem put_any {w : World} {v : Value} {l : List Int} (h : Src w v (l.map iV)) (hl : I64s l) (hlen : l.length ≤ 1048576) : Calls Try.prog 25 #[v] w (BytesPost w (putP l)) := by
  obtain ⟨ao, cap, rfl⟩ := h.len
  rw [List.length_map] at h ⊢
  obtain ⟨n, hn⟩ : ∃ n, n = l.length := ⟨_, rfl⟩
  rw [← hn] at h ⊢
  have H := Lib.hid h
  have HL := Lib.hid hl
  have HN := Lib.hid hn
  have hn1 : n ≤ 1048576 := by omega
  clear h hl hn hlen
  refine (callsIn_wide (n := 5)).1 ?_
  refine callsIn_of_wp_marks Try.func25 rfl trivial ?_ rfl
  simp only [Try.ntmps25, List.size_toArray, List.length_cons, List.length_nil, Nat.reduceAdd, Nat.reduceSub, Array.replicate_succ, Array.replicate_zero, List.push_toArray, List.append_toArray, List.nil_append, List.cons_append]
  gi_wp2_with (refine ⟨trivial, ?_⟩; gi_at_call 39; refine (callsIn_wide.2 (blocks_in _ _)).mono ?_; rintro e w' ⟨rfl, rfl⟩)
  have hB0 : RowKit.Below w.heap.size w (((w.alloc (Obj.cells #[Value.slice ao n cap] 41)).alloc (Obj.cells #[Value.slice none 0 0] 23)).alloc (Obj.cells #[Value.int IntKind.i64 ↑n] 3)) := (((RowKit.Below.refl _ w).alloc (Nat.le_refl _) _).alloc (by simp) _).alloc (by simp; omega) _
  have bL := Boxed.new w 41 (.slice ao n cap)
  have bO := Boxed.new (w.alloc (Obj.cells #[Value.slice ao n cap] 41)) 23 (.slice none 0 0)
  have bN := Boxed.new ((w.alloc (Obj.cells #[Value.slice ao n cap] 41)).alloc (Obj.cells #[Value.slice none 0 0] 23)) 3 (.int .i64 (n : Int))
  simp only [World.size_alloc] at bO bN
  have bL2 := (bL.alloc (Obj.cells #[Value.slice none 0 0] 23)).alloc (Obj.cells #[Value.int IntKind.i64 ↑n] 3)
  have bO2 := bO.alloc (Obj.cells #[Value.int IntKind.i64 ↑n] 3)
  refine wpIn_rangeFunc_ownG rfl (by omega) (gf := 48) (lb := #[.pointer (some ⟨w.heap.size + 1 + 1, 0, none⟩)]) rfl trivial (enters_of Try.func48 (by kernel_rfl) rfl)
    (blocks_stops n hn1 _ (w.heap.size + 1 + 1) (by omega) _ (by simp) bN.cell) (fun h k => k.trans h) (kpB_b (by simp)) (RowKit.Below.refl _ _) (fun _ => rfl)
    (fun pre W => (((∃ v, Boxed W (w.heap.size + 1) 23 v ∧ W.ownsRow w.heap.size 5 1 v (outP l pre).length ((outP l pre).map bV) ∧ True) ∧ Boxed W w.heap.size 41 (.slice ao n cap)) ∧ Boxed W (w.heap.size + 1 + 1) 3 (.int .i64 (n : Int))) ∧ RowKit.Below w.heap.size w W)
    (fun _ _ _ => False)
    (OwnFrom.and (OwnFrom.and (OwnFrom.and (Own.from (holdsRow_own w.heap.size (w.heap.size + 1) 23 5 1 (fun pre => (outP l pre).length) (fun pre => (outP l pre).map bV) (fun _ _ => True)) _) (Own.from (boxed_own _ _ _) _)) (Own.from (boxed_own _ _ _) _)) (ownFrom_below (Nat.le_refl _) (by simp; omega)))
    (fun _ _ _ _ _ hs _ _ => hs)
    ⟨⟨⟨⟨_, bO2, World.ownsRow_nil _ _ _ _, trivial⟩, bL2⟩, bN⟩, hB0⟩
    (fun x => { tmps := #[.slice ao n cap, .pointer (some ⟨w.heap.size, 0, none⟩), .slice none 0 0, .pointer (some ⟨w.heap.size + 1, 0, none⟩), .int .i64 (x.1.1 : Int), .int .i64 (x.1.2 : Int), .slice ao n cap, .int .i64 (n : Int), .func (.func 48) #[] #[.pointer (some ⟨w.heap.size + 1 + 1, 0, none⟩)], .int .i64 (x.1.1 : Int), .int .i64 (x.1.2 : Int), undef, undef, undef, undef, undef, undef, undef, undef], defers := [] }) ?assign ?body ?done ?stop
  case assign =>
    intro l1 x W K hK
    dsimp only [encB]
    gi_wp2
    exact hK
  case body =>
    rintro l1 pre x W ⟨⟨⟨⟨v, hv, hrow, _⟩, hL⟩, hbN⟩, hB⟩ hlt
    have hxp := x.2
    obtain ⟨xa, hxa⟩ : ∃ a, a = x.1.1 := ⟨_, rfl⟩
    obtain ⟨xb, hxb⟩ : ∃ b, b = x.1.2 := ⟨_, rfl⟩
    rw [← hxa, ← hxb] at hxp ⊢
    obtain ⟨hab, hbn, hbl⟩ := hxp
    have hncap : n ≤ cap := by
      rcases H.out with ⟨ao', c', e, e2, h5, h6⟩ | ⟨b', off', c', hv', h1, h2, h3, h4⟩
      · injection e with _ e1 _; omega
      · injection hv' with _ e1 e2; rw [e1, e2]; exact h1
    obtain ⟨b0, o0, rfl⟩ : ∃ b0 o0, ao = some ⟨b0, o0, none⟩ := by
      have hp : 0 < l.length := by have := HN.out; omega
      obtain ⟨b0, o0, e, _⟩ := H.out.get (i := 0) (u := iV l[0]) (by rw [List.getElem?_map, List.getElem?_eq_getElem hp]; rfl)
      exact ⟨b0, o0, e⟩
    have HXA := Lib.hid hxa
    have HXB := Lib.hid hxb
    clear hxa hxb
    gi_wp2
    have hq : ∀ Q' : Exit → Act → World → Prop, (∀ a w, ¬ Q' .outgrown a w) → ¬ LetsOut (Exit.inBlock 1 Q') := by
      rintro Q' h ⟨a, w, h2⟩
      exact h a w h2
    refine region_in (by kernel_rfl) rfl (hq _ (fun _ _ h => h)) ?_
    change wpAny _ _ _ _ _ _ _ W.drew
    have hcv : W.drew.cell? ⟨w.heap.size + 1, 0, none⟩ = some v := hv.cell
    have hcl : W.drew.cell? ⟨w.heap.size, 0, none⟩ = some (.slice (some ⟨b0, o0, none⟩) n cap) := hL.cell
    have ha0 : 0 ≤ (xa : Int) := by omega
    have hab1 : (xa : Int) ≤ (xb : Int) := by omega
    have hbc : (xb : Int) ≤ (cap : Int) := by omega
    have hab2 : xa ≤ xb := by omega
    have hbc2 : xb ≤ cap := by omega
    have hac2 : ¬ (cap = xa) := by omega
    have hp1 := part1_len HN.out.symm x
    have HPI := part1_i64 HL.out x
    have hne : part1 l x ≠ [] := by intro e; rw [e] at hp1; simp at hp1
    have hSP : Src W.drew (.slice (some ⟨b0, o0 + xa, none⟩) (xb - xa) (cap - xa)) ((part1 l x).map iV) := by
      unfold part1
      rw [← HXA.out, ← HXB.out, List.map_take, List.map_drop]
      exact ((H.out.below (w' := W) hB).part (by rw [List.length_map, ← HN.out]; exact hbn) hab).below (w' := W.drew) (drewN_below W 1)
    have HBF := Lib.hid (blockForm_any hSP hne HPI hp1.2.2)
    have hbm := block_most hne HPI
    have hbp : 0 < (blockP (part1 l x)).length := by rw [block_len]; omega
    have hol := outP_len HN.out.symm HL.out pre
    have hsum : (outP l pre).length + (blockP (part1 l x)).length ≤ 9000000 := by omega
    obtain ⟨i0, hi, hz0, hz1, hz2⟩ := infoOf info_u8
    have HI := Lib.hid hi; have HZ0 := Lib.hid hz0; have HZ1 := Lib.hid hz1; have HZ2 := Lib.hid hz2
    have HSUM := Lib.hid hsum
    have HV := Lib.hid hv; have HLB := Lib.hid hL; have HROW := Lib.hid hrow; have HBN := Lib.hid hbN; have HB := Lib.hid hB
    have HAFT : Hid (∀ (w5 : World) (v5 : Value), w5.ownsRow W.drew.heap.size 5 1 v5 (blockP (part1 l x)).length ((blockP (part1 l x)).map bV) → BW W.drew w5 →
        Hid (Boxed w5 (w.heap.size + 1) 23 v ∧ Boxed w5 w.heap.size 41 (.slice (some ⟨b0, o0, none⟩) n cap)) ∧ Hid (w5.ownsRow w.heap.size 5 1 v (outP l pre).length ((outP l pre).map bV)) ∧ Hid (KeepsOthers W w5 ∧ KpB (w.heap.size + 1 + 1) W w5 ∧ RowKit.Below w.heap.size w w5) ∧
        ∃ g5 c5, v5 = .slice (some ⟨g5, 0, none⟩) (blockP (part1 l x)).length c5 ∧ Hid (((blockP (part1 l x)).map bV).length = (blockP (part1 l x)).length * 1 ∧ (∀ j u, ((blockP (part1 l x)).map bV)[j]? = some u → w5.cell? ((⟨g5, 0, none⟩ : Addr).add j) = some u) ∧ (∀ u ∈ (blockP (part1 l x)).map bV, u.oneCell' = true) ∧ (outP l pre).length + (blockP (part1 l x)).length ≤ maxLen ∧ ((outP l pre).length + (blockP (part1 l x)).length) * 1 ≤ 140737488355328 ∧ w.heap.size ≤ w5.heap.size)) := by
      intro w5 v5 ho5 hb5
      have hb5' : BW W w5 := BW.trans (W := W.drew) (drewN_below W 1) hb5
      refine ⟨⟨(hb5'.block _ HV.out.lt).trans HV.out, (hb5'.block _ HLB.out.lt).trans HLB.out⟩, row_keep HROW.out (fun a n c e => hb5'.block _ (row_lt HROW.out e)), ⟨KeepsOthers.of_bw hb5', hb5'.block _ HBN.out.lt, HB.out.trans (hb5'.mono HB.out.size)⟩, ?_⟩
      obtain ⟨h1, h2 | ⟨g, cp, cur, hv', hg, hh, hn', hc', hcs', htk⟩⟩ := id ho5
      · exact absurd h2.2 (by omega)
      · refine ⟨g, cp, hv', bV_len _, fun j u hu => ?_, bV_one _, ?_, ?_, ?_⟩
        · obtain ⟨hj, he⟩ := List.getElem?_eq_some_iff.1 hu
          have := (row_cell ho5 hv' hj).1
          rw [he] at this
          by_cases e0 : j = 0
          · subst e0; simpa [Addr.add] using this
          · simpa [Addr.add, e0] using this
        · have := HSUM.out; unfold maxLen; omega
        · have := HSUM.out; omega
        · exact Nat.le_trans HB.out.size hb5'.size
    have HAFT6 : Hid (∀ (w5 : World) (v6 : Value) (w6 : World), (Boxed w5 (w.heap.size + 1) 23 v ∧ Boxed w5 w.heap.size 41 (.slice (some ⟨b0, o0, none⟩) n cap)) → (KeepsOthers W w5 ∧ KpB (w.heap.size + 1 + 1) W w5 ∧ RowKit.Below w.heap.size w w5) → w5.ownsRow w.heap.size 5 1 v (outP l pre).length ((outP l pre).map bV) →
        w6.ownsRow w.heap.size 5 1 v6 ((outP l pre).length + (blockP (part1 l x)).length) ((outP l pre).map bV ++ (blockP (part1 l x)).map bV) → w5.grownBy w6 v.ownBlock →
        Hid (Boxed w6 (w.heap.size + 1) 23 v ∧ Boxed w6 w.heap.size 41 (.slice (some ⟨b0, o0, none⟩) n cap)) ∧ Hid ((∀ BB, KeepsFrom BB W (w6.setCell ⟨w.heap.size + 1, 0, none⟩ v6)) ∧ KpB (w.heap.size + 1 + 1) W (w6.setCell ⟨w.heap.size + 1, 0, none⟩ v6) ∧ (((∃ v, Boxed (w6.setCell ⟨w.heap.size + 1, 0, none⟩ v6) (w.heap.size + 1) 23 v ∧ (w6.setCell ⟨w.heap.size + 1, 0, none⟩ v6).ownsRow w.heap.size 5 1 v (outP l (pre ++ [x])).length ((outP l (pre ++ [x])).map bV) ∧ True) ∧ Boxed (w6.setCell ⟨w.heap.size + 1, 0, none⟩ v6) w.heap.size 41 (.slice (some ⟨b0, o0, none⟩) n cap)) ∧ Boxed (w6.setCell ⟨w.heap.size + 1, 0, none⟩ v6) (w.heap.size + 1 + 1) 3 (.int .i64 (n : Int))) ∧ RowKit.Below w.heap.size w (w6.setCell ⟨w.heap.size + 1, 0, none⟩ v6))) := by
      intro w5 v6 w6 hc hk hr5 ho6 hg6
      have b1 : Boxed w6 (w.heap.size + 1) 23 v := hc.1.kept hg6 (hc.1.not_row (by decide) hr5)
      have b2 : Boxed w6 w.heap.size 41 (.slice (some ⟨b0, o0, none⟩) n cap) := hc.2.kept hg6 (hc.2.not_row (by decide) hr5)
      have b3 : Boxed w5 (w.heap.size + 1 + 1) 3 (.int .i64 (n : Int)) := (show w5.heap[w.heap.size + 1 + 1]? = _ from hk.2.1).trans HBN.out
      have b4 : Boxed w6 (w.heap.size + 1 + 1) 3 (.int .i64 (n : Int)) := b3.kept hg6 (b3.not_row (by decide) hr5)
      refine ⟨⟨b1, b2⟩, fun BB => ?_, ?_, ⟨⟨⟨_, b1.set v6, ?_, trivial⟩, b2.other (by omega) _⟩, b4.other (by omega) _⟩, ?_⟩
      · refine (KeepsOthers.trans (KeepsOthers.trans hk.1 (KeepsOthers.of_grownBy hg6 fun j o ej hj => ?_)) (KeepsOthers.setCell _ _ _)).from _
        rcases hr5.2 with ⟨rfl, _⟩ | ⟨g, cp, cur, rfl, _, hgb, _⟩
        · simp [Value.ownBlock] at ej
        · obtain rfl : g = j := by simpa [Value.ownBlock] using ej
          rw [hgb] at hj; cases hj; rfl
      · exact (b4.other (by omega) _ : Boxed _ _ _ _).trans HBN.out.symm
      · rw [outP_snoc, List.map_append, List.length_append]
        exact ho6.kept (grownBy_setCell' w6 _ v6) (.inr (b1.not_row (by decide) ho6).symm)
      · exact (hk.2.2.grown hg6 hk.2.2.size (row_own hr5)).setCell (p := ⟨w.heap.size + 1, 0, none⟩) (by simp) _
    clear hv hL hrow hbN hB hi hz0 hz1 hz2 hsum hbm hol hp1 HPI hne hSP hbp
    refine wpAny_take (i := 2) (v := .int .i64 (xa : Int)) rfl (by kernel_rfl) (by kernel_rfl) (by kernel_rfl) (fun _ _ _ h => h) (Or.inl ⟨by rfl, by intro w1; go_simp⟩) ?_
    try simp only [List.getElem_toArray, List.getElem_cons_zero, List.getElem_cons_succ, Act.put, List.setIfInBounds_toArray, List.set_cons_zero, List.set_cons_succ]
    refine wpAny_take (i := 3) (v := .int .i64 (xb : Int)) rfl (by kernel_rfl) (by kernel_rfl) (by kernel_rfl) (fun _ _ _ h => h) (Or.inl ⟨by rfl, by intro w1; go_simp⟩) ?_
    try simp only [List.getElem_toArray, List.getElem_cons_zero, List.getElem_cons_succ, Act.put, List.setIfInBounds_toArray, List.set_cons_zero, List.set_cons_succ]
    refine wpAny_ready (rs := [0, 1]) (by kernel_rfl) (by simp) ?_
    refine AllReady.cons rfl (fun K hK => ?_) (AllReady.cons rfl (fun K hK => ?_) AllReady.nil)
    · have HK := Lib.hid hK
      clear hK
      go_simp
      refine HK.out _ _ ?_
      clear HK K
      try simp only [List.getElem_toArray, List.getElem_cons_zero, List.getElem_cons_succ, Act.put, List.setIfInBounds_toArray, List.set_cons_zero, List.set_cons_succ]
      refine wpAny_ready (rs := [1]) (by kernel_rfl) (by simp) ?_
      refine AllReady.cons rfl (fun K hK => ?_) AllReady.nil
      have HK := Lib.hid hK
      clear hK
      go_simp
      refine HK.out _ _ ?_
      clear HK K
      try simp only [List.getElem_toArray, List.getElem_cons_zero, List.getElem_cons_succ, Act.put, List.setIfInBounds_toArray, List.set_cons_zero, List.set_cons_succ]
      refine wpAny_ready (rs := [4]) (by kernel_rfl) (by simp) ?_
      refine AllReady.cons rfl (fun K hK => ?_) AllReady.nil
      have HK := Lib.hid hK
      clear hK
      go_simp
      refine HK.out _ _ ?_
      clear HK K
      try simp only [List.getElem_toArray, List.getElem_cons_zero, List.getElem_cons_succ, Act.put, List.setIfInBounds_toArray, List.set_cons_zero, List.set_cons_succ]
      refine wpAny_ready (rs := [5]) (by kernel_rfl) (by simp) ?_
      refine AllReady.cons rfl (fun K hK => ?_) AllReady.nil
      have HK := Lib.hid hK
      clear hK
      go_simp
      refine HBF.out.mono ?_
      rintro e w5 ⟨v5, rfl, ho5, hb5⟩
      obtain ⟨HC5, HR5, HN5, g5, c5, rfl, HP5⟩ := HAFT.out w5 v5 ho5 hb5
      have c51 := HC5.out.1.cell
      have f51 := HC5.out.1.frozen
      clear ho5 hb5
      refine HK.out _ _ ?_
      clear HK K
      try simp only [List.getElem_toArray, List.getElem_cons_zero, List.getElem_cons_succ, Act.put, List.setIfInBounds_toArray, List.set_cons_zero, List.set_cons_succ]
      refine wpAny_ready (rs := [6]) (by kernel_rfl) (by simp) ?_
      refine AllReady.cons rfl (fun K hK => ?_) AllReady.nil
      have HK := Lib.hid hK
      clear hK
      refine step_append_own rfl _ _ 23 rfl w.heap.size 5 i0 (.int .u8 0) 1 1 Try.underlying23 HI.out HZ0.out HZ1.out HZ2.out rfl (by decide) v _ _ rfl HR5.out ⟨g5, 0, none⟩ _ c5 _ rfl HP5.out.1 HP5.out.2.1 HP5.out.2.2.1 HP5.out.2.2.2.1 HP5.out.2.2.2.2.1 HP5.out.2.2.2.2.2 ?_
      intro v6 w6 ho6 hg6
      obtain ⟨HC6, HE6⟩ := HAFT6.out w5 v6 w6 HC5.out HN5.out HR5.out ho6 hg6
      have c61 := HC6.out.1.cell
      have f61 := HC6.out.1.frozen
      obtain ⟨o6, n6, c6, rfl⟩ := row_form ho6
      clear ho6 hg6 c51 f51
      refine HK.out _ _ ?_
      clear HK K
      try simp only [List.getElem_toArray, List.getElem_cons_zero, List.getElem_cons_succ, Act.put, List.setIfInBounds_toArray, List.set_cons_zero, List.set_cons_succ]
      refine wpAny_ready (rs := [7]) (by kernel_rfl) (by simp) ?_
      refine AllReady.cons rfl (fun K hK => ?_) AllReady.nil
      have HK := Lib.hid hK
      clear hK
      go_simp
      refine HK.out _ _ ?_
      clear HK K
      refine wpAny_done (by kernel_rfl) ?_ _
      exact ⟨HE6.out.1 _, HE6.out.2⟩
    · have HK := Lib.hid hK
      clear hK
      go_simp
      refine HK.out _ _ ?_
      clear HK K
      try simp only [List.getElem_toArray, List.getElem_cons_zero, List.getElem_cons_succ, Act.put, List.setIfInBounds_toArray, List.set_cons_zero, List.set_cons_succ]
      refine wpAny_ready (rs := [0, 4]) (by kernel_rfl) (by simp) ?_
      refine AllReady.cons rfl (fun K hK => ?_) (AllReady.cons rfl (fun K hK => ?_) AllReady.nil)
      · have HK := Lib.hid hK
        clear hK
        go_simp
        refine HK.out _ _ ?_
        clear HK K
        try simp only [List.getElem_toArray, List.getElem_cons_zero, List.getElem_cons_succ, Act.put, List.setIfInBounds_toArray, List.set_cons_zero, List.set_cons_succ]
        refine wpAny_ready (rs := [4]) (by kernel_rfl) (by simp) ?_
        refine AllReady.cons rfl (fun K hK => ?_) AllReady.nil
        have HK := Lib.hid hK
        clear hK
        go_simp
        refine HK.out _ _ ?_
        clear HK K
        try simp only [List.getElem_toArray, List.getElem_cons_zero, List.getElem_cons_succ, Act.put, List.setIfInBounds_toArray, List.set_cons_zero, List.set_cons_succ]
        refine wpAny_ready (rs := [5]) (by kernel_rfl) (by simp) ?_
        refine AllReady.cons rfl (fun K hK => ?_) AllReady.nil
        have HK := Lib.hid hK
        clear hK
        go_simp
        refine HBF.out.mono ?_
        rintro e w5 ⟨v5, rfl, ho5, hb5⟩
        obtain ⟨HC5, HR5, HN5, g5, c5, rfl, HP5⟩ := HAFT.out w5 v5 ho5 hb5
        have c51 := HC5.out.1.cell
        have f51 := HC5.out.1.frozen
        clear ho5 hb5
        refine HK.out _ _ ?_
        clear HK K
        try simp only [List.getElem_toArray, List.getElem_cons_zero, List.getElem_cons_succ, Act.put, List.setIfInBounds_toArray, List.set_cons_zero, List.set_cons_succ]
        refine wpAny_ready (rs := [6]) (by kernel_rfl) (by simp) ?_
        refine AllReady.cons rfl (fun K hK => ?_) AllReady.nil
        have HK := Lib.hid hK
        clear hK
        refine step_append_own rfl _ _ 23 rfl w.heap.size 5 i0 (.int .u8 0) 1 1 Try.underlying23 HI.out HZ0.out HZ1.out HZ2.out rfl (by decide) v _ _ rfl HR5.out ⟨g5, 0, none⟩ _ c5 _ rfl HP5.out.1 HP5.out.2.1 HP5.out.2.2.1 HP5.out.2.2.2.1 HP5.out.2.2.2.2.1 HP5.out.2.2.2.2.2 ?_
        intro v6 w6 ho6 hg6
        obtain ⟨HC6, HE6⟩ := HAFT6.out w5 v6 w6 HC5.out HN5.out HR5.out ho6 hg6
        have c61 := HC6.out.1.cell
        have f61 := HC6.out.1.frozen
        obtain ⟨o6, n6, c6, rfl⟩ := row_form ho6
        clear ho6 hg6 c51 f51
        refine HK.out _ _ ?_
        clear HK K
        try simp only [List.getElem_toArray, List.getElem_cons_zero, List.getElem_cons_succ, Act.put, List.setIfInBounds_toArray, List.set_cons_zero, List.set_cons_succ]
        refine wpAny_ready (rs := [7]) (by kernel_rfl) (by simp) ?_
        refine AllReady.cons rfl (fun K hK => ?_) AllReady.nil
        have HK := Lib.hid hK
        clear hK
        go_simp
        refine HK.out _ _ ?_
        clear HK K
        refine wpAny_done (by kernel_rfl) ?_ _
        exact ⟨HE6.out.1 _, HE6.out.2⟩
      · have HK := Lib.hid hK
        clear hK
        go_simp
        refine HK.out _ _ ?_
        clear HK K
        try simp only [List.getElem_toArray, List.getElem_cons_zero, List.getElem_cons_succ, Act.put, List.setIfInBounds_toArray, List.set_cons_zero, List.set_cons_succ]
        refine wpAny_ready (rs := [0, 5]) (by kernel_rfl) (by simp) ?_
        refine AllReady.cons rfl (fun K hK => ?_) (AllReady.cons rfl (fun K hK => ?_) AllReady.nil)
        · have HK := Lib.hid hK
          clear hK
          go_simp
          refine HK.out _ _ ?_
          clear HK K
          try simp only [List.getElem_toArray, List.getElem_cons_zero, List.getElem_cons_succ, Act.put, List.setIfInBounds_toArray, List.set_cons_zero, List.set_cons_succ]
          refine wpAny_ready (rs := [5]) (by kernel_rfl) (by simp) ?_
          refine AllReady.cons rfl (fun K hK => ?_) AllReady.nil
          have HK := Lib.hid hK
          clear hK
          go_simp
          refine HBF.out.mono ?_
          rintro e w5 ⟨v5, rfl, ho5, hb5⟩
          obtain ⟨HC5, HR5, HN5, g5, c5, rfl, HP5⟩ := HAFT.out w5 v5 ho5 hb5
          have c51 := HC5.out.1.cell
          have f51 := HC5.out.1.frozen
          clear ho5 hb5
          refine HK.out _ _ ?_
          clear HK K
          try simp only [List.getElem_toArray, List.getElem_cons_zero, List.getElem_cons_succ, Act.put, List.setIfInBounds_toArray, List.set_cons_zero, List.set_cons_succ]
          refine wpAny_ready (rs := [6]) (by kernel_rfl) (by simp) ?_
          refine AllReady.cons rfl (fun K hK => ?_) AllReady.nil
          have HK := Lib.hid hK
          clear hK
          refine step_append_own rfl _ _ 23 rfl w.heap.size 5 i0 (.int .u8 0) 1 1 Try.underlying23 HI.out HZ0.out HZ1.out HZ2.out rfl (by decide) v _ _ rfl HR5.out ⟨g5, 0, none⟩ _ c5 _ rfl HP5.out.1 HP5.out.2.1 HP5.out.2.2.1 HP5.out.2.2.2.1 HP5.out.2.2.2.2.1 HP5.out.2.2.2.2.2 ?_
          intro v6 w6 ho6 hg6
          obtain ⟨HC6, HE6⟩ := HAFT6.out w5 v6 w6 HC5.out HN5.out HR5.out ho6 hg6
          have c61 := HC6.out.1.cell
          have f61 := HC6.out.1.frozen
          obtain ⟨o6, n6, c6, rfl⟩ := row_form ho6
          clear ho6 hg6 c51 f51
          refine HK.out _ _ ?_
          clear HK K
          try simp only [List.getElem_toArray, List.getElem_cons_zero, List.getElem_cons_succ, Act.put, List.setIfInBounds_toArray, List.set_cons_zero, List.set_cons_succ]
          refine wpAny_ready (rs := [7]) (by kernel_rfl) (by simp) ?_
          refine AllReady.cons rfl (fun K hK => ?_) AllReady.nil
          have HK := Lib.hid hK
          clear hK
          go_simp
          refine HK.out _ _ ?_
          clear HK K
          refine wpAny_done (by kernel_rfl) ?_ _
          exact ⟨HE6.out.1 _, HE6.out.2⟩
        · have HK := Lib.hid hK
          clear hK
          go_simp
          refine HBF.out.mono ?_
          rintro e w5 ⟨v5, rfl, ho5, hb5⟩
          obtain ⟨HC5, HR5, HN5, g5, c5, rfl, HP5⟩ := HAFT.out w5 v5 ho5 hb5
          have c51 := HC5.out.1.cell
          have f51 := HC5.out.1.frozen
          clear ho5 hb5
          refine HK.out _ _ ?_
          clear HK K
          try simp only [List.getElem_toArray, List.getElem_cons_zero, List.getElem_cons_succ, Act.put, List.setIfInBounds_toArray, List.set_cons_zero, List.set_cons_succ]
          refine wpAny_ready (rs := [0]) (by kernel_rfl) (by simp) ?_
          refine AllReady.cons rfl (fun K hK => ?_) AllReady.nil
          have HK := Lib.hid hK
          clear hK
          go_simp
          refine HK.out _ _ ?_
          clear HK K
          try simp only [List.getElem_toArray, List.getElem_cons_zero, List.getElem_cons_succ, Act.put, List.setIfInBounds_toArray, List.set_cons_zero, List.set_cons_succ]
          refine wpAny_ready (rs := [6]) (by kernel_rfl) (by simp) ?_
          refine AllReady.cons rfl (fun K hK => ?_) AllReady.nil
          have HK := Lib.hid hK
          clear hK
          refine step_append_own rfl _ _ 23 rfl w.heap.size 5 i0 (.int .u8 0) 1 1 Try.underlying23 HI.out HZ0.out HZ1.out HZ2.out rfl (by decide) v _ _ rfl HR5.out ⟨g5, 0, none⟩ _ c5 _ rfl HP5.out.1 HP5.out.2.1 HP5.out.2.2.1 HP5.out.2.2.2.1 HP5.out.2.2.2.2.1 HP5.out.2.2.2.2.2 ?_
          intro v6 w6 ho6 hg6
          obtain ⟨HC6, HE6⟩ := HAFT6.out w5 v6 w6 HC5.out HN5.out HR5.out ho6 hg6
          have c61 := HC6.out.1.cell
          have f61 := HC6.out.1.frozen
          obtain ⟨o6, n6, c6, rfl⟩ := row_form ho6
          clear ho6 hg6 c51 f51
          refine HK.out _ _ ?_
          clear HK K
          try simp only [List.getElem_toArray, List.getElem_cons_zero, List.getElem_cons_succ, Act.put, List.setIfInBounds_toArray, List.set_cons_zero, List.set_cons_succ]
          refine wpAny_ready (rs := [7]) (by kernel_rfl) (by simp) ?_
          refine AllReady.cons rfl (fun K hK => ?_) AllReady.nil
          have HK := Lib.hid hK
          clear hK
          go_simp
          refine HK.out _ _ ?_
          clear HK K
          refine wpAny_done (by kernel_rfl) ?_ _
          exact ⟨HE6.out.1 _, HE6.out.2⟩
  case done =>
    rintro D ys W hD rfl ⟨⟨⟨⟨v, hv, hrow, _⟩, hL⟩, hbN⟩, hB⟩ hK
    have hc := hv.cell
    have hrow2 : W.ownsRow w.heap.size 5 1 v (putP l).length ((putP l).map bV) := by rw [← outP_all (n := n) HN.out.symm]; exact hrow
    have HROW2 := Lib.hid hrow2
    clear hrow hrow2
    gi_wp2
    refine ⟨by simp, .inl ⟨_, _, rfl, run_takeDeferred hK, ?_⟩⟩
    exact ⟨_, results_tmp rfl _ _ _, v, rfl, ownsRow_putObj HROW2.out _ hK rfl, hB.trans (belowK_b (w := w) (Nat.le_refl _) W D _ _ (by simp at hD; omega) hK rfl rfl)⟩
  case stop =>
    rintro D c pre W _ _ h _
    exact h.elim
end Go.Proofs.Ytdoliejihinpkaa
