/- put and Append: bytes behind a file's. -/
import Derived.Test.YtjiklpoggpdngaaVfsJ
import Derived.Deep.RegionLaw
namespace Go.Proofs.Ytjiklpoggpdngaa
open Go.RowKit Go.Maps

/-- a row of bytes that can be read -/
def ByteSrc (w : World) (v : Value) (bs : List UInt8) : Prop :=
  (v = .slice none 0 0 ∧ bs = []) ∨ ∃ a c, v = .slice (some a) bs.length c ∧ bs.length ≤ c ∧ c ≤ maxLen ∧ ∀ j u, (bs.map bV)[j]? = some u → w.cell? (a.add j) = some u

theorem bV_one (l : List UInt8) : ∀ u ∈ l.map bV, u.oneCell' = true := by
  intro u hu
  obtain ⟨c, _, rfl⟩ := List.mem_map.1 hu
  rfl

theorem step_append_role {P : Program} {ops : Array Oper} {o : Oper} {a : Act} {w : World} {K : Act → World → Prop} {Q : Exit → Act → World → Prop} {E : Prop}
    (hg : o.guard = none) (s x : Operand) (t : TypeId) (hop : o.op = Op.call { callee := Callee.builtin Builtin.append, args := #[s, x], argTypes := #[t, t] })
    (e : TypeId) (i : TypeInfo) (z : Value) (size bytes : Nat) (ht : P.underlying t = some (.slice e)) (hi : P.info? e = some i) (hz : i.zero = some z)
    (hsize : i.size = size) (hby : i.bytes = bytes) (hzs : z.cells.size = size) (hsz : 0 < size)
    (v : Value) (n : Nat) (xs : List Value) (hs : a.eval s = v) (hown : w.ownsRow 0 e size v n xs)
    (ad : Addr) (m c : Nat) (news : List Value) (hx : a.eval x = .slice (some ad) m c) (hl : news.length = m * size) (hnews : ∀ j u, news[j]? = some u → w.cell? (ad.add j) = some u) (h1 : ∀ u ∈ news, u.oneCell' = true)
    (h63 : n + m ≤ maxLen) (hbytes : (n + m) * bytes ≤ 140737488355328)
    (hK : ∀ v' w', w'.ownsRow 0 e size v' (n + m) (xs ++ news) → w.grownBy w' v.ownBlock → SameOrNew v v' w.heap.size → K (a.put o.dst v') w') :
    if Region.wanted o (yielded ops a.tmps) = true then Oper.wp P o a w K Q else E := by
  have hw : Region.wanted o (yielded ops a.tmps) = true := by simp [Region.wanted, hg]
  rw [if_pos hw]
  obtain ⟨v', w', hrun, r1, r2, r3⟩ := run_append_role (P := P) w t o.type e i z size bytes ht hi hz hsize hby hzs hsz v n xs hown ad m c news hl hnews h1 h63 hbytes
  unfold Oper.wp
  simp [execOp, hop, resolve, invoke, builtin, hs, hx, hrun, Result.andThen]
  exact hK v' w' r1 r2 r3

theorem step_append_none {P : Program} {ops : Array Oper} {o : Oper} {a : Act} {w : World} {K : Act → World → Prop} {Q : Exit → Act → World → Prop} {E : Prop}
    (hg : o.guard = none) (s x : Operand) (t : TypeId) (hop : o.op = Op.call { callee := Callee.builtin Builtin.append, args := #[s, x], argTypes := #[t, t] })
    (e : TypeId) (i : TypeInfo) (size : Nat) (ht : P.underlying t = some (.slice e)) (hi : P.info? e = some i) (v : Value) (n : Nat) (xs : List Value) (hs : a.eval s = v) (hown : w.ownsRow 0 e size v n xs) (hx : a.eval x = .slice none 0 0)
    (hK : K (a.put o.dst v) w) : if Region.wanted o (yielded ops a.tmps) = true then Oper.wp P o a w K Q else E := by
  have hw : Region.wanted o (yielded ops a.tmps) = true := by simp [Region.wanted, hg]
  rw [if_pos hw]
  have hrun := run_append_owned_none (P := P) (w := w) 0 t o.type e i size ht hi v n xs hown
  unfold Oper.wp
  simp [execOp, hop, resolve, invoke, builtin, hs, hx, hrun, Result.andThen]
  exact hK

def opPut (S : DS) (n : Nm) (bs : List UInt8) (k : Nat) : Int × DS :=
  match aget S.now n with
  | none => (10, S)
  | some f => if 16777216 - ((S.fs f).1.length : Int) < (bs.length : Int) then (3, S) else (0, { S with fs := upd S.fs f ((S.fs f).1 ++ bs.take k, (S.fs f).2) })

open Classical in
noncomputable def roleRow (role : Nat → Role) (f : Nat) (v : Value) (b : Nat) : Role := if v.ownBlock = some b then .row f else role b

/-- behind an append to a file's bytes -/
theorem put_world {w w2 : World} {d : Nat} {g : Gh} {S : DS} (h : Rep w d g S) {f : Nat} (k : Known w g S f) (v' : Value) (news : List UInt8) (hlen : (S.fs f).1.length + news.length ≤ 16777216)
    (hgr : w.grownBy w2 (g.fv f).ownBlock) (hrow : w2.ownsRow 0 5 1 v' ((S.fs f).1.length + news.length) ((S.fs f).1.map bV ++ news.map bV)) (hsn : SameOrNew (g.fv f) v' w.heap.size) :
    Step w (w2.setCell ⟨f, 0, none⟩ v') d g { S with fs := upd S.fs f ((S.fs f).1 ++ news, (S.fs f).2) } := by
  have hfl := lt_of_heap k.rep.blk
  have hs3 : (w2.setCell ⟨f, 0, none⟩ v').heap.size = w2.heap.size := by simp [World.setCell]
  have hs2 := hgr.size
  have hfv : ∀ b, (g.fv f).ownBlock = some b → g.role b = .row f := by
    intro b hb
    obtain ⟨a, n, c, e1, e2⟩ := own_some hb
    rw [← e2]; exact k.rep.rol a n c e1
  have hv' : ∀ b, v'.ownBlock = some b → g.role b = .row f ∨ w.heap.size ≤ b := by
    intro b hb
    obtain ⟨a, n, c, e1, e2⟩ := own_some hb
    rcases hsn a n c e1 with ⟨a', n', c', e3, e4⟩ | e3
    · left; rw [← e2, ← e4]; exact k.rep.rol _ _ _ e3
    · right; omega
  have hro : ∀ b, g.role b ≠ .no → roleRow g.role f v' b = g.role b := by
    intro b hb
    unfold roleRow
    split
    · rename_i e
      rcases hv' b e with e2 | e2
      · exact e2.symm
      · have := h.lt b hb; omega
    · rfl
  have fne : v'.ownBlock ≠ some f := by
    intro e
    rcases hv' f e with e2 | e2
    · rw [k.role] at e2; cases e2
    · omega
  have fne2 : (g.fv f).ownBlock ≠ some f := by intro e; have := hfv f e; rw [k.role] at this; cases this
  have hblk2 : w2.heap[f]? = some (.cells #[g.fv f, .int .i64 ((S.fs f).2 : Int)] 85 (0, 0)) := by
    rw [hgr.block f hfl (fun e => fne2 e.symm)]; exact k.rep.blk
  have hrep := h.fileTurn (w' := w2.setCell ⟨f, 0, none⟩ v') k.role (roleRow g.role f v') v' ((S.fs f).1 ++ news, (S.fs f).2) (by omega) hro ?_ ?_ ?_
  · refine ⟨_, hrep, ?_, ?_⟩
    · intro b hb
      show roleRow g.role f v' b = g.role b
      unfold roleRow
      split
      · rename_i e
        rcases hv' b e with e2 | e2
        · exact e2.symm
        · omega
      · rfl
    · refine ((Moves.refl _ w).grown hgr ?_).setCell ?_ _
      · intro b e _; unfold Own; rw [hfv b e]; simp
      · intro _; unfold Own; show g.role f ≠ _; rw [k.role]; simp
  · intro b e1 e2
    have e3 : v'.ownBlock = some b := by
      apply Classical.byContradiction
      intro e
      apply e2
      unfold roleRow
      rw [if_neg e]; exact e1
    obtain ⟨a, n, c, e4, e5⟩ := own_some e3
    refine ⟨by unfold roleRow; rw [if_pos e3], ?_⟩
    rw [hs3, ← e5]; exact row_lt hrow e4
  · intro b h0 h1 h2
    rw [Below.heap_setCell _ _ _ _ h1, hgr.block b (h.lt b h0) (fun e => h2 (hfv b e.symm))]
  · refine ⟨?_, ?_, ?_, ?_, ?_⟩
    · simp only [upd_same]; exact heap_set hblk2 v'
    · simp only [upd_same, List.length_append, List.map_append]
      refine row_keep hrow fun a n c e => Below.heap_setCell _ _ _ _ ?_
      intro e2
      exact fne (by rw [e]; show some a.block = some f; rw [show a.block = f from e2])
    · intro a n c e
      simp only [upd_same] at e
      show roleRow g.role f v' a.block = .row f
      unfold roleRow
      rw [if_pos (by rw [e]; rfl)]
    · simp only [upd_same, List.length_append]; have := k.rep.syn; omega
    · simp only [upd_same, List.length_append]; exact hlen

def PutPost (w : World) (d : Nat) (g : Gh) (r : Int) (S' : DS) (e : Ending) (w' : World) : Prop := e = .returned (.int .i64 r) ∧ Step w w' d g S'

set_option maxHeartbeats 2000000 in
set_option maxRecDepth 100000 in
theorem put_any {w : World} {d : Nat} {g : Gh} {S : DS} (h : Rep w d g S) (s : ByteArray) (hs : s.size ≤ maxLen) (b : Value) (bs : List UInt8) (hb : ByteSrc w b bs) (k : Nat) (hk : k ≤ bs.length) (hbs : (bs.length : Int) ≤ 140737488351232) :
    Calls Try.prog 70 #[ptr d, .string s, b, .int .i64 (k : Int)] w (MPost w d g (opPut S s.data.toList bs k).1 (opPut S s.data.toList bs k).2) := by
  have HH := Lib.hid h
  have HS := Lib.hid hs
  have c0 : w.cell? ⟨d, 0, none⟩ = some (.map (some g.nb)) := cell_of h.dir rfl
  have hl := look_run h.now hs
  obtain ⟨bo, bn, bc, hbv⟩ : ∃ bo bn bc, b = .slice bo bn bc := by
    rcases hb with ⟨e, _⟩ | ⟨a, c, e, _⟩
    · exact ⟨_, _, _, e⟩
    · exact ⟨_, _, _, e⟩
  have hbn : bn = bs.length := by
    rcases hb with ⟨e, e2⟩ | ⟨a, c, e, _⟩
    · rw [hbv] at e; cases e; rw [e2]; rfl
    · rw [hbv] at e; cases e; rfl
  subst hbn
  subst hbv
  unfold ptr
  cases hg : aget S.now s.data.toList with
  | none =>
    have HO : Hid (opPut S s.data.toList bs k = (10, S)) := by unfold Hid opPut; rw [hg]
    rw [hg] at hl
    unfold fileV at hl
    clear h hs hg hb
    go_enter Try.func70, Try.ntmps70
    go_wp2
    go_ret
    exact ⟨by rw [HO.out]; rfl, by rw [HO.out]; exact Step.of HH.out (Moves.refl _ _)⟩
  | some f =>
    have hkn := h.known hg
    rw [hg] at hl
    obtain ⟨ao, nn, cc, hfv⟩ := row_form hkn.rep.row
    have hlen : nn = (S.fs f).1.length := row_len hkn.rep.row hfv
    subst hlen
    have cf0 : w.cell? ⟨f, 0, none⟩ = some (.slice ao (S.fs f).1.length cc) := (cell_of hkn.rep.blk rfl).trans (congrArg some hfv)
    have ff0 : w.frozen? ⟨f, 0, none⟩ = false := unfrozen_of hkn.rep.blk
    have hmax := hkn.rep.len
    by_cases hbig : 16777216 - ((S.fs f).1.length : Int) < (bs.length : Int)
    · have HO : Hid (opPut S s.data.toList bs k = (3, S)) := by unfold Hid opPut; rw [hg]; simp only; rw [if_pos hbig]
      unfold fileV ptr at hl
      clear h hs hg hb hkn hfv
      go_enter Try.func70, Try.ntmps70
      go_wp2
      go_ret
      exact ⟨by rw [HO.out]; rfl, by rw [HO.out]; exact Step.of HH.out (Moves.refl _ _)⟩
    · have HO : Hid (opPut S s.data.toList bs k = (0, { S with fs := upd S.fs f ((S.fs f).1 ++ bs.take k, (S.fs f).2) })) := by unfold Hid opPut; rw [hg]; simp only; rw [if_neg hbig]
      unfold fileV ptr at hl
      have hkb : (k : Int) ≤ bs.length := by omega
      cases bo with
      | none =>
        have hbs0 : bs = [] := by
          rcases hb with ⟨_, e2⟩ | ⟨a, c, e, _⟩
          · exact e2
          · cases e
        have hbc0 : bc = 0 := by
          rcases hb with ⟨e, _⟩ | ⟨a, c, e, _⟩
          · injection e
          · cases e
        subst hbs0
        subst hbc0
        have hk0 : k = 0 := by simpa using hk
        subst hk0
        obtain ⟨i0, hi, hz0, hz1, hz2⟩ := infoOf info_u8
        have HI := Lib.hid hi
        have HROW : Hid (w.drew.ownsRow 0 5 1 (.slice ao (S.fs f).1.length cc) (S.fs f).1.length ((S.fs f).1.map bV)) := by have h1 := hkn.rep.row; rw [hfv] at h1; exact h1
        have HST : Hid (Step w (w.drew.setCell ⟨f, 0, none⟩ (.slice ao (S.fs f).1.length cc)) d g { S with fs := upd S.fs f ((S.fs f).1 ++ ([] : List UInt8).take 0, (S.fs f).2) }) := by
          have hkd : Known w.drew g S f := ⟨hkn.role, hkn.rep.keep rfl (fun _ e => ⟨rfl, e⟩) rfl rfl⟩
          have := (put_world (h.drewN 1) hkd (g.fv f) [] (by simpa using hmax) (World.grownBy.refl _ _) (by have h5 := hkd.rep.row; simp only [List.map_nil, List.append_nil]; exact h5) (SameOrNew.refl _ _)).after ((Moves.refl _ w).drewN 1)
          rw [hfv] at this
          exact this
        clear h hs hg hb hkn hfv hi hz0 hz1 hz2 hk hbs hkb hbig
        go_enter Try.func70, Try.ntmps70
        go_wp2
        go_region_law (refine step_append_none rfl _ _ 30 rfl 5 i0 1 Try.underlying30 HI.out (.slice ao (S.fs f).1.length cc) (S.fs f).1.length ((S.fs f).1.map bV) rfl HROW.out rfl ?_)
        all_goals
          go_wp2
          go_ret
          exact ⟨by rw [HO.out]; rfl, by rw [HO.out]; exact HST.out⟩
      | some ba =>
        obtain ⟨hbc, hbm, hbcell⟩ : bs.length ≤ bc ∧ bc ≤ maxLen ∧ ∀ j u, (bs.map bV)[j]? = some u → w.cell? (ba.add j) = some u := by
          rcases hb with ⟨e, _⟩ | ⟨a, c, e, h1, h2, h3⟩
          · cases e
          · cases e; exact ⟨h1, h2, h3⟩
        unfold maxLen at hbm
        have HBC := Lib.hid hbcell
        have HKN := Lib.hid hkn
        have HFV := Lib.hid hfv
        obtain ⟨i0, hi, hz0, hz1, hz2⟩ := infoOf info_u8
        have HI := Lib.hid hi; have HZ0 := Lib.hid hz0; have HZ1 := Lib.hid hz1; have HZ2 := Lib.hid hz2
        have HROW : Hid (w.drew.ownsRow 0 5 1 (.slice ao (S.fs f).1.length cc) (S.fs f).1.length ((S.fs f).1.map bV)) := by have h1 := hkn.rep.row; rw [hfv] at h1; exact h1
        have HL : Hid (((bs.take k).map bV).length = k * 1) := by unfold Hid; rw [List.length_map, List.length_take]; omega
        have HN : Hid (∀ j u, ((bs.take k).map bV)[j]? = some u → w.drew.cell? (ba.add j) = some u) := by
          intro j u hu
          refine hbcell j u ?_
          rw [List.map_take, List.getElem?_take] at hu
          split at hu
          · exact hu
          · cases hu
        have HM1 : Hid ((S.fs f).1.length + k ≤ maxLen) := by unfold Hid maxLen; omega
        have HM2 : Hid (((S.fs f).1.length + k) * 1 ≤ 140737488355328) := by unfold Hid; omega
        have HFL : Hid (f < w.drew.heap.size) := lt_of_heap hkn.rep.blk
        have HFO : Hid (some f ≠ (Value.slice ao (S.fs f).1.length cc).ownBlock) := by
          intro e
          rw [← hfv] at e
          obtain ⟨a, n, c, e1, e2⟩ := own_some e.symm
          have e3 := hkn.rep.rol a n c e1
          rw [e2, hkn.role] at e3; cases e3
        have HPW : Hid (∀ (v' : Value) (w2 : World), w.drew.grownBy w2 (Value.slice ao (S.fs f).1.length cc).ownBlock → w2.ownsRow 0 5 1 v' ((S.fs f).1.length + k) ((S.fs f).1.map bV ++ (bs.take k).map bV) → SameOrNew (.slice ao (S.fs f).1.length cc) v' w.drew.heap.size →
            Step w (w2.setCell ⟨f, 0, none⟩ v') d g { S with fs := upd S.fs f ((S.fs f).1 ++ bs.take k, (S.fs f).2) }) := by
          intro v' w2 h1 h2 h3
          have hlt : (bs.take k).length = k := by rw [List.length_take]; omega
          rw [← hfv] at h1 h3
          have hkd : Known w.drew g S f := ⟨hkn.role, hkn.rep.keep rfl (fun _ e => ⟨rfl, e⟩) rfl rfl⟩
          exact (put_world (h.drewN 1) hkd v' (bs.take k) (by rw [hlt]; omega) h1 (by rw [hlt]; exact h2) h3).after ((Moves.refl _ w).drewN 1)
        have hbi : ((bs.length : Nat) : Int) ≤ (bc : Int) := by omega
        have hkc : k ≤ bc := by omega
        have hbm2 : (bc : Int) ≤ 9223372036854775807 := by omega
        clear h hs hg hb hkn hfv hbcell hi hz0 hz1 hz2
        go_enter Try.func70, Try.ntmps70
        go_wp2
        go_region_law (refine step_append_role rfl _ _ 30 rfl 5 i0 (.int .u8 0) 1 1 Try.underlying30 HI.out HZ0.out HZ1.out HZ2.out rfl (by decide) (.slice ao (S.fs f).1.length cc) (S.fs f).1.length ((S.fs f).1.map bV) rfl HROW.out ba k bc ((bs.take k).map bV) rfl HL.out HN.out (bV_one _) HM1.out HM2.out ?_; intro v' w' hown hgr hsn; obtain ⟨vo, vn, vc, rfl⟩ := row_form hown; have hb2 := (hgr.block f HFL.out HFO.out).trans HKN.out.rep.blk; have cf2 : w'.cell? ⟨f, 0, none⟩ = some (g.fv f) := cell_of hb2 rfl; have ff2 : w'.frozen? ⟨f, 0, none⟩ = false := unfrozen_of hb2; have HST := Lib.hid (HPW.out _ w' hgr hown hsn); clear hown hgr hsn hb2)
        all_goals
          go_wp2
          go_ret
          exact ⟨by rw [HO.out]; rfl, by rw [HO.out]; exact HST.out⟩

end Go.Proofs.Ytjiklpoggpdngaa
