/- The document's Runes, Fold. -/
import Derived.Test.YtljjaepadnmmeaaDoorFldD
import Derived.Laws.OwnMore
namespace Go.Proofs.YtljjaepadnmmeaaDoor
open Go.RowKit Go.Maps Fld

theorem strCells_bV (s : ByteArray) : Lib.strCells s = s.data.toList.map bV := by
  first | rfl | simp [Lib.strCells, bV]
theorem append_text {w : World} {ops : Array Oper} {rest : List Oper} {o : Oper} {a : Act} {Q : Exit → Act → World → Prop} (hgd : o.guard = none) (s x : Operand)
    (ho : o.op = .call { callee := .builtin .append, args := #[s, x], argTypes := #[71, 9] }) (base : Nat) (v : Value) (n : Nat) (xs : List UInt8) (hs : a.eval s = v) (hown : w.ownsRow base 5 1 v n (xs.map bV))
    (t : ByteArray) (hx : a.eval x = .string t) (hb : n + t.size ≤ 140737488355328) (hbase : base ≤ w.heap.size)
    (h : ∀ v' w', w'.ownsRow base 5 1 v' (n + t.size) ((xs ++ t.data.toList).map bV) → w.grownBy w' v.ownBlock → wpList Tryd.prog ops Q rest (a.put o.dst v') w') : wpList Tryd.prog ops Q (o :: rest) a w := by
  obtain ⟨i0, hi, hz0, hz1, hz2⟩ := infoOf info_u8
  refine Lib.wpList_append_own_string w hgd s x 71 9 ho base 5 i0 Tryd.underlying71 Tryd.underlying9 hi hz0 hz1 hz2 v n _ hs hown t hx (by unfold maxLen; omega) hb hbase ?_
  intro v' w' g1 g2 _
  rw [strCells_bV, ← List.map_append] at g1
  exact h v' w' g1 g2
theorem append_cells {e t : TypeId} {z : Value} {bytes : Nat} (hu : Tryd.prog.underlying t = some (.slice e)) (hinfo : (Tryd.prog.info? e).map (fun i => (i.zero, i.size, i.bytes)) = some (some z, 1, bytes)) (hzc : z.cells.size = 1)
    {w : World} {ops : Array Oper} {rest : List Oper} {o : Oper} {a : Act} {Q : Exit → Act → World → Prop} (hgd : o.guard = none) (s x : Operand)
    (ho : o.op = .call { callee := .builtin .append, args := #[s, x], argTypes := #[t, t] }) (base : Nat) (v : Value) (n : Nat) (xs : List Value) (hs : a.eval s = v) (hown : w.ownsRow base e 1 v n xs)
    (xv : Value) (hx : a.eval x = xv) (u : Value) (hsrc : Src w xv [u]) (hone : u.oneCell' = true) (hb : (n + 1) * bytes ≤ 140737488355328) (hb2 : n + 1 ≤ 1000000000000) (hbase : base ≤ w.heap.size)
    (h : ∀ v' w', w'.ownsRow base e 1 v' (n + 1) (xs ++ [u]) → w.grownBy w' v.ownBlock → wpList Tryd.prog ops Q rest (a.put o.dst v') w') : wpList Tryd.prog ops Q (o :: rest) a w := by
  obtain ⟨i0, hi, hz0, hz1, hz2⟩ := infoOf hinfo
  rcases hsrc with ⟨ao, cap, hv, hxs, hz, _⟩ | ⟨b, off, cap, hv, _, _, _, h4⟩
  · cases hxs
  · rw [hv] at hx
    refine wpList_append_own w hgd s x t ho base e i0 z 1 bytes hu hi hz0 hz1 hz2 hzc (by decide) v n _ hs hown ⟨b, off, none⟩ 1 cap [u] hx (by simp) (fun j u hu => by rw [addOff]; exact h4 j u hu) (fun y hy => by rw [List.mem_singleton.1 hy]; exact hone) (by unfold maxLen; omega) hb hbase ?_
    intro v' w' g1 g2 _
    exact h v' w' g1 g2
theorem refLowN_any (r : Nat) (w : World) : Calls Tryd.prog 70 #[.int .i32 (r : Int)] w (LowPost w (lowN r : Nat)) := by
  rw [lowN_cast]; exact refLower_any r w

/-- places and runes -/
def placesC : Nat → List (Nat × List UInt8) → List (Nat × Nat)
  | _, [] => []
  | k, p :: ps => (k, p.1) :: placesC (k + p.2.length) ps
def placesL (l : List UInt8) : List (Nat × Nat) := placesC 0 (cutsL l)
theorem places_step {l : List UInt8} {k : Nat} (h : k < l.length) : placesC k (cutsL (l.drop k)) = (k, (nextL (l.drop k)).1) :: placesC (k + (nextL (l.drop k)).2) (cutsL (l.drop (k + (nextL (l.drop k)).2))) := by
  have hp := next_pos (drop_ne h)
  rw [cuts_step (drop_ne h), placesC, List.drop_drop]
  congr 2
  rw [List.length_take]; omega
theorem placesC_len : ∀ (k : Nat) (ps : List (Nat × List UInt8)), (placesC k ps).length = ps.length
  | _, [] => rfl
  | k, p :: ps => by rw [placesC, List.length_cons, List.length_cons, placesC_len]
theorem places_len (l : List UInt8) : (placesL l).length ≤ l.length := by unfold placesL; rw [placesC_len]; exact cuts_len l
def iV (n : Nat) : Value := .int .i64 (n : Int)
def rV (n : Nat) : Value := .int .i32 (n : Int)
theorem info_int : (Tryd.prog.info? 3).map (fun i => (i.zero, i.size, i.bytes)) = some (some (.int .i64 0), 1, 8) := by kernel_rfl
theorem info_i32 : (Tryd.prog.info? 21).map (fun i => (i.zero, i.size, i.bytes)) = some (some (.int .i32 0), 1, 4) := by kernel_rfl
def RunesPost (w : World) (ps : List (Nat × Nat)) (e : Ending) (w' : World) : Prop := ∃ v1 v2, e = .returned (.tuple #[v1, v2]) ∧ w'.ownsRow w.heap.size 3 1 v1 ps.length (ps.map fun p => iV p.1) ∧ w'.ownsRow w.heap.size 21 1 v2 ps.length (ps.map fun p => rV p.2) ∧ BW w w'
/-- an append's outcome: in place, or in a new block, nothing else touched -/
def App (v v' : Value) (w w' : World) : Prop :=
  (∃ g n c n' c', v = .slice (some ⟨g, 0, none⟩) n c ∧ v' = .slice (some ⟨g, 0, none⟩) n' c' ∧ w.grownBy w' (some g)) ∨ (w.grownBy w' none ∧ ∀ a n c, v' = .slice (some a) n c → w.heap.size ≤ a.block)

theorem run_append_two {P : Program} (w : World) (base : Nat) (t ty e : TypeId) (i : TypeInfo) (z : Value) (bytes : Nat) (ht : P.underlying t = some (.slice e)) (hi : P.info? e = some i) (hz : i.zero = some z)
    (hsize : i.size = 1) (hby : i.bytes = bytes) (hzs : z.cells.size = 1)
    (v : Value) (n : Nat) (xs : List Value) (hown : w.ownsRow base e 1 v n xs)
    (a : Addr) (m c : Nat) (news : List Value) (hl : news.length = m * 1) (hnews : ∀ j u, news[j]? = some u → w.cell? (a.add j) = some u) (h1 : ∀ u ∈ news, u.oneCell' = true)
    (h63 : n + m ≤ maxLen) (hbytes : (n + m) * bytes ≤ 140737488355328) (hbase : base ≤ w.heap.size) (_ : 0 < m) :
    ∃ v' w', (Builtin.append_ #[t, t] ty #[v, .slice (some a) m c]).run P w = .ok v' w' ∧ w'.ownsRow base e 1 v' (n + m) (xs ++ news) ∧ App v v' w w' := by
  have hown0 := hown
  obtain ⟨hx, hv | ⟨g, cap, cur, hv, hg, hh, hn, hc, hcs, htk⟩⟩ := hown
  · obtain ⟨rfl, rfl⟩ := hv
    have ho : w.ownsRow w.heap.size e 1 (.slice none 0 0) 0 xs := ⟨hx, .inl ⟨rfl, rfl⟩⟩
    obtain ⟨v', w', hr, h2, h3, h4⟩ := run_append_own (P := P) w w.heap.size t ty e i z 1 bytes ht hi hz hsize hby hzs (by decide) _ 0 xs ho a m c news hl hnews h1 h63 hbytes (Nat.le_refl _)
    exact ⟨v', w', hr, row_base h2 hbase, .inr ⟨h3, fun a n c e => new_of_row h2 e⟩⟩
  · subst hv
    by_cases hfit : n + m ≤ cap
    · obtain ⟨w', hr, h2, h3⟩ := run_append_fits (P := P) w base t ty e i 1 ht hi hsize g n cap xs hown0 a m c news hl hnews h1 hfit
      exact ⟨_, w', hr, h2, .inl ⟨g, _, _, _, _, rfl, rfl, h3⟩⟩
    · have hcells : ∀ j u, xs[j]? = some u → w.cell? ((⟨g, 0, none⟩ : Addr).add j) = some u := by
        intro j u hu
        rw [addOff, Nat.zero_add]
        obtain ⟨hj, he⟩ := List.getElem?_eq_some_iff.1 hu
        have := (row_cell hown0 rfl hj).1
        simp only [Nat.zero_add] at this
        rw [this, he]
      obtain ⟨v', w', hr, h2, h3⟩ := run_append_arg_grows (P := P) w t ty e i z 1 bytes ht hi hz hsize hby hzs (by decide) ⟨g, 0, none⟩ n cap xs hx hcells a m c news hl hnews (by omega) h63 hbytes
      exact ⟨v', w', hr, row_base h2 hbase, .inr ⟨h3, fun a n c e => new_of_row h2 e⟩⟩

theorem wpList_append_two {P : Program} {w : World} {ops : Array Oper} {rest : List Oper} {o : Oper} {a : Act} {Q : Exit → Act → World → Prop}
    (hg : o.guard = none) (s x : Operand) (t : TypeId) (hop : o.op = Op.call { callee := Callee.builtin Builtin.append, args := #[s, x], argTypes := #[t, t] }) (base : Nat)
    (e : TypeId) (i : TypeInfo) (z : Value) (bytes : Nat) (ht : P.underlying t = some (.slice e)) (hi : P.info? e = some i) (hz : i.zero = some z)
    (hsize : i.size = 1) (hby : i.bytes = bytes) (hzs : z.cells.size = 1)
    (v : Value) (n : Nat) (xs : List Value) (hs : a.eval s = v) (hown : w.ownsRow base e 1 v n xs)
    (ad : Addr) (m c : Nat) (news : List Value) (hx : a.eval x = .slice (some ad) m c) (hl : news.length = m * 1) (hnews : ∀ j u, news[j]? = some u → w.cell? (ad.add j) = some u) (h1 : ∀ u ∈ news, u.oneCell' = true)
    (h63 : n + m ≤ maxLen) (hbytes : (n + m) * bytes ≤ 140737488355328) (hbase : base ≤ w.heap.size) (hm : 0 < m)
    (hK : ∀ v' w', w'.ownsRow base e 1 v' (n + m) (xs ++ news) → App v v' w w' → wpList P ops Q rest (a.put o.dst v') w') :
    wpList P ops Q (o :: rest) a w := by
  refine wpList_plain hg fun K hK' => ?_
  obtain ⟨v', w', hrun, r1, r2⟩ := run_append_two (P := P) w base t o.type e i z bytes ht hi hz hsize hby hzs v n xs hown ad m c news hl hnews h1 h63 hbytes hbase hm
  unfold Oper.wp
  simp [execOp, hop, resolve, invoke, builtin, hs, hx, hrun, Result.andThen]
  exact hK' _ _ (hK v' w' r1 r2)

def Sep (v1 v2 : Value) : Prop := ∀ b, v1.ownBlock = some b → v2.ownBlock ≠ some b
theorem Sep.symm {v1 v2 : Value} (h : Sep v1 v2) : Sep v2 v1 := fun b h2 h1 => h b h1 h2
theorem rowN_keep {w w' : World} {base n t : Nat} {v : Value} {xs : List Value} (h : w.ownsRow base t 1 v n xs) (hk : ∀ b, v.ownBlock = some b → w'.heap[b]? = w.heap[b]?) : w'.ownsRow base t 1 v n xs :=
  row_keep h fun a n c e => hk a.block (by rw [e]; rfl)
theorem row_blk {w : World} {base n t : Nat} {v : Value} {xs : List Value} (h : w.ownsRow base t 1 v n xs) {b : Nat} (hb : v.ownBlock = some b) : base ≤ b ∧ b < w.heap.size := by
  obtain ⟨a, n', c, e1, e2⟩ := own_some hb
  exact ⟨by have := new_of_row h e1; omega, by have := row_lt h e1; omega⟩
theorem app_other {w w' : World} {B e2 n2 : Nat} {v1 v1' v2 : Value} {xs2 : List Value} (h : App v1 v1' w w') (h2 : w.ownsRow B e2 1 v2 n2 xs2) (hs : Sep v1 v2) : w'.ownsRow B e2 1 v2 n2 xs2 ∧ Sep v1' v2 := by
  rcases h with ⟨g, n, c, n', c', rfl, rfl, hg⟩ | ⟨hg, hnew⟩
  · refine ⟨rowN_keep h2 fun b hb => hg.block b (row_blk h2 hb).2 fun e => ?_, fun b h1 => hs b h1⟩
    injection e with e
    exact hs b (by rw [← e]; rfl) hb
  · refine ⟨rowN_keep h2 fun b hb => hg.block b (row_blk h2 hb).2 (by simp), fun b h1 h3 => ?_⟩
    obtain ⟨a, n, c, e1, e3⟩ := own_some h1
    have h4 := hnew a n c e1
    have h5 := (row_blk h2 h3).2
    omega
theorem app_bw {w0 w w' : World} {v v' : Value} (hb : BW w0 w) (h : App v v' w w') (hv : ∀ b, v.ownBlock = some b → w0.heap.size ≤ b) : BW w0 w' := by
  rcases h with ⟨g, n, c, n', c', rfl, rfl, hg⟩ | ⟨hg, _⟩
  · exact bw_grown hb hg fun k e => by injection e with e; exact hv k (by rw [← e]; rfl)
  · exact bw_grown hb hg fun k e => by cases e
theorem append_one {e t : TypeId} {z : Value} {bytes : Nat} (hu : Tryd.prog.underlying t = some (.slice e)) (hinfo : (Tryd.prog.info? e).map (fun i => (i.zero, i.size, i.bytes)) = some (some z, 1, bytes)) (hzc : z.cells.size = 1)
    {w : World} {ops : Array Oper} {rest : List Oper} {o : Oper} {a : Act} {Q : Exit → Act → World → Prop} (hgd : o.guard = none) (s x : Operand)
    (ho : o.op = .call { callee := .builtin .append, args := #[s, x], argTypes := #[t, t] }) (base : Nat) (v : Value) (n : Nat) (xs : List Value) (hs : a.eval s = v) (hown : w.ownsRow base e 1 v n xs)
    (b : Nat) (hx : a.eval x = .slice (some ⟨b, 0, none⟩) 1 1) (u : Value) (hc : w.cell? ⟨b, 0, none⟩ = some u) (hone : u.oneCell' = true) (hb : (n + 1) * bytes ≤ 140737488355328) (hb2 : n + 1 ≤ 140737488351232) (hbase : base ≤ w.heap.size)
    (h : ∀ v' w', w'.ownsRow base e 1 v' (n + 1) (xs ++ [u]) → App v v' w w' → wpList Tryd.prog ops Q rest (a.put o.dst v') w') : wpList Tryd.prog ops Q (o :: rest) a w := by
  obtain ⟨i0, hi, hz0, hz1, hz2⟩ := infoOf hinfo
  refine wpList_append_two hgd s x t ho base e i0 z bytes hu hi hz0 hz1 hz2 hzc v n xs hs hown ⟨b, 0, none⟩ 1 1 [u] hx (by simp) (fun j y hy => ?_) (fun y hy => by rw [List.mem_singleton.1 hy]; exact hone) (by unfold maxLen; omega) hb hbase (by decide) h
  cases j with
  | zero => simp at hy; subst hy; rw [addOff]; exact hc
  | succ j => simp at hy

set_option maxHeartbeats 1000000 in
set_option maxRecDepth 100000 in
theorem refRunes_any (l : List UInt8) (hl : (l.length : Int) ≤ 17592186044416) (w : World) : Calls Tryd.prog 47 #[textV l] w (RunesPost w (placesL l)) := by
  have HNX := Lib.hid (fun (k : Nat) (h : k < l.length) (W : World) => refNext_in h (by omega) W)
  have HPL := Lib.hid (places_len l)
  unfold textV at HNX ⊢
  obtain ⟨s, hs⟩ : ∃ s, s = ByteArray.mk l.toArray := ⟨_, rfl⟩
  have hsz : s.size = l.length := by rw [hs]; exact text_size l
  rw [← hs] at HNX ⊢
  have HSZ := Lib.hid hsz
  obtain ⟨n, hn⟩ : ∃ n, n = s.size := ⟨_, rfl⟩
  have hni : (s.size : Int) = (n : Int) := by rw [hn]
  have hnb : (n : Int) ≤ 17592186044416 := by omega
  have HN := Lib.hid hn
  clear hs hsz hl hn
  go_enter Tryd.func47, Tryd.ntmps47
  go_wp2
  go_loopw [4, 5, 6] (fun s4 s5 s6 wx => ∃ (k : Nat) (pre : List (Nat × Nat)), k ≤ n ∧ s6 = .int .i64 (k : Int) ∧ placesL l = pre ++ placesC k (cutsL (l.drop k)) ∧ wx.ownsRow w.heap.size 3 1 s4 pre.length (pre.map fun p => iV p.1) ∧ wx.ownsRow w.heap.size 21 1 s5 pre.length (pre.map fun p => rV p.2) ∧ Sep s4 s5 ∧ BW w wx) (fun _ _ s6 _ => n - (intOf s6).toNat)
  case atStart => exact ⟨0, [], Nat.zero_le _, rfl, by rw [List.drop_zero]; rfl, World.ownsRow_nil _ _ _ _, World.ownsRow_nil _ _ _ _, (fun b h => by cases h), BW.refl _⟩
  case round =>
    obtain ⟨k, pre, hk, rfl, hv, ho4, ho5, hsep, hb⟩ := hrel
    have HV := Lib.hid hv
    have HB := Lib.hid hb
    have HO4 := Lib.hid ho4
    have HO5 := Lib.hid ho5
    have HSEP := Lib.hid hsep
    have hk0 : 0 ≤ (k : Int) := by omega
    clear hv hb ho4 ho5 hsep
    by_cases hlt : k < n
    · have hlti : (k : Int) < (n : Int) := by omega
      have d1 : decide (k < s.size) = true := decide_eq_true (by have := HN.out; omega)
      have hkl : k < l.length := by have := HN.out; have := HSZ.out; omega
      have HC := Lib.hid (HNX.out k hkl wr)
      have hp := next_at hkl
      have HVS := Lib.hid (places_step hkl)
      obtain ⟨r, hr⟩ : ∃ r, r = (nextL (l.drop k)).1 := ⟨_, rfl⟩
      obtain ⟨m, hm⟩ : ∃ m, m = (nextL (l.drop k)).2 := ⟨_, rfl⟩
      have HPQ : Hid (nextL (l.drop k) = (r, m)) := by unfold Hid; rw [hr, hm]
      rw [← hr, ← hm] at HVS
      rw [← hm] at hp
      rw [HPQ.out] at HC
      have hm1 : 1 ≤ (m : Int) := by omega
      have hkm : (k : Int) + (m : Int) ≤ (n : Int) := by have := HN.out; have := HSZ.out; omega
      have HKM := Lib.hid hkm
      have HLT := Lib.hid hlt
      have HPLEN : Hid (pre.length + 1 ≤ n) := by
        have h1 := congrArg List.length HV.out
        rw [HVS.out, List.length_append, List.length_cons] at h1
        have := HPL.out; have := HN.out; have := HSZ.out
        unfold Hid; omega
      have HNB := Lib.hid hnb
      clear hr hm hp hlt hk hkl
      go_wp2_with fail
      refine HC.out.mono ?_
      rintro e w1 ⟨rfl, hb1⟩
      have HB1 := Lib.hid (HB.out.trans hb1)
      have HO41 := Lib.hid (rowN_keep HO4.out fun b hb => hb1.block b (row_blk HO4.out hb).2)
      have HO51 := Lib.hid (rowN_keep HO5.out fun b hb => hb1.block b (row_blk HO5.out hb).2)
      clear hb1 HC HO4 HO5
      go_wp2_with (at_builtin; refine append_one Tryd.underlying22 info_int rfl rfl (.tmp 19) (.tmp 21) rfl w.heap.size _ pre.length _ rfl (HO41.out.alloc _) w1.heap.size rfl (iV k) (cell_of (heap_new _ _) rfl) rfl ?_ ?_ ?_ ?_)
      · have := HPLEN.out; have := HNB.out; omega
      · have := HPLEN.out; have := HNB.out; omega
      · have := HB1.out.size; simp; omega
      intro v4 w4 ho4 ha4
      have HX := app_other ha4 (HO51.out.alloc _) HSEP.out
      have HO4 := Lib.hid ho4
      have HO52 := Lib.hid HX.1
      have HSEP2 := Lib.hid HX.2.symm
      have HB4 := Lib.hid (app_bw (HB1.out.alloc _) ha4 (fun b hb => (row_blk HO41.out hb).1))
      clear ho4 ha4 HX HO41 HO51 HSEP
      go_wp2_with (at_builtin; refine append_one Tryd.underlying64 info_i32 rfl rfl (.tmp 23) (.tmp 25) rfl w.heap.size _ pre.length _ rfl (HO52.out.alloc _) w4.heap.size rfl (rV r) (cell_of (heap_new _ _) rfl) rfl ?_ ?_ ?_ ?_)
      · have := HPLEN.out; have := HNB.out; omega
      · have := HPLEN.out; have := HNB.out; omega
      · have := HB4.out.size; simp; omega
      intro v5 w5 ho5 ha5
      have HX := app_other ha5 (HO4.out.alloc _) HSEP2.out
      have HO5 := Lib.hid ho5
      have HO42 := Lib.hid HX.1
      have HSEP3 := Lib.hid HX.2.symm
      have HB5 := Lib.hid (app_bw (HB4.out.alloc _) ha5 (fun b hb => (row_blk HO52.out hb).1))
      clear ho5 ha5 HX HO4 HO52 HSEP2
      go_wp2
      go_roundw
      case rel => exact ⟨k + m, pre ++ [(k, r)], by have := HKM.out; omega, by first | rfl | go_num, by rw [HV.out, HVS.out, List.append_assoc]; rfl, by rw [List.length_append, List.map_append]; exact HO42.out, by rw [List.length_append, List.map_append]; exact HO5.out, HSEP3.out, HB5.out⟩
      case measure => simp [intOf]; have := HKM.out; have := HLT.out; omega
    · have d1 : decide (k < s.size) = false := decide_eq_false (by have := HN.out; omega)
      have hlti : (n : Int) ≤ (k : Int) := by omega
      have HF : Hid (placesL l = pre) := by unfold Hid; rw [HV.out, List.drop_eq_nil_of_le (by have := HN.out; have := HSZ.out; omega)]; simp [cuts_nil, placesC]
      clear hlt hk
      go_wp2
      go_ret2
      exact ⟨_, _, rfl, by rw [HF.out]; exact HO4.out, by rw [HF.out]; exact HO5.out, HB.out⟩

def TextPost (w : World) (bs : List UInt8) (e : Ending) (w' : World) : Prop := e = .returned (textV bs) ∧ BW w w'
set_option maxHeartbeats 1000000 in
set_option maxRecDepth 100000 in
theorem refFold_any (l : List UInt8) (hl : (l.length : Int) ≤ 140737488355328) (w : World) : Calls Tryd.prog 50 #[textV l] w (TextPost w (foldL l)) := by
  have HNX := Lib.hid (fun (k : Nat) (h : k < l.length) (W : World) => refNext_in h (by omega) W)
  have HFL := Lib.hid (fold_len l)
  unfold textV at HNX ⊢
  obtain ⟨s, hs⟩ : ∃ s, s = ByteArray.mk l.toArray := ⟨_, rfl⟩
  have hsz : s.size = l.length := by rw [hs]; exact text_size l
  rw [← hs] at HNX ⊢
  have HSZ := Lib.hid hsz
  have HS := Lib.hid hs
  obtain ⟨n, hn⟩ : ∃ n, n = s.size := ⟨_, rfl⟩
  have hni : (s.size : Int) = (n : Int) := by rw [hn]
  have hnb : (n : Int) ≤ 140737488355328 := by omega
  have HN := Lib.hid hn
  clear hs hsz hl hn
  go_enter Tryd.func50, Tryd.ntmps50
  go_wp2
  go_loopw [3, 4] (fun s3 s4 wx => ∃ (k : Nat) (pre : List UInt8), k ≤ n ∧ s4 = .int .i64 (k : Int) ∧ foldL l = pre ++ foldL (l.drop k) ∧ wx.ownsRow w.heap.size 5 1 s3 pre.length (pre.map bV) ∧ BW w wx) (fun _ s4 _ => n - (intOf s4).toNat)
  case atStart => exact ⟨0, [], Nat.zero_le _, rfl, by rw [List.drop_zero]; rfl, World.ownsRow_nil _ _ _ _, BW.refl _⟩
  case round =>
    obtain ⟨k, pre, hk, rfl, hv, ho3, hb⟩ := hrel
    have HV := Lib.hid hv
    have HB := Lib.hid hb
    have HO3 := Lib.hid ho3
    have hk0 : 0 ≤ (k : Int) := by omega
    clear hv hb ho3
    by_cases hlt : k < n
    · have hlti : (k : Int) < (n : Int) := by omega
      have d1 : decide (k < s.size) = true := decide_eq_true (by have := HN.out; omega)
      have hkl : k < l.length := by have := HN.out; have := HSZ.out; omega
      have HC := Lib.hid (HNX.out k hkl wr)
      have hp := next_at hkl
      have HVS := Lib.hid (fold_step (drop_ne hkl))
      rw [List.drop_drop] at HVS
      have hpc := piece_head (drop_ne hkl)
      have hrn := next_rune (drop_ne hkl)
      obtain ⟨r, hr⟩ : ∃ r, r = (nextL (l.drop k)).1 := ⟨_, rfl⟩
      obtain ⟨m, hm⟩ : ∃ m, m = (nextL (l.drop k)).2 := ⟨_, rfl⟩
      have HPQ : Hid (nextL (l.drop k) = (r, m)) := by unfold Hid; rw [hr, hm]
      rw [← hr, ← hm] at HVS hpc
      rw [← hm] at hp
      rw [← hr] at hrn
      rw [HPQ.out] at HC
      have hm1 : 1 ≤ (m : Int) := by omega
      have hkm : (k : Int) + (m : Int) ≤ (n : Int) := by have := HN.out; have := HSZ.out; omega
      have HKM := Lib.hid hkm
      have HLT := Lib.hid hlt
      have HNB := Lib.hid hnb
      have HBL : Hid ((lowB (r, (l.drop k).take m)).length = m) := by
        unfold Hid; rw [lowB_len hpc]; simp only [List.length_take, List.length_drop]; omega
      have HPLEN : Hid (pre.length + m ≤ n) := by
        have h1 := congrArg List.length HV.out
        rw [HVS.out, List.length_append, List.length_append, HBL.out, HFL.out] at h1
        have := HN.out; have := HSZ.out
        unfold Hid; omega
      have HLOW := Lib.hid (fun W => refLowN_any r W)
      have hlr : lowN r ≤ 1114111 := by
        by_cases h2 : r < 1328
        · have := lowN_lt h2; omega
        · rw [lowN_out (by omega)]; exact hrn
      have HFORM := Lib.hid (fun W => refForm_any (lowN r) hlr W)
      obtain ⟨q, hq⟩ : ∃ q, q = lowN r := ⟨_, rfl⟩
      rw [← hq] at HLOW HFORM
      have HQ := Lib.hid hq
      clear hr hm hp hlt hk hkl hpc hrn hlr hq
      go_wp2_with fail
      refine HC.out.mono ?_
      rintro e w1 ⟨rfl, hb1⟩
      have HB1 := Lib.hid (HB.out.trans hb1)
      have HO31 := Lib.hid (rowN_keep HO3.out fun b hb => hb1.block b (row_blk HO3.out hb).2)
      clear hb1 HC HO3
      go_wp2_with fail
      refine (HLOW.out _).mono ?_
      rintro e w2 ⟨rfl, hb2⟩
      have HB2 := Lib.hid (HB1.out.trans hb2)
      have HO32 := Lib.hid (rowN_keep HO31.out fun b hb => hb2.block b (row_blk HO31.out hb).2)
      clear hb2 HO31
      by_cases hqr : q = r
      · have hne : ((q : Int) != (r : Int)) = false := by simp [hqr]
        obtain ⟨t, ht⟩ : ∃ t, t = k + m := ⟨_, rfl⟩
        have hti : (k : Int) + (m : Int) = (t : Int) := by omega
        have hkt : (k : Int) ≤ (t : Int) := by omega
        have hts : (t : Int) ≤ (n : Int) := by omega
        have HLB : Hid (lowB (r, (l.drop k).take m) = (s.extract k t).data.toList) := by
          unfold Hid lowB
          rw [if_pos (by rw [← HQ.out]; exact hqr), HS.out, ByteArray.extract_mk, show t - k = m by omega]
        have HSZE : Hid ((s.extract k t).size = m) := by
          unfold Hid
          have h1 := congrArg List.length HLB.out
          rw [HBL.out] at h1
          rw [h1]; rfl
        have HT := Lib.hid ht
        have hkt0 : 0 ≤ (t : Int) := by omega
        clear hqr ht
        go_wp2_with (at_builtin; refine append_text rfl (.tmp 26) (.tmp 32) rfl w.heap.size _ pre.length pre rfl HO32.out (s.extract k t) rfl ?_ ?_ ?_)
        · have := HPLEN.out; have := HNB.out; have := HSZE.out; omega
        · exact HB2.out.size
        intro v4 w4 ho4 hg4
        replace ho4 : w4.ownsRow w.heap.size 5 1 v4 (pre.length + (s.extract k t).size) ((pre ++ (s.extract k t).data.toList).map bV) := by simpa using ho4
        rw [← HLB.out, HSZE.out] at ho4
        have HO4 : Hid (w4.ownsRow w.heap.size 5 1 v4 (pre ++ lowB (r, (l.drop k).take m)).length ((pre ++ lowB (r, (l.drop k).take m)).map bV)) := by
          unfold Hid; rw [List.length_append, HBL.out]; exact ho4
        have HB4 := Lib.hid (bw_grown HB2.out hg4 (row_own HO32.out))
        clear ho4 hg4
        go_wp2
        go_roundw
        case rel => exact ⟨t, _, by have := HKM.out; have := HT.out; omega, by first | rfl | go_num, by rw [HV.out, HVS.out, HT.out, List.append_assoc], HO4.out, HB4.out⟩
        case measure => simp [intOf]; have := HKM.out; have := HLT.out; have := HT.out; omega
      · have hne : ((q : Int) != (r : Int)) = true := by simp; omega
        have HLB : Hid (lowB (r, (l.drop k).take m) = formP q) := by
          unfold Hid lowB
          rw [if_neg (fun e => hqr (by rw [HQ.out]; exact e)), HQ.out]
        clear hqr
        go_wp2_with fail
        refine (HLOW.out _).mono ?_
        rintro e w3 ⟨rfl, hb3⟩
        have HB3 := Lib.hid (HB2.out.trans hb3)
        have HO33 := Lib.hid (rowN_keep HO32.out fun b hb => hb3.block b (row_blk HO32.out hb).2)
        clear hb3 HO32
        go_wp2_with fail
        refine (HFORM.out _).mono ?_
        rintro e w4 ⟨vf, rfl, hof, hb4⟩
        have HB4 := Lib.hid (HB3.out.trans hb4)
        have HO34 := Lib.hid (rowN_keep HO33.out fun b hb => hb4.block b (row_blk HO33.out hb).2)
        have HOF := Lib.hid (Src.of_row hof)
        obtain ⟨of, nf, cf, rfl⟩ := row_form hof
        clear hb4 HO33 hof
        go_wp2_with (at_builtin; refine append_bytes rfl (.tmp 21) (.tmp 24) rfl w.heap.size _ pre.length pre rfl HO34.out _ rfl (formP q) HOF.out ?_ ?_ ?_)
        · have := HPLEN.out; have := HNB.out; have h := HBL.out; rw [HLB.out] at h; omega
        · exact HB4.out.size
        intro v5 w5 ho5 hg5
        have HO5 : Hid (w5.ownsRow w.heap.size 5 1 v5 (pre ++ lowB (r, (l.drop k).take m)).length ((pre ++ lowB (r, (l.drop k).take m)).map bV)) := by
          unfold Hid; rw [HLB.out, List.length_append, List.map_append]; exact ho5
        have HB5 := Lib.hid (bw_grown HB4.out hg5 (row_own HO34.out))
        clear ho5 hg5
        go_wp2
        go_roundw
        case rel => exact ⟨k + m, _, by have := HKM.out; omega, by first | rfl | go_num, by rw [HV.out, HVS.out, List.append_assoc], HO5.out, HB5.out⟩
        case measure => simp [intOf]; have := HKM.out; have := HLT.out; omega
    · have d1 : decide (k < s.size) = false := decide_eq_false (by have := HN.out; omega)
      have hlti : (n : Int) ≤ (k : Int) := by omega
      have HF : Hid (foldL l = pre) := by unfold Hid; rw [HV.out, List.drop_eq_nil_of_le (by have := HN.out; have := HSZ.out; omega), fold_nil, List.append_nil]
      obtain ⟨ao, cap, hv3⟩ := (Src.of_row HO3.out).len
      subst hv3
      have k3 := src_string (Src.of_row HO3.out)
      rw [List.length_map] at k3 ⊢
      generalize pre.length = ln at k3 ⊢
      clear hlt hk
      go_wp2
      go_ret
      exact ⟨by rw [HF.out]; rfl, HB.out⟩
end Go.Proofs.YtljjaepadnmmeaaDoor
