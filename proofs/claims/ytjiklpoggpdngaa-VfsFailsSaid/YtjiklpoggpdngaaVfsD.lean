/- The three changes that closures make to a map of files. -/
import Derived.Test.YtjiklpoggpdngaaVfsC
import Derived.LaidEqlPtr
namespace Go.Proofs.Ytjiklpoggpdngaa
open Go.RowKit Go.Maps Go.ChangeMaps Go.WideMaps Go.MapKept

theorem law9 : Keyed Try.prog 9 := string_keyed Try.underlying9
theorem zeroF (w : World) : (zeroValue 82).run Try.prog w = .ok (.pointer none) w := by kernel_rfl
theorem key9 {s : ByteArray} (hs : s.size ≤ maxLen) : keyOf Try.prog 9 (.string s) = some (.string s.data.toList) := keyOf_string_mk Try.underlying9 hs

theorem moves_grown {w w' : World} {b : Nat} (h : w.grownBy w' (some b)) : Moves (fun k => k = b) w w' := (Moves.refl _ w).grown h (fun k e _ => by cases e; rfl)
theorem moves_turned {w w' : World} {b : Nat} (h : w.mapTurned w' b) : Moves (fun k => k = b) w w' := by
  obtain ⟨es, clock, es', clock', hb, rfl⟩ := h
  exact ⟨rfl, rfl, rfl, by simp [setBlock], fun k _ hk => heap_setBlock_other hb _ hk⟩

theorem cell_turned {w w' : World} {b k o : Nat} {v : Value} (h : w.mapTurned w' b) (lt : k < w.heap.size) (ne : k ≠ b) (c : w.cell? ⟨k, o, none⟩ = some v) : w'.cell? ⟨k, o, none⟩ = some v :=
  (World.cell?_of_block (w := w) (a := ⟨k, o, none⟩) ((moves_turned h).block k lt ne)).trans c

/-- what a lookup answers: the pointer to the file, or nil -/
def fileV : Option Nat → Value
  | some f => ptr f
  | none => .pointer none

theorem look_run {w : World} {mb : Nat} {l : AM} (h : IsDir Try.prog w mb l) {s : ByteArray} (hs : s.size ≤ maxLen) :
    (Instr.lookup 68 (.map (some mb)) (.string s) false).run Try.prog w = .ok (fileV (aget l s.data.toList)) w := by
  obtain ⟨v, ps, hrun, hv⟩ := h.lookup law9 Try.underlying68 (zeroF w) RP_nil (key9 hs)
  rw [toD_get] at hv
  rw [hrun]
  cases e : aget l s.data.toList with
  | none => rw [e] at hv; rw [RP_nl hv]; rfl
  | some f => rw [e] at hv; rw [RP_pt hv]; rfl

theorem info_file : ∃ j, Try.prog.info? 85 = some j ∧ j.size ≠ 0 := by
  have h : (Try.prog.info? 85).map (fun i => i.size) = some 2 := by kernel_rfl
  cases e : Try.prog.info? 85 with
  | none => rw [e] at h; cases h
  | some j => rw [e] at h; simp at h; exact ⟨j, rfl, by omega⟩

/-- a block of cells, none of them frozen -/
def Plain (w : World) (b : Nat) : Prop := ∃ c t, w.heap[b]? = some (.cells c t (0, 0))

theorem eql_file (w : World) (o : Option Nat) (f : Nat) (hf : Plain w f) (ho : ∀ k, o = some k → Plain w k) :
    (binOp .eql 82 (fileV o) (ptr f)).run Try.prog w = .ok (.bool (decide (o = some f))) w := by
  obtain ⟨j, hj, hsz⟩ := info_file
  cases o with
  | none => kernel_rfl
  | some k =>
    by_cases e : k = f
    · subst e
      rw [decide_eq_true (by rfl)]
      exact run_eql_ptr_same w _ Try.underlying82 hj
    · rw [decide_eq_false (by simpa using e)]
      obtain ⟨c, t, hc⟩ := hf
      obtain ⟨c', t', hc'⟩ := ho k rfl
      exact run_eql_ptr_other w Try.underlying82 hj hsz (by simp [e]) hc' hc

def ChPost (w : World) (mb : Nat) (l : AM) (e : Ending) (w' : World) : Prop := e = .returned (.tuple #[]) ∧ IsDir Try.prog w' mb l ∧ Moves (fun k => k = mb) w w'

set_option maxHeartbeats 400000 in
theorem ch_put {w : World} {mb a b f : Nat} {l : AM} {s : ByteArray} (h : IsDir Try.prog w mb l) (hn : l.length < 4611686018427387904) (oa : one w a (ptr f) 82) (ob : one w b (.string s) 9) (hs : s.size ≤ maxLen) :
    Calls Try.prog 68 #[.map (some mb), ptr a, ptr b] w (ChPost w mb (aput l s.data.toList f)) := by
  have ca : w.cell? ⟨a, 0, none⟩ = some (ptr f) := cell_of oa rfl
  have cb : w.cell? ⟨b, 0, none⟩ = some (.string s) := cell_of ob rfl
  have hkey := key9 hs
  have HM := Lib.hid h
  clear h oa ob
  unfold ptr at *
  go_enter Try.func68, Try.ntmps68
  go_wp2_with (at_mapUpdate; refine wpList_mapUpdate_own _ rfl _ _ _ 68 rfl 9 82 law9 Try.underlying68 RP mb l.length (toD l) rfl HM.out (by unfold maxLen; omega) _ _ _ rfl rfl hkey (ptD f) [] (RP_mk f) ?_; intro w1 hown1 hgrow1)
  go_end0
  exact ⟨rfl, isDir_of (by rw [← toD_put]; exact hown1), moves_grown hgrow1⟩

set_option maxHeartbeats 400000 in
theorem ch_del {w : World} {mb a : Nat} {l : AM} {s : ByteArray} (h : IsDir Try.prog w mb l) (oa : one w a (.string s) 9) (hs : s.size ≤ maxLen) :
    Calls Try.prog 72 #[.map (some mb), ptr a] w (ChPost w mb (adel l s.data.toList)) := by
  have ca : w.cell? ⟨a, 0, none⟩ = some (.string s) := cell_of oa rfl
  have hkey := key9 hs
  have HM := Lib.hid h
  clear h oa
  unfold ptr at *
  go_enter Try.func72, Try.ntmps72
  go_wp2_with (at_delete; refine wpList_delete_own _ rfl _ _ 68 9 rfl 82 law9 Try.underlying68 RP mb l.length (toD l) rfl HM.out _ _ rfl hkey ?_; intro w1 hown1 hturn1)
  go_end0
  exact ⟨rfl, isDir_of (by rw [← toD_del]; exact hown1), moves_turned hturn1⟩

set_option maxRecDepth 100000 in
set_option maxHeartbeats 1000000 in
theorem ch_ren {w : World} {mb a b c f : Nat} {l : AM} {s t : ByteArray} (h : IsDir Try.prog w mb l) (hn : l.length < 4611686018427387904) (oa : one w a (.string s) 9) (ob : one w b (ptr f) 82) (oc : one w c (.string t) 9)
    (ha : a ≠ mb) (hb : b ≠ mb) (hc : c ≠ mb) (hs : s.size ≤ maxLen) (ht : t.size ≤ maxLen) (hf : Plain w f) (hl : ∀ p ∈ l, Plain w p.2) :
    Calls Try.prog 69 #[.map (some mb), ptr a, ptr b, ptr c] w (ChPost w mb (apCh (.ren s.data.toList t.data.toList f) l)) := by
  have ca : w.cell? ⟨a, 0, none⟩ = some (.string s) := cell_of oa rfl
  have cb : w.cell? ⟨b, 0, none⟩ = some (ptr f) := cell_of ob rfl
  have cc : w.cell? ⟨c, 0, none⟩ = some (.string t) := cell_of oc rfl
  have la := lt_of_heap oa
  have lb := lt_of_heap ob
  have lc := lt_of_heap oc
  have hkey := key9 hs
  have hkey2 := key9 ht
  have hlook := look_run h hs
  have HM := Lib.hid h
  have heq := eql_file w (aget l s.data.toList) f hf (fun k hk => hl _ (aget_mem hk))
  clear hf hl
  by_cases hg : aget l s.data.toList = some f
  · have HP : Hid (apCh (.ren s.data.toList t.data.toList f) l = aput (adel l s.data.toList) t.data.toList f) := by show aput (if aget l s.data.toList = some f then adel l s.data.toList else l) t.data.toList f = _; rw [if_pos hg]
    rw [hg] at hlook
    rw [decide_eq_true hg, hg] at heq
    have hlen := len_del l s.data.toList
    have HA := Lib.hid ha; have HB := Lib.hid hb; have HC := Lib.hid hc
    clear h oa ob oc hg ha hb hc
    unfold ptr fileV at *
    unfold ptr at *
    go_enter Try.func69, Try.ntmps69
    go_wp2_with (first
      | (at_delete; refine wpList_delete_own _ rfl _ _ 68 9 rfl 82 law9 Try.underlying68 RP mb l.length (toD l) rfl HM.out _ _ rfl hkey ?_; intro w1 hown1 hturn1; have cb1 := cell_turned hturn1 lb HB.out cb; have cc1 := cell_turned hturn1 lc HC.out cc; have HM1 := Lib.hid (moves_turned hturn1); clear hturn1; rw [toD_del] at hown1; have HO := Lib.hid hown1; clear hown1)
      | (at_mapUpdate; refine wpList_mapUpdate_own _ rfl _ _ _ 68 rfl 9 82 law9 Try.underlying68 RP mb l.length (toD (adel l s.data.toList)) rfl HO.out (by unfold maxLen; omega) _ _ _ rfl rfl hkey2 (ptD f) [] (RP_mk f) ?_; intro w2 hown2 hgrow2))
    go_end0
    refine ⟨rfl, ?_, HM1.out.trans (moves_grown hgrow2) (fun i _ e => e)⟩
    rw [HP.out]
    exact isDir_of (by rw [← toD_put]; exact hown2)
  · have HP : Hid (apCh (.ren s.data.toList t.data.toList f) l = aput l t.data.toList f) := by show aput (if aget l s.data.toList = some f then adel l s.data.toList else l) t.data.toList f = _; rw [if_neg hg]
    rw [decide_eq_false hg] at heq
    obtain ⟨v, hv⟩ : ∃ v : Option Addr, .pointer v = fileV (aget l s.data.toList) := by cases aget l s.data.toList <;> exact ⟨_, rfl⟩
    rw [← hv] at heq hlook
    clear h oa ob oc hg hv
    unfold ptr at *
    go_enter Try.func69, Try.ntmps69
    go_wp2_with (at_mapUpdate; refine wpList_mapUpdate_own _ rfl _ _ _ 68 rfl 9 82 law9 Try.underlying68 RP mb l.length (toD l) rfl HM.out (by unfold maxLen; omega) _ _ _ rfl rfl hkey2 (ptD f) [] (RP_mk f) ?_; intro w2 hown2 hgrow2)
    go_end0
    refine ⟨rfl, ?_, (moves_grown hgrow2)⟩
    rw [HP.out]
    exact isDir_of (by rw [← toD_put]; exact hown2)

end Go.Proofs.Ytjiklpoggpdngaa
