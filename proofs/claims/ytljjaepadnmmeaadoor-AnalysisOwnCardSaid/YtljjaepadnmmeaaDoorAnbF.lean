/- Stage 6, the program: the four tokenizers, found by their numbers; a text's tokens. -/
import Derived.Test.YtljjaepadnmmeaaDoorAnbE
namespace Go.Proofs.YtljjaepadnmmeaaDoor
open Go.RowKit Go.Maps Fld Ana Go.Shelf
attribute [local go_sem] Oper.semAt_some

theorem begin1 (r : Nat) : wordI (r : Int) = beginI 1 r := by
  unfold beginI mayI
  rw [if_neg (by decide)]
  cases wordI (r : Int) <;> simp
theorem begin2 (r : Nat) : mayN 2 r = beginI 2 r := by
  unfold beginI mayN
  cases mayI 2 (r : Int) <;> simp
theorem cut12 {n : Nat} (h : n = 1 ∨ n = 2) (l : List Nat) : Ana.cut n l = runs n 0 l := by
  unfold Ana.cut; rw [if_neg (by omega), if_neg (by omega)]
theorem cutOk_letters {w : World} {B1 B2 : Nat} (h : LetBox w B1 B2) : CutOk w 57 #[.pointer (some ⟨B1, 0, none⟩), .pointer (some ⟨B2, 0, none⟩)] 1 := by
  intro w0 W tb ob l hb hob hl hJ
  obtain ⟨b0, h0, h1, h2⟩ := h
  rw [cut12 (.inl rfl), ← scan_runs (b := fun r => wordI (r : Int)) (h := mayN 1) begin1 (fun _ => rfl)]
  exact runs1_any l (by omega) (C := 1000000000) (by omega) (B := w0.heap.size) (cutJ_stab (Nat.le_refl _)) (cut1_put w0 tb ob l (by omega) hob)
    (enters_of Tryd.func35 (by kernel_rfl) rfl) (enters_of Tryd.func52 (by kernel_rfl) rfl) (enters_of Tryd.func55 (by kernel_rfl) rfl)
    (fun ps X hX => (boxed_on h1 (hb.trans hX.bw)).cell) (fun ps X hX => (boxed_on h2 (hb.trans hX.bw)).cell)
    (fun ps X r hX hr => let1_any r hr X) (fun ps X r hX hr => let2_any r hr b0 X (boxed_on h0 (hb.trans hX.bw))) W hJ.bw.size hJ
theorem cutOk_solid {w : World} {B1 B2 : Nat} (h : SolBox w B1 B2) : CutOk w 57 #[.pointer (some ⟨B1, 0, none⟩), .pointer (some ⟨B2, 0, none⟩)] 2 := by
  intro w0 W tb ob l hb hob hl hJ
  rw [cut12 (.inr rfl), ← scan_runs (b := mayN 2) (h := mayN 2) begin2 (fun _ => rfl)]
  exact runs1_any l (by omega) (C := 1000000000) (by omega) (B := w0.heap.size) (cutJ_stab (Nat.le_refl _)) (cut1_put w0 tb ob l (by omega) hob)
    (enters_of Tryd.func35 (by kernel_rfl) rfl) (enters_of Tryd.func37 (by kernel_rfl) rfl) (enters_of Tryd.func37 (by kernel_rfl) rfl)
    (fun ps X hX => (boxed_on h.1 (hb.trans hX.bw)).cell) (fun ps X hX => (boxed_on h.2 (hb.trans hX.bw)).cell)
    (fun ps X r hX hr => solid_any r X) (fun ps X r hX hr => solid_any r X) W hJ.bw.size hJ
set_option maxHeartbeats 1000000 in
theorem cutOk_whole (w : World) : CutOk w 39 #[] 3 := by
  intro w0 W tb ob l hb hob hl hJ
  show Calls Tryd.prog 39 #[textV l, .func (.func 35) #[] #[.pointer (some ⟨ob, 0, none⟩), .pointer (some ⟨tb, 0, none⟩)]] W _
  have HPUT := Lib.hid (cut1_put w0 tb ob l (by omega) hob [] 0 l.length W (Nat.zero_le _) (Nat.le_refl _) (by simp) hJ)
  have HJ := Lib.hid hJ
  obtain ⟨tx, htxe⟩ : ∃ tx, tx = ByteArray.mk l.toArray := ⟨_, rfl⟩
  have hts : tx.size = l.length := by rw [htxe]; exact text_size l
  have htl : tx.toList = l := by rw [htxe]; exact text_list l
  unfold textV
  rw [← htxe]
  have HC : Hid ((Ana.cut 3 (runesOf l)).map (byPlace l) = if l = [] then [] else [(0, l.length)]) := by
    unfold Hid Ana.cut
    rw [if_pos rfl]
    have hn : runesOf l = [] ↔ l = [] := by
      unfold runesOf; rw [List.map_eq_nil_iff]
      constructor
      · intro h; have := cuts_flat l; rw [h] at this; exact this.symm
      · rintro rfl; rfl
    by_cases h : l = []
    · rw [if_pos h, if_pos (hn.2 h)]; rfl
    · rw [if_neg h, if_neg (fun e => h (hn.1 e))]
      simp only [List.map_cons, List.map_nil, byPlace, runes_len, at_end]
      simp [atL, atC]
  rw [HC.out]
  have hlen : (tx.size : Int) = (l.length : Int) := by omega
  by_cases h : l = []
  · have t1 : tx.toList.isEmpty = true := by rw [htl, h]; rfl
    rw [if_pos h]
    clear HPUT hJ htxe hts htl HC h hb hob hl hlen
    go_enter Tryd.func39, Tryd.ntmps39
    go_wp2
    go_end0
    exact ⟨⟨_, rfl⟩, HJ.out⟩
  · have t1 : tx.toList.isEmpty = false := by rw [htl]; cases l with | nil => exact absurd rfl h | cons => rfl
    rw [if_neg h]
    clear hJ htxe hts htl HC h hb hob hl
    go_enter Tryd.func39, Tryd.ntmps39
    go_wp2_with fail
    refine HPUT.out.mono ?_
    rintro e W1 ⟨⟨v, rfl⟩, hj, _⟩
    go_wp2
    go_end0
    exact ⟨⟨_, rfl⟩, hj⟩
set_option maxRecDepth 100000 in
set_option maxHeartbeats 2000000 in
theorem cutOk_pairs {w : World} (hN : NextOk w) : CutOk w 40 #[] 4 := by
  intro w0 W tb ob l hb hob hl hJ
  show Calls Tryd.prog 40 #[textV l, .func (.func 35) #[] #[.pointer (some ⟨ob, 0, none⟩), .pointer (some ⟨tb, 0, none⟩)]] W _
  obtain ⟨tx, htxe⟩ : ∃ tx, tx = ByteArray.mk l.toArray := ⟨_, rfl⟩
  have htv : textV l = .string tx := by rw [htxe]; rfl
  have hmf : ∀ (fn : Fn) (first cap : Array Value) (w : World), (Instr.makeFunc fn first cap).run Tryd.prog w = .ok (.func fn first cap) w := fun _ _ _ _ => rfl
  obtain ⟨N, hNn⟩ : ∃ N, N = W.heap.size := ⟨_, rfl⟩
  obtain ⟨W2, hW2⟩ : ∃ W2, W2 = (W.alloc (.cells #[.string tx] 9)).alloc (.cells #[.func (.func 35) #[] #[.pointer (some ⟨ob, 0, none⟩), .pointer (some ⟨tb, 0, none⟩)]] 59) := ⟨_, rfl⟩
  have HQ2 : Hid (BW W W2) := by unfold Hid; rw [hW2]; exact (bw_alloc W _).alloc _
  have HT2 : Hid (Boxed W2 N 9 (textV l)) := by unfold Hid; rw [hW2, hNn, htv]; exact (Boxed.new W _ _).alloc _
  have HP2 : Hid (Boxed W2 (N + 1) 59 (cutV ob tb)) := by
    unfold Hid; rw [hW2, hNn]
    have := Boxed.new (W.alloc (.cells #[.string tx] 9)) 59 (cutV ob tb)
    rw [World.size_alloc] at this; exact this
  have HRUN : Hid (∀ (X : World) (B1 B2 : Nat), BW W2 X → LetBox X B1 B2 → Calls Tryd.prog 57 #[.string tx, .func (.func 59) #[] #[.pointer (some ⟨N, 0, none⟩), .pointer (some ⟨N + 1, 0, none⟩)], .pointer (some ⟨B1, 0, none⟩), .pointer (some ⟨B2, 0, none⟩)] X fun e W' => (∃ v, e = .returned v) ∧ CutJ w0 tb ob l ((Ana.cut 4 (runesOf l)).map (byPlace l)) W' ∧ Boxed W' N 9 (.string tx)) := fun X B1 B2 hX hL => by
    obtain ⟨b0, h0, h1, h2⟩ := hL
    rw [← htv]
    have hj : PairJ w0 tb ob N (N + 1) b0 B1 B2 l [] X := ⟨by simpa using (cutJ_stab (Nat.le_refl _)).bw hJ (HQ2.out.trans hX), fun p hp => (by cases hp), boxed_on HT2.out hX, boxed_on HP2.out hX, h0, h1, h2⟩
    refine (runs1_any l (by omega) (C := l.length) (Nat.le_refl _) (B := w0.heap.size) (pairJ_stab (Nat.le_refl _)) (pairs1_put w0 tb ob N (N + 1) b0 B1 B2 l hl hob (hN.bw hb)) (b := fun r => wordI (r : Int)) (h := mayN 1)
      (enters_of Tryd.func59 (by kernel_rfl) rfl) (enters_of Tryd.func52 (by kernel_rfl) rfl) (enters_of Tryd.func55 (by kernel_rfl) rfl)
      (fun ps Y hY => hY.box.z1.cell) (fun ps Y hY => hY.box.z2.cell) (fun ps Y r hY hr => let1_any r hr Y) (fun ps Y r hY hr => let2_any r hr b0 Y hY.box.z0) X hj.cut.bw.size hj).mono ?_
    rintro e W' ⟨hv, hJ'⟩
    have h3 := hJ'.cut
    rw [scan_runs begin1 (fun _ => rfl), pairs_cut] at h3
    have h4 := hJ'.box.text
    exact ⟨hv, h3, h4⟩
  have HLT := Lib.hid (fun X => letters_any X)
  have hcs : W2.cell? ⟨N, 0, none⟩ = some (.string tx) := by rw [← htv]; exact HT2.out.cell
  rw [htv]
  have HW2 := Lib.hid hW2
  have HNN := Lib.hid hNn
  clear htv htxe hW2 hJ hb hob hl hN
  go_enter Tryd.func40, Tryd.ntmps40
  go_wp2_with fail
  rw [← HW2.out, ← hNn]
  clear hNn
  refine wp_region_noPanic ?_
  have HBX : Hid (BW W2 W2.drew) := bw_drewn (BW.refl W2)
  refine wp_region_held_drew (S := fun X => X.cell? ⟨N, 0, none⟩ = some (.string tx)) (by kernel_rfl) hcs (fun hS => ?_)
  refine takeS (i := 1) (oi := _) (d := 5) (v := .string tx) rfl (by rfl) (by kernel_rfl) (by kernel_rfl) (by kernel_rfl) (fun _ _ _ h => h) (by rfl) ?_ hS ?_
  · intro X hX; go_simp; try with_reducible rfl
  simp only [List.setIfInBounds_toArray, List.set_cons_zero, List.set_cons_succ]
  refine takeS (i := 2) (oi := _) (d := 6) (v := .func (.func 59) #[] #[.pointer (some ⟨N, 0, none⟩), .pointer (some ⟨N + 1, 0, none⟩)]) rfl (by rfl) (by kernel_rfl) (by kernel_rfl) (by kernel_rfl) (fun _ _ _ h => h) (by rfl) ?_ hS ?_
  · intro X hX; go_simp; try with_reducible rfl
  simp only [List.setIfInBounds_toArray, List.set_cons_zero, List.set_cons_succ]
  refine wpAnyH_ready (rs := [0]) (by kernel_rfl) (by simp) ?_
  refine AllReadyH.cons (o := _) rfl (fun K hK => ?_) AllReadyH.nil
  go_simp
  go_at_call 36
  refine (HLT.out _).mono ?_
  rintro e X1 ⟨B1, B2, rfl, hq1, hL1⟩
  have HBX := Lib.hid (HBX.out.trans hq1)
  have hS := ((hq1.cell (p := ⟨N, 0, none⟩) (cell_lt hS)).trans hS)
  have HL1 := Lib.hid hL1
  clear hq1 hL1
  dsimp only
  refine hK.out _ _ hS (fun _ => ?_)
  clear hK K
  try simp only [Act.put, List.setIfInBounds_toArray, List.set_cons_zero, List.set_cons_succ]
  refine wpAnyH_ready (rs := [3]) (by kernel_rfl) (by simp) ?_
  refine AllReadyH.cons (o := _) rfl (fun K hK => ?_) AllReadyH.nil
  go_simp
  go_at_call 57
  refine (HRUN.out _ _ _ HBX.out HL1.out).mono ?_
  rintro e X2 ⟨⟨v2, rfl⟩, hJ2, hb2⟩
  have hS2 := hb2.cell
  dsimp only
  refine hK.out _ _ hS2 (fun _ => ?_)
  clear hK K
  try simp only [Act.put, List.setIfInBounds_toArray, List.set_cons_zero, List.set_cons_succ]
  refine wpAnyH_done (by kernel_rfl) ?_ _
  refine NoPanic.normal ?_
  go_wp2
  go_end0
  exact ⟨⟨_, rfl⟩, hJ2⟩
theorem cut_shape' (n : Nat) (l : List UInt8) : ∀ p ∈ Ana.cut n (runesOf l), p.1 < p.2 ∧ p.2 ≤ (cutsL l).length := fun p hp => by
  have := (cut_shape n (runesOf l)).1 p hp; rw [runes_len] at this; exact this
/-- what is put is what the document's tokens are -/
theorem toks_tokB (n : Nat) (l : List UInt8) : tokB l ((Ana.cut n (runesOf l)).map (byPlace l)) = toks n l := by
  unfold tokB toks
  rw [zip_map_pair, List.map_map]
  refine List.map_congr_left fun x hx => ?_
  have hm : x.1 ∈ Ana.cut n (runesOf l) := by
    obtain ⟨p, i⟩ := x
    exact (List.mem_zipIdx hx).2.2 ▸ List.getElem_mem _
  obtain ⟨h1, h2⟩ := cut_shape' n l x.1 hm
  simp only [Function.comp_apply, tokAt, byPlace]
  rw [slice_pieces (Nat.le_of_lt h1) h2]
/-- tokens handed out: a row of their own -/
def TokPost (w : World) (l : List Tok) (e : Ending) (w' : World) : Prop := ∃ v, e = .returned v ∧ w'.ownsRow w.heap.size 43 4 v l.length (tokCells l) ∧ BW w w'
set_option maxRecDepth 100000 in
set_option maxHeartbeats 2000000 in
theorem cutP_any (l : List UInt8) (hl : l.length ≤ 4096) {w0 : World} {cf : Nat} {lbc : Array Value} {n : Nat} (hc : CutOk w0 cf lbc n) (ec : ∀ args w, (callFunc cf args).run Tryd.prog w = .ok (.enter cf args) w) (w : World) (hb : BW w0 w) :
    Calls Tryd.prog 25 #[.func (.func cf) #[] lbc, textV l] w (TokPost w (toks n l)) := by
  obtain ⟨tx, htxe⟩ : ∃ tx, tx = ByteArray.mk l.toArray := ⟨_, rfl⟩
  have htv : textV l = .string tx := by rw [htxe]; rfl
  have hmf : ∀ (fn : Fn) (first cap : Array Value) (w : World), (Instr.makeFunc fn first cap).run Tryd.prog w = .ok (.func fn first cap) w := fun _ _ _ _ => rfl
  obtain ⟨N, hNn⟩ : ∃ N, N = w.heap.size := ⟨_, rfl⟩
  obtain ⟨W2, hW2⟩ : ∃ W2, W2 = (w.alloc (.cells #[.string tx] 9)).alloc (.cells #[.slice none 0 0] 24) := ⟨_, rfl⟩
  have hq : BW w W2 := by rw [hW2]; exact (bw_alloc w _).alloc _
  have ht : Boxed W2 N 9 (textV l) := by rw [hW2, hNn, htv]; exact (Boxed.new w _ _).alloc _
  have ho : Boxed W2 (N + 1) 24 (.slice none 0 0) := by
    rw [hW2, hNn]
    have := Boxed.new (w.alloc (.cells #[.string tx] 9)) 24 (.slice none 0 0)
    rw [World.size_alloc] at this; exact this
  have HC := Lib.hid (hc w W2 N (N + 1) l hb (by omega) hl ⟨hq, ht, _, ho, World.ownsRow_nil _ _ _ _⟩)
  have c1 : (w.alloc (.cells #[.string tx] 9)).cell? ⟨w.heap.size, 0, none⟩ = some (.string tx) := (Boxed.new w 9 (.string tx)).cell
  have c2 := ht.cell
  rw [htv] at HC c2 ⊢
  have HW2 := Lib.hid hW2; have HNN := Lib.hid hNn
  rw [hW2, hNn] at c2
  clear htxe htv hq ht ho hc hl hb hW2
  go_enter Tryd.func25, Tryd.ntmps25
  go_wp2_with fail
  rw [← HW2.out, ← hNn]
  clear hNn
  refine HC.out.mono ?_
  rintro e W3 ⟨⟨v3, rfl⟩, hj⟩
  obtain ⟨v, hv, hr⟩ := hj.out
  obtain ⟨ao, cap, rfl⟩ := row4_form hr
  have c3 := hv.cell
  have HR := Lib.hid hr
  have HB := Lib.hid hj.bw
  clear hj hv hr c1 c2
  go_wp2
  go_ret
  have h1 := HR.out
  rw [toks_tokB, List.length_map] at h1
  refine ⟨_, rfl, ?_, HB.out⟩
  rw [show (toks n l).length = (Ana.cut n (runesOf l)).length by unfold toks; simp]
  exact h1
end Go.Proofs.YtljjaepadnmmeaaDoor
