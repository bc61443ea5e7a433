/- slices.Clone of bytes; cut: what is left of a file. -/
import Derived.Test.YtjiklpoggpdngaaVfsQ
import Derived.IntWalk
namespace Go.Proofs.Ytjiklpoggpdngaa
open Go.RowKit Go.Maps

theorem slice_nil_eql {P : Program} (w : World) {t e : TypeId} (h : P.underlying t = some (.slice e)) (a : Option Addr) (n c : Nat) : (binOp .eql t (.slice a n c) (.slice none 0 0)).run P w = .ok (.bool a.isNone) w := by
  have h1 : ∀ d : Nat, (Op.equalIn (d + 1) t (.slice a n c) (.slice none 0 0)).run P w = .ok a.isNone w := fun d => by
    cases a <;> simp [Op.equalIn, run_underlying h]
  simp only [binOp]
  simp [Op.equal, Op.maxDepth, h1 9999]

theorem cell_lt {w : World} {a : Addr} {v : Value} (h : w.cell? a = some v) : a.block < w.heap.size := by
  unfold World.cell? at h
  cases e : w.heap[a.block]? with
  | none => rw [e] at h; cases h
  | some o => exact lt_of_heap e
theorem own_empty (w : World) (e : TypeId) : (w.alloc (.cells #[] e)).ownsRow w.heap.size e 1 (.slice (some ⟨w.heap.size, 0, none⟩) 0 0) 0 [] :=
  ⟨rfl, .inr ⟨w.heap.size, 0, #[], rfl, Nat.le_refl _, heap_new _ _, Nat.le_refl _, Nat.zero_le _, rfl, rfl⟩⟩
theorem len_one (bs : List UInt8) : (bs.map bV).length = bs.length * 1 := by simp

def BytesPost (w : World) (bs : List UInt8) (e : Ending) (w' : World) : Prop :=
  ∃ v, e = .returned v ∧ w'.ownsRow w.heap.size 5 1 v bs.length (bs.map bV) ∧ Below w.heap.size w w'

set_option maxHeartbeats 1000000 in
set_option maxRecDepth 100000 in
theorem cloneb_any {w : World} {v : Value} {bs : List UInt8} (h : ByteSrc w v bs) (hn : (bs.length : Int) ≤ 140737488351232) :
    Calls Try.prog 41 #[v] w (BytesPost w bs) := by
  rcases h with ⟨rfl, rfl⟩ | ⟨a, c, rfl, h1, h2, h3⟩
  · have hq := slice_nil_eql (P := Try.prog) w Try.underlying30 none 0 0
    go_enter Try.func41, Try.ntmps41
    go_wp2
    go_ret
    exact ⟨_, rfl, ⟨rfl, .inl ⟨rfl, rfl⟩⟩, Below.refl _ _⟩
  · obtain ⟨i0, hi, hz0, hz1, hz2⟩ := infoOf info_u8
    have HI := Lib.hid hi; have HZ0 := Lib.hid hz0; have HZ1 := Lib.hid hz1; have HZ2 := Lib.hid hz2
    have H3 := Lib.hid h3
    have HB1 : Hid (0 + bs.length ≤ maxLen) := by unfold Hid maxLen; omega
    have HB2 : Hid ((0 + bs.length) * 1 ≤ 140737488355328) := by unfold Hid; omega
    have hq := slice_nil_eql (P := Try.prog) w Try.underlying30 (some a) bs.length c
    have HC : Hid (∀ j u, (bs.map bV)[j]? = some u → (w.alloc (.cells #[] 5)).cell? (a.add j) = some u) := by
      intro j u hu
      have h4 := h3 j u hu
      refine (World.cell?_of_block (w := w) (a := a.add j) (Below.heap_alloc _ _ _ ?_)).trans h4
      exact cell_lt h4
    clear hi hz0 hz1 hz2 h1 h2 h3
    go_enter Try.func41, Try.ntmps41
    go_wp2_with (at_builtin; refine wpList_append_own _ rfl _ _ 30 rfl w.heap.size 5 i0 (.int .u8 0) 1 1 Try.underlying30 HI.out HZ0.out HZ1.out HZ2.out rfl (by decide) (.slice (some ⟨w.heap.size, 0, none⟩) 0 0) 0 [] rfl (own_empty w _) a bs.length c (bs.map bV) rfl (len_one bs) (HC.out) (bV_one _) HB1.out HB2.out (by simp) ?_; intro v' w' hown hgr _)
    go_ret
    refine ⟨v', rfl, ?_, ((Below.refl _ w).alloc (Nat.le_refl _) _).grown hgr (by simp) (fun k e => by cases e; exact Nat.le_refl _)⟩
    simpa using hown


def cutN (len syn : Nat) (c : Int) : Nat := syn + (sizeC c % ((len : Int) - (syn : Int) + 1)).toNat

theorem sizeC_nonneg (c : Int) : 0 ≤ sizeC c := by
  unfold sizeC
  split
  · omega
  · split <;> omega
theorem sizeC_le (c : Int) (h : -9223372036854775808 ≤ c) (h2 : c ≤ 9223372036854775807) : sizeC c ≤ 9223372036854775807 := by
  unfold sizeC
  split
  · omega
  · split <;> omega
theorem cutN_le (len syn : Nat) (c : Int) (h : syn ≤ len) : cutN len syn c ≤ len := by
  unfold cutN
  have h1 := Int.emod_lt_of_pos (sizeC c) (show (0 : Int) < (len : Int) - (syn : Int) + 1 by omega)
  have h2 := Int.emod_nonneg (sizeC c) (show (len : Int) - (syn : Int) + 1 ≠ 0 by omega)
  omega
theorem syn_cutN (len syn : Nat) (c : Int) : syn ≤ cutN len syn c := by unfold cutN; omega

def CutPost (w : World) (bs : List UInt8) (n : Nat) (e : Ending) (w' : World) : Prop :=
  ∃ nf v, e = .returned (ptr nf) ∧ w.heap.size ≤ nf ∧ w'.heap[nf]? = some (.cells #[v, .int .i64 (n : Int)] 85 (0, 0)) ∧ w'.ownsRow w.heap.size 5 1 v n ((bs.take n).map bV) ∧ Below w.heap.size w w'

set_option maxHeartbeats 2000000 in
set_option maxRecDepth 100000 in
theorem cut_any {w : World} {g : Gh} {S : DS} {f : Nat} (h : FileRep w g S f) (c : Int) (hc : -9223372036854775808 ≤ c) (hc2 : c ≤ 9223372036854775807) :
    Calls Try.prog 52 #[ptr f, .int .i64 c] w (CutPost w (S.fs f).1 (cutN (S.fs f).1.length (S.fs f).2 c)) := by
  obtain ⟨ao, nn, cc, hfv⟩ := row_form h.row
  have hlen : nn = (S.fs f).1.length := row_len h.row hfv
  subst hlen
  have hsyn := h.syn
  have hmx := h.len
  have hcut := cutN_le (S.fs f).1.length (S.fs f).2 c hsyn
  have hz := sizeC_nonneg c
  have hz2 := sizeC_le c hc hc2
  have hcap : (S.fs f).1.length ≤ cc := by
    obtain ⟨_, h2 | ⟨g', cap', cur', hv', _, _, hn', _⟩⟩ := h.row
    · rw [h2.2]; exact Nat.zero_le _
    · rw [hfv] at hv'; cases hv'; exact hn'
  have hsrc : ByteSrc w (.slice ao (cutN (S.fs f).1.length (S.fs f).2 c) cc) ((S.fs f).1.take (cutN (S.fs f).1.length (S.fs f).2 c)) := by
    have hr := h.row
    rw [hfv] at hr
    obtain ⟨h1, h2 | ⟨g', cap', cur', hv', _, hh, hn', hc', hcs', htk⟩⟩ := hr
    · have h3 := h2.1
      injection h3 with e1 e2 e3
      have h4 : cutN (S.fs f).1.length (S.fs f).2 c = 0 := by omega
      left
      rw [h4, e1, e3]
      exact ⟨rfl, rfl⟩
    · injection hv' with e1 e2 e3
      subst e1; subst e3
      have hl : ((S.fs f).1.take (cutN (S.fs f).1.length (S.fs f).2 c)).length = cutN (S.fs f).1.length (S.fs f).2 c := by rw [List.length_take]; omega
      refine .inr ⟨⟨g', 0, none⟩, cc, by rw [hl], by rw [hl]; omega, hc', ?_⟩
      intro j u hu
      rw [List.map_take, List.getElem?_take] at hu
      split at hu
      · have hj : j < (S.fs f).1.length := by omega
        have hx : u = ((S.fs f).1.map bV)[j]'(by simpa using hj) := by
          rw [List.getElem?_eq_getElem (by simpa using hj)] at hu
          injection hu with hu; exact hu.symm
        have hrc := row_cell h.row hfv (i := j) (by simpa using hj)
        rw [hx]
        have h9 := hrc.1
        simp only [Nat.zero_add] at h9
        rw [show (⟨g', 0, none⟩ : Addr).add j = ⟨g', j, none⟩ by unfold Addr.add; by_cases e : j = 0 <;> simp [e]]
        exact h9
      · cases hu
  have cf0 : w.cell? ⟨f, 0, none⟩ = some (.slice ao (S.fs f).1.length cc) := (cell_of h.blk rfl).trans (congrArg some hfv)
  have cf1 : w.cell? ⟨f, 1, none⟩ = some (.int .i64 ((S.fs f).2 : Int)) := cell_of h.blk rfl
  obtain ⟨z, hzz⟩ : ∃ z, sizeC c = z := ⟨_, rfl⟩
  obtain ⟨m, hm⟩ : ∃ m, cutN (S.fs f).1.length (S.fs f).2 c = m := ⟨_, rfl⟩
  have hsum : ((S.fs f).2 : Int) + z % (((S.fs f).1.length : Int) - ((S.fs f).2 : Int) + 1) = (m : Int) := by
    rw [← hm, ← hzz]; unfold cutN
    have h2 := Int.emod_nonneg (sizeC c) (show ((S.fs f).1.length : Int) - ((S.fs f).2 : Int) + 1 ≠ 0 by omega)
    omega
  rw [hm] at hcut hsrc ⊢
  rw [hzz] at hz hz2
  obtain ⟨len, hL⟩ : ∃ len, (S.fs f).1.length = len := ⟨_, rfl⟩
  obtain ⟨syn, hS⟩ : ∃ syn, (S.fs f).2 = syn := ⟨_, rfl⟩
  rw [hL] at cf0 hsum hsyn hmx hcut hcap
  rw [hS] at cf1 hsum hsyn
  have hsz : ∀ W, Calls Try.prog 80 #[.int .i64 c] W fun e w' => e = .returned (.int .i64 z) ∧ w' = W := fun W => (size_any c W hc hc2).mono (fun e w' ⟨h1, h2⟩ => ⟨by rw [h1, hzz], h2.symm⟩)
  have HSZ := Lib.hid hsz
  have HTL : Hid (((S.fs f).1.take m).length = m) := by unfold Hid; rw [List.length_take, hL]; omega
  have HSRC := Lib.hid hsrc
  have hmod : z.tmod ((len : Int) - syn + 1) = z % ((len : Int) - syn + 1) := Int.tmod_eq_emod_of_nonneg hz
  have hne : ((len : Int) - syn + 1 == 0) = false := by rw [beq_eq_false_iff_ne]; omega
  have hne2 : (len : Int) - syn + 1 ≠ 0 := by omega
  have w1 : IntKind.i64.wrap ((len : Int) - syn) = (len : Int) - syn := IntWalk.i64_in _ (by omega)
  have w2 : IntKind.i64.wrap ((len : Int) - syn + 1) = (len : Int) - syn + 1 := IntWalk.i64_in _ (by omega)
  have w3 : IntKind.i64.wrap ((syn : Int) + z % ((len : Int) - syn + 1)) = (m : Int) := by rw [hsum]; exact IntWalk.i64_in _ (by omega)
  have w4 : IntKind.i64.wrap (z % ((len : Int) - syn + 1)) = z % ((len : Int) - syn + 1) := by
    have h1 := Int.emod_lt_of_pos z (show (0 : Int) < (len : Int) - syn + 1 by omega)
    have h2 := Int.emod_nonneg z (show (len : Int) - syn + 1 ≠ 0 by omega)
    exact IntWalk.i64_in _ (by omega)
  clear h hsrc hfv hsz hm hzz hc hc2 hL hS hsum
  unfold ptr
  go_enter Try.func52, Try.ntmps52
  go_wp2
  go_quiet ((go_at_call 80; exact Calls.quiet_of_same (HSZ.out _)))
  clear w1 w2 w3 w4 hne hne2 hmod hz hz2
  have hmc : m ≤ cc := by omega
  have HMX : Hid (m ≤ 16777216) := by unfold Hid; omega
  clear hcap hcut hsyn
  cases ao
  all_goals
    go_wp2_with fail
    refine (cloneb_any (w := w.drewN _) (HSRC.out.keep (fun _ _ _ _ _ => rfl)) (by rw [List.length_take]; have := HMX.out; omega)).mono ?_
    rintro e w2 ⟨v, rfl, hrow, hbl⟩
    have HR := Lib.hid hrow; have HB := Lib.hid hbl
    obtain ⟨vo, vn, vc, rfl⟩ := row_form hrow
    clear hrow hbl
    go_wp2
    go_ret
    have h1 := row_alloc HR.out (.cells #[.slice vo vn vc, .int .i64 (m : Int)] 85)
    rw [HTL.out] at h1
    exact ⟨w2.heap.size, .slice vo vn vc, rfl, HB.out.size, heap_new _ _, h1, (Below.trans (b := w2) ⟨HB.out.os, HB.out.tape, HB.out.output, HB.out.size, HB.out.block⟩ ((Below.refl _ w2).alloc HB.out.size _))⟩

end Go.Proofs.Ytjiklpoggpdngaa
