/- kept: the changes that the choices keep, made to the durable directory. -/
import Derived.Test.YtjiklpoggpdngaaVfsP
namespace Go.Proofs.Ytjiklpoggpdngaa
open Go.RowKit Go.Maps

/-- is a change kept by a choice? -/
def odd (c : Int) : Bool := c % 2 != 0

def keptF : List Ch → List Int → AM → AM
  | [], _, m => m
  | c :: r, cs, m => keptF r cs.tail (if odd (cs.headD 0) then apCh c m else m)

theorem keptF_snoc (l : List Ch) (c : Ch) : ∀ (cs : List Int) (m : AM), keptF (l ++ [c]) cs m = if odd ((cs.drop l.length).headD 0) then apCh c (keptF l cs m) else keptF l cs m := by
  induction l with
  | nil => intro cs m; rfl
  | cons x r ih =>
    intro cs m
    show keptF (r ++ [c]) cs.tail _ = _
    rw [ih]
    simp only [List.length_cons, List.drop_tail, keptF]

theorem keptF_len (l : List Ch) : ∀ (cs : List Int) (m : AM), (keptF l cs m).length ≤ m.length + l.length := by
  induction l with
  | nil => intro cs m; exact Nat.le_refl _
  | cons x r ih =>
    intro cs m
    unfold keptF
    refine Nat.le_trans (ih _ _) ?_
    have := len_apCh x m
    split
    · simp; omega
    · simp

theorem keptF_mem {l : List Ch} : ∀ {cs : List Int} {m : AM} {p : Nm × Nat}, p ∈ keptF l cs m → p ∈ m ∨ ∃ c ∈ l, p.2 ∈ filesOf c := by
  induction l with
  | nil => intro cs m p h; exact .inl h
  | cons x r ih =>
    intro cs m p h
    unfold keptF at h
    rcases ih h with h | ⟨c, hc, hf⟩
    · split at h
      · rcases mem_apCh h with h | h
        · exact .inr ⟨x, List.mem_cons_self .., h⟩
        · exact .inl h
      · exact .inl h
    · exact .inr ⟨c, List.mem_cons_of_mem _ hc, hf⟩

/-- a change's closure, called at another map -/
theorem ch_call {w W : World} {d : Nat} {g : Gh} {S : DS} (h : Rep w d g S) {lb : Nat} {l : AM} (hl : IsDir Try.prog W lb l) (hlb : g.role lb = .no) (hlen : l.length < 4000000) (hb : ∀ b, g.role b ≠ .no → W.heap[b]? = w.heap[b]?) (hfl : ∀ p ∈ l, g.role p.2 = .file)
    {i : Nat} (hi : i < g.cls.length) (hi' : i < S.chg.length) :
    ∃ k caps, g.cls[i] = .func (.func k) #[] caps ∧ ((k = 68 ∧ ∃ a b, caps = #[a, b]) ∨ (k = 69 ∧ ∃ a b c, caps = #[a, b, c]) ∨ (k = 72 ∧ ∃ a, caps = #[a])) ∧
      Calls Try.prog k (#[.map (some lb)] ++ caps) W (ChPost W lb (apCh S.chg[i] l)) := by
  have hc := h.cl.2 i hi hi'
  have kb : ∀ {b : Nat} {v : Value} {t : TypeId}, g.role b = .box → one w b v t → one W b v t := fun e o => one_keep o (hb _ (by rw [e]; simp))
  have kf : ∀ {f : Nat}, g.role f = .file → Plain W f := fun e => ⟨_, _, (hb _ (by rw [e]; simp)).trans (h.fl _ e).blk⟩
  have ne : ∀ {b : Nat}, g.role b = .box → b ≠ lb := fun e e2 => by rw [e2, hlb] at e; cases e
  have hfi : ∀ f ∈ filesOf S.chg[i], g.role f = .file := h.fchg _ (List.getElem_mem hi')
  cases hch : S.chg[i] with
  | put n f =>
    rw [hch] at hc hfi
    obtain ⟨a, b, s, hv, ra, rb, oa, ob, rfl, hs⟩ := hc
    exact ⟨_, _, hv, .inl ⟨rfl, _, _, rfl⟩, ch_put hl (by omega) (kb ra oa) (kb rb ob) hs⟩
  | ren m n f =>
    rw [hch] at hc hfi
    obtain ⟨a, b, c, s, t, hv, ra, rb, rc, oa, ob, oc, rfl, rfl, hs, ht⟩ := hc
    exact ⟨_, _, hv, .inr (.inl ⟨rfl, _, _, _, rfl⟩), ch_ren hl (by omega) (kb ra oa) (kb rb ob) (kb rc oc) (ne ra) (ne rb) (ne rc) hs ht (kf (hfi f (by simp [filesOf]))) (fun p hp => kf (hfl p hp))⟩
  | del n =>
    rw [hch] at hc hfi
    obtain ⟨a, s, hv, ra, oa, rfl, hs⟩ := hc
    exact ⟨_, _, hv, .inr (.inr ⟨rfl, _, rfl⟩), ch_del hl (kb ra oa) hs⟩

def KeptPost (W w : World) (cb : Nat) (S : DS) (cs : List Int) (e : Ending) (w' : World) : Prop :=
  ∃ lb, e = .returned (.map (some lb)) ∧ w.heap.size ≤ lb ∧ IsDir Try.prog w' lb (keptF S.chg cs S.dur) ∧ Chosen W w' cb (cs.drop S.chg.length) ∧ Moves (fun k => k = cb) w w'

theorem row_cell {w : World} {base : Nat} {e : TypeId} {n : Nat} {v : Value} {xs : List Value} (h : w.ownsRow base e 1 v n xs) {a : Addr} {k c : Nat} (hv : v = .slice (some a) k c) {i : Nat} (hi : i < xs.length) : w.cell? ⟨a.block, a.off + i, none⟩ = some xs[i] ∧ a.off = 0 ∧ a.spot = none := by
  obtain ⟨h1, h2 | ⟨g, cap, cur, hv', hg, hh, hn, hc, hcs, htk⟩⟩ := h
  · rw [h2.1] at hv; cases hv
  · rw [hv'] at hv
    cases hv
    refine ⟨?_, rfl, rfl⟩
    refine cell_of hh ?_
    have h3 : xs[i]? = some xs[i] := List.getElem?_eq_getElem hi
    generalize xs[i] = u at h3 ⊢
    rw [← htk, List.getElem?_take] at h3
    split at h3
    · rw [Array.getElem?_toList] at h3
      rw [show (0 : Nat) + i = i by omega]; exact h3
    · cases h3

theorem odd_tmod (c : Int) : (c.tmod 2 != 0) = odd c := by
  unfold odd
  rw [Bool.eq_iff_iff]
  simp only [bne_iff_ne, ne_eq]
  rw [Int.tmod_eq_emod]
  split
  · simp
  · rename_i h
    have h2 : ¬ (2 : Int) ∣ c := fun e => h (.inr e)
    simp
    omega
def lbne (a b : Nat) : Prop := a ≠ b

set_option maxHeartbeats 2000000 in
set_option maxRecDepth 100000 in
theorem kept_any {W w : World} {d : Nat} {g : Gh} {S : DS} (h : Rep w d g S) (hbd : S.bd < 1000000) {cb : Nat} {cs : List Int} (hch : Chosen W w cb cs) (hB : Below W.heap.size W w) (hcb : W.heap.size ≤ cb) (hno : g.role cb = .no) :
    Calls Try.prog 49 #[ptr d, .func (.func 48) #[] #[ptr cb]] w (KeptPost W w cb S cs) := by
  have hmm := @run_makeMap Try.prog
  have hcblt : cb < w.heap.size := by obtain ⟨_, _, ho, _⟩ := hch; exact lt_of_heap ho
  have c1 : w.cell? ⟨d, 1, none⟩ = some (.map (some g.db)) := cell_of h.dir rfl
  have hdl := lt_of_heap h.dir
  have hdbl := h.lt g.db (by rw [h.rb]; simp)
  have hsd := h.bdur
  have hcl9 : (S.chg.length : Int) ≤ 1000000 := by omega
  obtain ⟨ro, rn, rc, hcv⟩ := row_form h.chs
  have hrl : rn = S.chg.length := row_len h.chs hcv
  subst hrl
  have HH := Lib.hid h; have HCH := Lib.hid hch; have HB := Lib.hid hB; have HCB := Lib.hid hcb; have HNO := Lib.hid hno; have HCV := Lib.hid hcv; have HSD := Lib.hid hsd; have HBD := Lib.hid hbd
  have HCL := Lib.hid hcblt
  have HDL := Lib.hid hdl
  clear h hch hB hcb hno hcv hsd hbd hcblt
  unfold ptr
  go_enter Try.func49, Try.ntmps49
  go_wp2_with fail
  have hcp := copy_any (w := w.alloc (.map #[] 0)) (bd := w.heap.size) (bs := g.db) (l := S.dur) (isdir_empty (heap_new _ _)) (isdir_keep HH.out.dur (Below.heap_alloc _ _ _ hdbl)) (by omega) (by have := HSD.out; have := HBD.out; unfold maxLen; omega)
  refine hcp.mono ?_
  clear hcp
  rintro e w1 ⟨rfl, hdir1, hm1⟩
  have hk1 : ∀ b, b < w.heap.size → w1.heap[b]? = w.heap[b]? := fun b hb => (hm1.block b (by simp; omega) (by omega)).trans (Below.heap_alloc _ _ _ hb)
  have c21 : w1.cell? ⟨d, 2, none⟩ = some (.slice ro S.chg.length rc) := cell_of ((hk1 d hdl).trans HH.out.dir) (congrArg some HCV.out)
  have hmv1 : Moves (fun k => k = cb) w w1 := ⟨hm1.os, hm1.tape, hm1.output, by have := hm1.size; simp at this; omega, fun k hk _ => hk1 k hk⟩
  have HDIR := Lib.hid hdir1
  have HM1 := Lib.hid hmv1
  have HK1 := Lib.hid hk1
  clear hm1 hdir1 hmv1 hk1
  go_wp2
  go_loopw [7, 20] (fun _ i wr => ∃ k : Nat, k ≤ S.chg.length ∧ i = .int .i64 k ∧ IsDir Try.prog wr w.heap.size (keptF (S.chg.take k) cs S.dur) ∧ Chosen W wr cb (cs.drop k) ∧ Moves (fun x => x = cb) w wr) (fun _ i _ => S.chg.length - (intOf i).toNat)
  case atStart =>
    refine ⟨0, Nat.zero_le _, rfl, HDIR.out, ?_, HM1.out⟩
    obtain ⟨ao, cap, ho, hs⟩ := HCH.out
    exact ⟨ao, cap, one_keep ho (HK1.out cb HCL.out), hs⟩
  case round =>
    obtain ⟨k, hk, rfl, hdirk, hchk, hmvk⟩ := hrel
    have hrk : Rep wr d g S := HH.out.moved hmvk (fun b hb e => by rw [e, HNO.out] at hb; exact hb rfl)
    by_cases hlt : k < S.chg.length
    · have hi : k < g.cls.length := by rw [HH.out.cl.1]; exact hlt
      cases ro with
      | none =>
        exfalso
        have h1 := hrk.chs
        rw [HCV.out] at h1
        obtain ⟨_, h2 | ⟨g', cap', cur', hv', _⟩⟩ := h1
        · omega
        · cases hv'
      | some a =>
        obtain ⟨hcell, ha0, ha1⟩ := row_cell hrk.chs HCV.out hi
        have hmem : ∀ p ∈ keptF (S.chg.take k) cs S.dur, g.role p.2 = .file := by
          intro p hp
          rcases keptF_mem hp with h1 | ⟨c, hc, hf⟩
          · exact HH.out.fdur p h1
          · exact HH.out.fchg c (List.mem_of_mem_take hc) _ hf
        have hln : (keptF (S.chg.take k) cs S.dur).length < 4000000 := by
          have h1 := keptF_len (S.chg.take k) cs S.dur
          rw [List.length_take] at h1
          have := HSD.out; have := HBD.out
          omega
        have hn0 : g.role w.heap.size = .no := HH.out.fresh (Nat.le_refl _)
        have HCC := Lib.hid (fun (W' : World) (hl : IsDir Try.prog W' w.heap.size (keptF (S.chg.take k) cs S.dur)) (hb : ∀ b, g.role b ≠ .no → W'.heap[b]? = wr.heap[b]?) => ch_call hrk hl hn0 hln hb hmem hi hlt)
        obtain ⟨kk, caps, hval, hkk, hcl0⟩ := ch_call hrk hdirk hn0 hln (fun _ _ => rfl) hmem hi hlt
        rw [hval] at hcell
        have hBr : Below W.heap.size W wr := HB.out.trans (hmvk.below (fun x hx => by subst hx; exact HCB.out) HB.out.size)
        obtain ⟨c, hc⟩ : ∃ c, (cs.drop k).headD 0 = c := ⟨_, rfl⟩
        have hn := next_any hchk hBr HCB.out
        unfold NextPost at hn
        rw [hc] at hn
        have HN := Lib.hid hn
        have hod : (c.tmod 2 != 0) = odd c := odd_tmod c
        have HT : Hid (∀ m, keptF (S.chg.take (k + 1)) cs m = if odd c then apCh S.chg[k] (keptF (S.chg.take k) cs m) else keptF (S.chg.take k) cs m) := by
          intro m
          rw [List.take_succ_eq_append_getElem hlt, keptF_snoc, List.length_take, Nat.min_eq_left hk, hc]
        have HVAL := Lib.hid hval
        have HD := Lib.hid hdirk
        have HM := Lib.hid hmvk
        have hab : a = ⟨a.block, a.off, none⟩ := by cases a; simp at ha1 ⊢; exact ha1
        obtain ⟨ab, aoff, asp⟩ := a
        simp only at ha0 ha1 hcell
        subst ha0; subst ha1
        rw [show (0 : Nat) + k = k by omega] at hcell
        have hne : lbne w.heap.size cb := by unfold lbne; have := HCL.out; omega
        have HNE := Lib.hid hne
        clear hdirk hchk hmvk hrk hval hn hc hmem hln hn0 hBr hab hne hcl0
        cases ho : odd c
        · rw [ho] at hod HT
          clear ho
          go_wp2_with fail
          refine HN.out.mono ?_
          rintro e w2 ⟨rfl, hch2, hm2⟩
          have HCH2 := Lib.hid hch2; have HM2 := Lib.hid hm2
          clear hch2 hm2
          go_wp2
          go_roundw
          case rel =>
            refine ⟨k + 1, by omega, by go_num, ?_, ?_, HM.out.trans HM2.out (fun _ _ e => e)⟩
            · rw [HT.out]; exact isdir_keep HD.out (HM2.out.block _ (World.ownsMap.lt HD.out) HNE.out)
            · have h1 := HCH2.out; rw [List.tail_drop] at h1; exact h1
          case measure => simp [intOf]; omega
        · rw [ho] at hod HT
          clear ho
          rcases hkk with ⟨rfl, x, y, rfl⟩ | ⟨rfl, x, y, z, rfl⟩ | ⟨rfl, x, rfl⟩
          all_goals
            go_wp2_with fail
            refine HN.out.mono ?_
            rintro e w2 ⟨rfl, hch2, hm2⟩
            have hd2 : IsDir Try.prog w2 w.heap.size (keptF (S.chg.take k) cs S.dur) := isdir_keep HD.out (hm2.block _ (World.ownsMap.lt HD.out) HNE.out)
            obtain ⟨k2, caps2, hv2, _, hcall2⟩ := HCC.out w2 hd2 (fun b hb => hm2.block b (Nat.lt_of_lt_of_le (HH.out.lt b hb) HM.out.size) (fun e => hb (by rw [e]; exact HNO.out)))
            rw [HVAL.out] at hv2
            cases hv2
            have HCH2 := Lib.hid hch2; have HM2 := Lib.hid hm2; have HC2 := Lib.hid hcall2
            clear hch2 hm2 hd2 hcall2
            go_wp2_with fail
            refine HC2.out.mono ?_
            rintro e w3 ⟨rfl, hd3, hm3⟩
            have HD3 := Lib.hid hd3; have HM3 := Lib.hid hm3
            clear hd3 hm3
            go_wp2
            go_roundw
            case rel =>
              refine ⟨k + 1, by omega, by go_num, ?_, ?_, (HM.out.trans HM2.out (fun _ _ e => e)).trans HM3.out (fun i hi e => absurd hi (by rw [e]; exact Nat.lt_irrefl _))⟩
              · rw [HT.out]; exact HD3.out
              · have h1 := HCH2.out; rw [List.tail_drop] at h1
                obtain ⟨ao, cap, ho1, hs1⟩ := h1
                exact ⟨ao, cap, one_keep ho1 (HM3.out.block cb (lt_of_heap ho1) (fun e => HNE.out e.symm)), hs1⟩
            case measure => simp [intOf]; omega
    · have hk2 : k = S.chg.length := by omega
      have HD := Lib.hid hdirk; have HC := Lib.hid hchk; have HM := Lib.hid hmvk
      have c0k : True := trivial
      clear hdirk hchk hmvk hrk hk
      go_wp2
      go_ret
      have h1 := HD.out; have h2 := HC.out
      rw [hk2] at h2
      rw [hk2, List.take_length] at h1
      exact ⟨_, rfl, Nat.le_refl _, h1, h2, HM.out⟩

end Go.Proofs.Ytjiklpoggpdngaa
