/- Stage 6, the program: Link and Run. -/
import Derived.Test.YtljjaepadnmmeaaDoorAnbR
namespace Go.Proofs.YtljjaepadnmmeaaDoor
open Go.RowKit Go.Maps Fld Ana Go.Shelf
attribute [local go_sem] Oper.semAt_some

theorem linkT_map (n : Int) (l : List Tok) : linkT n l = mapT (one n) l := rfl
theorem link_through {n : Int} (h : filterI n = true) (l : List Tok) : linkL n l = throughL (one n) l := by
  unfold linkL throughL; rw [if_pos h, linkT_map]
theorem pieces_len {s : List UInt8} {i k : Nat} (hi : i ≤ k) (hk : k ≤ (cutsL s).length) : (pieces s i k).length ≤ s.length := by
  rw [← slice_pieces hi hk, List.length_take, List.length_drop]; omega
theorem bare_len (s : List UInt8) : (bare s).length ≤ s.length := by
  refine cuts_ind (P := fun s => (bare s).length ≤ s.length) (Nat.le_refl _) ?_ s
  intro l hne ih
  have hp := next_pos hne
  rw [bare_step hne, List.length_append]
  rw [List.length_drop] at ih
  split
  · simp only [List.length_nil]; omega
  · rw [List.length_take]; omega
theorem one_len {n : Int} {s x : List UInt8} (h : x ∈ one n s) : x.length ≤ s.length := by
  unfold one at h
  split at h
  · rw [List.mem_singleton.1 h, fold_len]; exact Nat.le_refl _
  · split at h
    · split at h
      · cases h
      · rw [List.mem_singleton.1 h]; exact Nat.le_refl _
    · split at h
      · split at h
        · obtain ⟨i, hi, rfl⟩ := List.mem_map.1 h
          have := List.mem_range.1 hi
          exact pieces_len (by omega) (by omega)
        · rw [List.mem_singleton.1 h]; exact Nat.le_refl _
      · split at h
        · split at h
          · rw [List.mem_singleton.1 h]; exact pieces_len (by omega) (by omega)
          · rw [List.mem_singleton.1 h]; exact Nat.le_refl _
        · split at h
          · split at h
            · cases h
            · rw [List.mem_singleton.1 h]; exact bare_len s
          · rw [List.mem_singleton.1 h]; exact Nat.le_refl _
theorem mapT_len {n : Int} {l : List Tok} {B : Int} (h : ∀ t ∈ l, (t.text.length : Int) ≤ B) : ∀ t ∈ mapT (one n) l, (t.text.length : Int) ≤ B := by
  intro t ht
  obtain ⟨u, hu, ht⟩ := List.mem_flatMap.1 ht
  obtain ⟨x, hx, rfl⟩ := List.mem_map.1 ht
  have h1 := h u hu
  have h2 := one_len hx
  simp only; omega
theorem through_len {n : Int} {l : List Tok} {B : Int} (h : ∀ t ∈ l, (t.text.length : Int) ≤ B) : ∀ t ∈ (throughL (one n) l).1, (t.text.length : Int) ≤ B := by
  unfold throughL
  split
  · exact mapT_len h
  · intro t ht; cases ht
theorem tokSrc_of_row {w : World} {base : Nat} {v : Value} {l : List Tok} (h : w.ownsRow base 43 4 v l.length (tokCells l)) : TokSrc w v l := by
  rcases h.2 with ⟨rfl, h0⟩ | ⟨g, cap, cur, rfl, hg, hgb, hc⟩
  · exact ⟨none, 0, by rw [h0], fun j u hu => by
      rw [show l = [] from List.eq_nil_of_length_eq_zero h0] at hu; cases hu⟩
  · refine ⟨some ⟨g, 0, none⟩, cap, rfl, fun j u hu => ⟨g, 0, rfl, ?_⟩⟩
    obtain ⟨_, _, _, htk⟩ := hc
    refine cell_of hgb ?_
    rw [← htk, List.getElem?_take] at hu
    split at hu
    · rw [Array.getElem?_toList] at hu
      rw [show (0 : Nat) + j = j by omega]; exact hu
    · cases hu
/-- a row's text, and that laying it again changes nothing -/
theorem row_text {w : World} {base g n cap : Nat} {l : List Tok} (h : w.ownsRow base 43 4 (.slice (some ⟨g, 0, none⟩) n cap) l.length (tokCells l)) {i : Nat} (hi : i < l.length) :
    w.cell? ⟨g, i * 4, none⟩ = some (textV l[i].text) ∧ w.frozen? ⟨g, i * 4, none⟩ = false ∧ w.setCell ⟨g, i * 4, none⟩ (textV l[i].text) = w := by
  rcases h.2 with ⟨e, _⟩ | ⟨g', cap', cur, e, hg, hgb, hc⟩
  · cases e
  · injection e with e1 e2 e3; injection e1 with e1; injection e1 with e1
    subst e1
    obtain ⟨_, _, _, htk⟩ := hc
    have h1 := tokCells_at l i hi 0 (textV l[i].text) rfl
    rw [← htk, List.getElem?_take] at h1
    split at h1
    · rw [Array.getElem?_toList, show 4 * i + 0 = i * 4 by omega] at h1
      exact ⟨cell_of hgb h1, unfrozen_of hgb, setCell_same hgb h1⟩
    · cases h1
theorem row_on {W W' : World} {base e s n : Nat} {v : Value} {xs : List Value} (h : W.ownsRow base e s v n xs) (hb : BW W W') : W'.ownsRow base e s v n xs := by
  refine h.kept (bw_grow hb) ?_
  cases hv : v.ownBlock with
  | none => exact .inl rfl
  | some b => exact .inr (by simp)
set_option maxRecDepth 100000 in
set_option maxHeartbeats 4000000 in
theorem link_any (n : Int) {l : List Tok} (hlt : ∀ t ∈ l, (t.text.length : Int) ≤ 1000000000000) (hll : (l.length : Int) ≤ 1000000000000) {v : Value} (w : World) (hN : NextOk w) (hs : TokSrc w v l) :
    Calls Tryd.prog 17 #[.int .i64 n, v] w (LinkPost w (linkL n l)) := by
  have HS := Lib.hid hs
  obtain ⟨ao, cap, hv, _⟩ := hs
  rw [hv] at HS ⊢
  have HF := Lib.hid (filterOf_any n w hN)
  have hfn := fun W => nil_is_nil W Tryd.underlying52 ⟨_, _, _, rfl⟩
  have hff := fun (W : World) f a b => func_is_not_nil W Tryd.underlying52 ⟨_, _, _, rfl⟩ f a b
  obtain ⟨k, hk⟩ : ∃ k, k = l.length := ⟨_, rfl⟩
  rw [← hk] at HS ⊢
  have HLT := Lib.hid hlt; have HLL := Lib.hid hll
  clear hv hN hlt hll hk
  refine (callsIn_wide (n := 5)).1 ?_
  refine callsIn_of_wp Tryd.func17 rfl trivial ?_ rfl
  simp only [Tryd.ntmps17, List.size_toArray, List.length_cons, List.length_nil, Nat.reduceAdd, Nat.reduceSub, Array.replicate_succ, Array.replicate_zero, List.push_toArray, List.append_toArray, List.nil_append, List.cons_append]
  gi_wp2
  refine ⟨trivial, ?_⟩
  refine (callsIn_wide.2 HF.out).mono ?_
  rintro e X ⟨hq, (⟨hf, ff, lbf, rfl, he, hok⟩ | ⟨hf, rfl⟩)⟩
  · have hle := link_through hf l
    have HTH := Lib.hid (through_any (w0 := w) (wf := X) hok he HLT.out HLL.out X hq (BW.refl X) (HS.out.bw hq))
    have HRL := Lib.hid (through_len (n := n) HLT.out)
    obtain ⟨r, hr⟩ : ∃ r, r = throughL (one n) l := ⟨_, rfl⟩
    rw [← hr] at HTH HRL hle
    have HLE := Lib.hid hle
    have HR96 : Hid (r.1.length ≤ 4096) := by
      unfold Hid; rw [hr]; unfold throughL; split
      · assumption
      · exact Nat.zero_le _
    have HQ := Lib.hid hq
    obtain ⟨T, er⟩ := r
    clear hf he hok hq hr hle
    gi_wp2
    refine ⟨trivial, ?_⟩
    refine (callsIn_wide.2 HTH.out).mono ?_
    rintro e X2 ⟨v2, rfl, hrow, hq2⟩
    obtain ⟨ao2, cap2, rfl⟩ := row4_form hrow
    obtain ⟨m, hm⟩ : ∃ m, m = T.length := ⟨_, rfl⟩
    have HROW := Lib.hid (row_base hrow (base' := w.heap.size) HQ.out.size)
    have HB2 := Lib.hid (HQ.out.trans hq2)
    simp only at HROW HR96 HRL ⊢
    rw [← hm] at HR96 ⊢
    have HM := Lib.hid hm
    clear hrow hq2 hm
    gi_wp2
    gi_loopw [9, 22] (fun _ s22 wr => ∃ i : Nat, i ≤ m ∧ s22 = .int .i64 (i : Int) ∧ wr.ownsRow w.heap.size 43 4 (.slice ao2 T.length cap2) T.length (tokCells T) ∧ BW w wr) (fun _ s22 _ => m - (intOf s22).toNat)
    case atStart => exact ⟨0, Nat.zero_le _, rfl, HROW.out, HB2.out⟩
    case round =>
      obtain ⟨i, hi, rfl, hrw, hbw⟩ := hrel
      have HRW := Lib.hid hrw; have HBW := Lib.hid hbw
      clear hrw hbw
      by_cases hlt : i < m
      · have hlti : (i : Int) < (m : Int) := by omega
        have hi0 : 0 ≤ (i : Int) := by omega
        have hil : i < T.length := by rw [← HM.out]; exact hlt
        have him : (m : Int) ≤ 4096 := by have := HR96.out; omega
        obtain ⟨g, hg⟩ : ∃ g, ao2 = some ⟨g, 0, none⟩ := by
          rcases HRW.out.2 with ⟨_, h0⟩ | ⟨g, c, cur, e, _⟩
          · omega
          · injection e with e1 _ _; exact ⟨g, e1⟩
        subst hg
        obtain ⟨c1, f1, e1⟩ := row_text HRW.out hil
        have htl := HRL.out T[i] (List.getElem_mem hil)
        obtain ⟨tx, htx⟩ : ∃ tx, tx = ByteArray.mk T[i].text.toArray := ⟨_, rfl⟩
        have htv : textV T[i].text = .string tx := by rw [htx]; rfl
        have hts : tx.size = T[i].text.length := by rw [htx]; exact text_size _
        have HCL := Lib.hid (clone_any tx (by omega) wr)
        rw [htv] at c1
        have HLT2 := Lib.hid hlt; have HIL := Lib.hid hil; have HTV := Lib.hid htv
        clear htx hts htl f1 e1 hlt hi htv
        gi_wp2
        refine ⟨trivial, ?_⟩
        refine (callsIn_wide.2 HCL.out).mono ?_
        rintro e X3 ⟨rfl, hq3⟩
        have hrw3 := row_on HRW.out hq3
        obtain ⟨c3, f3, e3⟩ := row_text hrw3 HIL.out
        rw [HTV.out] at c3 e3
        have HRW3 := Lib.hid hrw3; have HB3 := Lib.hid (HBW.out.trans hq3); have HE3 := Lib.hid e3
        clear hq3 hrw3 e3 c1
        gi_wp2
        try rw [HE3.out]
        go_roundw
        case rel => exact ⟨i + 1, HLT2.out, by first | rfl | go_num, by first | exact HRW3.out | (rw [HE3.out]; exact HRW3.out), by first | exact HB3.out | (rw [HE3.out]; exact HB3.out)⟩
        case measure => simp [intOf]; have := HLT2.out; omega
      · have hlti : (m : Int) ≤ (i : Int) := by omega
        clear hlt hi
        gi_wp2
        go_ret2
        rw [HLE.out, HM.out]
        exact ⟨_, rfl, HRW.out, HBW.out⟩
  · have HL : Hid (linkL n l = ([], 60)) := by unfold Hid linkL; rw [if_neg (by rw [hf]; decide)]
    have HQ := Lib.hid hq
    clear hf hq
    gi_wp2
    go_ret2
    rw [HL.out]
    exact ⟨_, rfl, World.ownsRow_nil _ _ _ _, HQ.out⟩
end Go.Proofs.YtljjaepadnmmeaaDoor
