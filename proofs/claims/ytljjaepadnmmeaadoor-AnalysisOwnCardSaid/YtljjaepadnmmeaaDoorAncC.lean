/- Stage 6, the laws: a chain is its links. -/
import Derived.Test.YtljjaepadnmmeaaDoorAncB
namespace Go.Proofs.YtljjaepadnmmeaaDoor
open Go.RowKit Go.Maps Fld Ana Go.Shelf
attribute [local go_sem] Oper.semAt_some

theorem linkL_texts {n : Int} {l : List Tok} {B : Int} (h : ∀ t ∈ l, (t.text.length : Int) ≤ B) : ∀ t ∈ (linkL n l).1, (t.text.length : Int) ≤ B := by
  unfold linkL
  split
  · split
    · exact mapT_len h
    · intro t ht; cases ht
  · intro t ht; cases ht
theorem links_texts {B : Int} : ∀ (c : List Int) (l : List Tok), (∀ t ∈ l, (t.text.length : Int) ≤ B) → ∀ t ∈ (linksL c l).1, (t.text.length : Int) ≤ B
  | [], l, h => h
  | n :: c, l, h => by
    rw [linksL]
    split
    · exact links_texts c _ (linkL_texts h)
    · intro t ht; cases ht
theorem run_texts (c : List Int) (s : List UInt8) : ∀ t ∈ (runL c s).1, (t.text.length : Int) ≤ 4096 := by
  unfold runL
  split
  · intro t ht; cases ht
  · split
    · intro t ht; cases ht
    · split
      · intro t ht; cases ht
      · exact links_texts _ _ (fun t ht => by have := toks_text ht; omega)
theorem run_row {w : World} {ao : Option Addr} {cap : Nat} {c : List Int} (h : ISrc w ao cap c) (hN : NextOk w) (s : List UInt8) (n : Nat) (hn : n = c.length) {r : List Tok × Int} (hr : runL c s = r) (W : World) (hW : BW w W) :
    Calls Tryd.prog 10 #[.slice ao n cap, textV s] W fun e w' => ∃ ao2 cap2, e = .returned (.tuple #[.slice ao2 r.1.length cap2, .int .i64 r.2]) ∧ w'.ownsRow W.heap.size 43 4 (.slice ao2 r.1.length cap2) r.1.length (tokCells r.1) ∧ BW W w' := by
  have h1 := run_any W ao cap c (h.bw hW) s (hN.bw hW)
  rw [← hn, hr] at h1
  refine h1.mono ?_
  rintro e w' ⟨v, rfl, hrow, hq⟩
  obtain ⟨ao2, cap2, rfl⟩ := row4_form hrow
  exact ⟨ao2, cap2, rfl, hrow, hq⟩
theorem link_row {w : World} {v : Value} {l : List Tok} (hs : TokSrc w v l) (hlt : ∀ t ∈ l, (t.text.length : Int) ≤ 1000000000000) (hll : (l.length : Int) ≤ 1000000000000) (hN : NextOk w) (n : Int) {r : List Tok × Int} (hr : linkL n l = r) (W : World) (hW : BW w W) :
    Calls Tryd.prog 17 #[.int .i64 n, v] W fun e w' => ∃ ao2 cap2, e = .returned (.tuple #[.slice ao2 r.1.length cap2, .int .i64 r.2]) ∧ w'.ownsRow W.heap.size 43 4 (.slice ao2 r.1.length cap2) r.1.length (tokCells r.1) ∧ BW W w' := by
  have h1 := link_any n hlt hll W (hN.bw hW) (hs.bw hW)
  rw [hr] at h1
  refine h1.mono ?_
  rintro e w' ⟨v, rfl, hrow, hq⟩
  obtain ⟨ao2, cap2, rfl⟩ := row4_form hrow
  exact ⟨ao2, cap2, rfl, hrow, hq⟩
set_option maxRecDepth 100000 in
set_option maxHeartbeats 4000000 in
theorem chain_any (w : World) (ao : Option Addr) (cap : Nat) (c : List Int) (h : ISrc w ao cap c) (s : List UInt8) (hN : NextOk w) : Calls Tryd.prog 6 #[.slice ao c.length cap, textV s] w (TrueP w) := by
  obtain ⟨n, hn⟩ : ∃ n, n = c.length := ⟨_, rfl⟩
  obtain ⟨tx, htx⟩ : ∃ tx, textV s = .string tx := ⟨_, rfl⟩
  have HKN := Lib.hid (known_any w hN)
  have HCK := Lib.hid (fun W (hW : BW w W) => check_any W ao cap c (h.bw hW) (hN.bw hW))
  obtain ⟨r, hr⟩ : ∃ r, runL c s = r := ⟨_, rfl⟩
  have HRN := Lib.hid (fun W (hW : BW w W) => run_row h hN s n hn hr W hW)
  rw [htx] at HRN ⊢
  rw [← hn] at HCK ⊢
  have HR := Lib.hid hr; have HN := Lib.hid hn; have HS := Lib.hid h; have HNX := Lib.hid hN; have HTX := Lib.hid htx
  obtain ⟨T, er⟩ := r
  by_cases hck : checkL c = 0
  · rw [hck] at HCK
    have HCK0 := Lib.hid hck
    have hn1 : 1 ≤ n := by have := (check_zero c).1 hck; omega
    clear h hn htx hr hN
    by_cases h1 : n = 1
    · subst h1
      clear hck hn1
      go_enter Tryd.func6, Tryd.ntmps6
      go_wp2_with fail
      refine HKN.out.mono ?_
      rintro e w1 ⟨rfl, hq1⟩
      have HQ1 := Lib.hid hq1
      clear hq1
      go_wp2_with fail
      refine (HRN.out _ HQ1.out).mono ?_
      rintro e w2 ⟨ao2, cp2, rfl, _, hq2⟩
      have HQ2 := Lib.hid (HQ1.out.trans hq2)
      clear hq2
      go_wp2_with fail
      refine (HCK.out _ HQ2.out).mono ?_
      rintro e w3 ⟨rfl, hq3⟩
      have HQ3 := Lib.hid (HQ2.out.trans hq3)
      clear hq3
      go_wp2
      go_ret
      exact ⟨rfl, HQ3.out⟩
    · have h2 : 2 ≤ n := by omega
      obtain ⟨r2, hr2⟩ : ∃ r2, runL (c.take (n - 1)) s = r2 := ⟨_, rfl⟩
      have HRN2 := Lib.hid (fun W (hW : BW w W) => run_row (HS.out.take (n - 1)) HNX.out s (n - 1) (by rw [List.length_take]; have := HN.out; omega) hr2 W hW)
      rw [HTX.out] at HRN2
      obtain ⟨x, hx⟩ : ∃ x, x = c[n - 1]'(by rw [← HN.out]; omega) := ⟨_, rfl⟩
      have hcs : c = c.take (n - 1) ++ [x] := by
        rw [hx, ← List.take_succ_eq_append_getElem, List.take_of_length_le (by have := HN.out; omega)]
      have hne : c.take (n - 1) ≠ [] := fun e => by
        have := congrArg List.length e; rw [List.length_take] at this; rw [List.length_nil] at this; have := HN.out; omega
      have HSN : Hid ((T, er) = if r2.2 = 0 then linkL x r2.1 else ([], r2.2)) := by
        unfold Hid; rw [← HR.out, hcs, run_snoc hne (by rw [← hcs]; exact HCK0.out), hr2]
      have HTX2 : Hid (∀ t ∈ r2.1, (t.text.length : Int) ≤ 4096) := by unfold Hid; rw [← hr2]; exact run_texts _ _
      have HTL2 : Hid (r2.1.length ≤ 4096) := by unfold Hid; rw [← hr2]; exact run_len _ _
      have HTL1 : Hid (T.length ≤ 4096) := by have := run_len c s; rw [HR.out] at this; exact this
      have hg : c[n - 1]? = some x := by rw [List.getElem?_eq_getElem (by rw [← HN.out]; omega), hx]
      obtain ⟨b, off, hao, hcx⟩ := HS.out.2.2 (n - 1) x hg
      subst hao
      have HCX := Lib.hid hcx
      obtain ⟨m, hm⟩ : ∃ m, m = n - 1 := ⟨_, rfl⟩
      rw [← hm] at HRN2 HCX
      have hmn : (n : Int) - 1 = (m : Int) := by omega
      have hm0 : 0 ≤ (m : Int) := by omega
      have hmn1 : (m : Int) < (n : Int) := by omega
      have hcap : (n : Int) ≤ (cap : Int) := by have := HS.out.1; have := HN.out; omega
      have hcap2 : (m : Int) ≤ (cap : Int) := by omega
      have hbig : (n : Int) ≤ 9223372036854775807 := by have := HS.out.2.1; omega
      have hwr : IntKind.i64.wrap (m : Int) = (m : Int) := wrap_small _ hm0 (by omega)
      have hn2 : (2 : Int) ≤ (n : Int) := by omega
      have t0 : decide ((n : Int) < 2) = false := decide_eq_false (by omega)
      obtain ⟨T2, e2⟩ := r2
      simp only at HSN HTX2 HTL2
      clear hck hn1 h1 h2 hr2 hx hcs hne hg hcx hm
      go_enter Tryd.func6, Tryd.ntmps6
      go_wp2_with fail
      refine HKN.out.mono ?_
      rintro e w1 ⟨rfl, hq1⟩
      have HQ1 := Lib.hid hq1
      clear hq1
      go_wp2_with fail
      refine (HRN.out _ HQ1.out).mono ?_
      rintro e w2 ⟨ao2, cp2, rfl, hrow2, hq2⟩
      have HQ2 := Lib.hid (HQ1.out.trans hq2)
      have HT2 := Lib.hid (tokSrc_of_row hrow2)
      clear hq2 hrow2
      go_wp2_with fail
      refine (HCK.out _ HQ2.out).mono ?_
      rintro e w3 ⟨rfl, hq3⟩
      have HQ3 := Lib.hid (HQ2.out.trans hq3)
      have HT3 := Lib.hid (HT2.out.bw hq3)
      clear hq3 HT2
      go_wp2_with fail
      refine (HRN2.out _ HQ3.out).mono ?_
      rintro e w4 ⟨ao4, cp4, rfl, hrow4, hq4⟩
      have HQ4 := Lib.hid (HQ3.out.trans hq4)
      have HT4 := Lib.hid (HT3.out.bw hq4)
      have HS4 := Lib.hid (tokSrc_of_row hrow4)
      clear hq4 hrow4 HT3
      simp only
      by_cases he2 : e2 = 0
      · subst he2
        have hcx4 : w4.cell? ⟨b, off + m, none⟩ = some (.int .i64 x) := (HQ4.out.cell (p := ⟨b, off + m, none⟩) (cell_lt HCX.out)).trans HCX.out
        have hlk : linkL x T2 = (T, er) := by have := HSN.out; rw [if_pos rfl] at this; exact this.symm
        have HLK := Lib.hid (fun W (hW : BW w4 W) => link_row HS4.out (fun t ht => by have := HTX2.out t ht; omega) (by have := HTL2.out; omega) (HNX.out.bw HQ4.out) x hlk W hW)
        clear hlk
        go_wp2_with fail
        refine (HLK.out _ (BW.refl w4)).mono ?_
        rintro e w5 ⟨ao5, cp5, rfl, hrow5, hq5⟩
        have HQ5 := Lib.hid (HQ4.out.trans hq5)
        have HTK := Lib.hid (tokens_any (HT4.out.bw hq5) (tokSrc_of_row hrow5) (by have := HTL1.out; omega) (by have := HTL1.out; omega))
        clear hq5 hrow5 hcx4
        have t9 : ((er : Int) == er) = true := by simp
        go_wp2_with fail
        refine HTK.out.mono ?_
        rintro e w6 ⟨rfl, k, rfl⟩
        have d9 : decide (T = T) = true := by simp
        go_wp2
        go_ret
        exact ⟨ret_bool (by simp), bw_drew HQ5.out k⟩
      · have hee : er = e2 := by have := HSN.out; rw [if_neg he2] at this; exact congrArg Prod.snd this
        have t8 : (e2 != 0) = true := by simpa using he2
        have t9 : (er == e2) = true := by simpa using hee
        clear hee he2
        go_wp2
        go_ret
        exact ⟨ret_bool (by simp), HQ4.out⟩
  · have h60 := check_sixty hck
    rw [h60] at HCK
    have hr0 : (T, er) = ([], 60) := by rw [← hr]; unfold runL; rw [if_pos hck, h60]
    injection hr0 with e1 e2
    subst e1; subst e2
    clear hck h60 hr h hN htx hn HR
    have hcase : n = 0 ∨ n = 1 ∨ 2 ≤ n := by omega
    rcases hcase with h1 | h1 | h1
    · subst h1
      go_enter Tryd.func6, Tryd.ntmps6
      go_wp2_with fail
      refine HKN.out.mono ?_
      rintro e w1 ⟨rfl, hq1⟩
      have HQ1 := Lib.hid hq1
      clear hq1
      go_wp2_with fail
      refine (HRN.out _ HQ1.out).mono ?_
      rintro e w2 ⟨ao2, cp2, rfl, _, hq2⟩
      have HQ2 := Lib.hid (HQ1.out.trans hq2)
      clear hq2
      go_wp2
      go_ret
      exact ⟨rfl, HQ2.out⟩
    · subst h1
      go_enter Tryd.func6, Tryd.ntmps6
      go_wp2_with fail
      refine HKN.out.mono ?_
      rintro e w1 ⟨rfl, hq1⟩
      have HQ1 := Lib.hid hq1
      clear hq1
      go_wp2_with fail
      refine (HRN.out _ HQ1.out).mono ?_
      rintro e w2 ⟨ao2, cp2, rfl, _, hq2⟩
      have HQ2 := Lib.hid (HQ1.out.trans hq2)
      clear hq2
      go_wp2_with fail
      refine (HCK.out _ HQ2.out).mono ?_
      rintro e w3 ⟨rfl, hq3⟩
      have HQ3 := Lib.hid (HQ2.out.trans hq3)
      clear hq3
      go_wp2
      go_ret
      exact ⟨rfl, HQ3.out⟩
    · have t0 : decide ((n : Int) < 2) = false := decide_eq_false (by omega)
      have t1 : ((n : Int) == 1) = false := by simp; omega
      have t2 : ¬ (n : Int) < 2 := by omega
      clear h1
      go_enter Tryd.func6, Tryd.ntmps6
      go_wp2_with fail
      refine HKN.out.mono ?_
      rintro e w1 ⟨rfl, hq1⟩
      have HQ1 := Lib.hid hq1
      clear hq1
      go_wp2_with fail
      refine (HRN.out _ HQ1.out).mono ?_
      rintro e w2 ⟨ao2, cp2, rfl, _, hq2⟩
      have HQ2 := Lib.hid (HQ1.out.trans hq2)
      clear hq2
      go_wp2_with fail
      refine (HCK.out _ HQ2.out).mono ?_
      rintro e w3 ⟨rfl, hq3⟩
      have HQ3 := Lib.hid (HQ2.out.trans hq3)
      clear hq3
      go_wp2
      go_ret
      exact ⟨rfl, HQ3.out⟩
end Go.Proofs.YtljjaepadnmmeaaDoor
