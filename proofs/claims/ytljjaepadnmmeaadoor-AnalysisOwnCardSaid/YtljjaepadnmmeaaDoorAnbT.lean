/- Stage 6, the program: Run. -/
import Derived.Test.YtljjaepadnmmeaaDoorAnbS
namespace Go.Proofs.YtljjaepadnmmeaaDoor
open Go.RowKit Go.Maps Fld Ana Go.Shelf
attribute [local go_sem] Oper.semAt_some

theorem links_append : ∀ (a b : List Int) (l : List Tok), linksL (a ++ b) l = if (linksL a l).2 = 0 then linksL b (linksL a l).1 else ([], (linksL a l).2)
  | [], b, l => by simp [linksL]
  | n :: a, b, l => by
    rw [List.cons_append, linksL, linksL]
    split
    · exact links_append a b _
    · rfl
theorem toks_text {n : Nat} {s : List UInt8} {t : Tok} (h : t ∈ toks n s) : t.text.length ≤ s.length := by
  unfold toks at h
  obtain ⟨x, hx, rfl⟩ := List.mem_map.1 h
  obtain ⟨p, i⟩ := x
  have hm : p ∈ Ana.cut n (runesOf s) := (List.mem_zipIdx hx).2.2 ▸ List.getElem_mem _
  have := cut_shape' n s p hm
  show (pieces s p.1 p.2).length ≤ _
  exact pieces_len (by omega) this.2
/-- where Run's loop stands -/
structure RunAt (w : World) (c : List Int) (s : List UInt8) (i : Nat) (v : Value) (T : List Tok) (W : World) : Prop where
  links : linksL (c.tail.take i) (toks (c.headD 0).toNat s) = (T, 0)
  row : W.ownsRow w.heap.size 43 4 v T.length (tokCells T)
  few : T.length ≤ 4096
  texts : ∀ t ∈ T, (t.text.length : Int) ≤ 4096
  bw : BW w W
theorem throughL_few {n : Int} {l : List Tok} : (throughL (one n) l).1.length ≤ 4096 := by
  unfold throughL; split
  · assumption
  · exact Nat.zero_le _
theorem throughL_two (g : List UInt8 → List (List UInt8)) (l : List Tok) : ((throughL g l).2 = 0) ∨ throughL g l = ([], 84) := by
  unfold throughL; split
  · exact .inl rfl
  · exact .inr rfl
set_option maxRecDepth 100000 in
set_option maxHeartbeats 4000000 in
theorem run_any (w : World) (ao : Option Addr) (cap : Nat) (c : List Int) (h : ISrc w ao cap c) (s : List UInt8) (hN : NextOk w) : Calls Tryd.prog 10 #[.slice ao c.length cap, textV s] w (LinkPost w (runL c s)) := by
  obtain ⟨n, hn⟩ : ∃ n, n = c.length := ⟨_, rfl⟩
  obtain ⟨tx, htx⟩ : ∃ tx, tx = ByteArray.mk s.toArray := ⟨_, rfl⟩
  have htv : textV s = .string tx := by rw [htx]; rfl
  have hts : tx.size = s.length := by rw [htx]; exact text_size s
  have HCK := Lib.hid (check_any w ao cap c h hN)
  have HN := Lib.hid hn; have HS := Lib.hid h
  rw [← hn] at HCK ⊢
  rw [htv]
  by_cases hck : checkL c = 0
  · obtain ⟨k1, k8, k2, k3⟩ := (check_zero c).1 hck
    have hcl : 0 < c.length := by omega
    obtain ⟨x0, hx0⟩ : ∃ x, x = c[0] := ⟨_, rfl⟩
    have hg0 : c[0]? = some x0 := by rw [List.getElem?_eq_getElem hcl, hx0]
    obtain ⟨b, off, rfl, hc0⟩ := h.2.2 0 x0 hg0
    rw [Nat.add_zero] at hc0
    have hce : c = x0 :: c.tail := by
      cases c with
      | nil => simp at hcl
      | cons y c => simp at hx0; rw [hx0]; rfl
    have HHD : Hid (c.headD 0 = x0) := by unfold Hid; rw [hce]; rfl
    rw [hck] at HCK
    have HX4 := Lib.hid (k2 x0 hg0)
    have HK3 := Lib.hid k3
    have HN8 : Hid (n ≤ 8) := by unfold Hid; omega
    have hn1 : (1 : Int) ≤ (n : Int) := by omega
    have hn0 : 0 < n := by omega
    have hcap : (n : Int) ≤ (cap : Int) := by have := h.1; omega
    have hcap2 : (1 : Int) ≤ (cap : Int) := by omega
    have HTX : Hid (textV s = .string tx) := htv
    have HNX := Lib.hid hN
    have HCK0 := Lib.hid hck
    have HCE := Lib.hid hce
    have HTL : Hid (c.tail.length = n - 1) := by unfold Hid; rw [List.length_tail, ← hn]
    by_cases hlong : 4096 < s.length
    · have hr : runL c s = ([], 3) := by unfold runL; rw [if_neg (by rw [hck]; decide), if_pos hlong]
      have HR := Lib.hid hr
      have d1 : decide (4096 < (tx.size : Int)) = true := decide_eq_true (by omega)
      clear hn htx htv hts hck k1 k8 k2 k3 hcl hx0 hg0 hce hN hlong hr
      refine (callsIn_wide (n := 5)).1 ?_
      refine callsIn_of_wp Tryd.func10 rfl trivial ?_ rfl
      simp only [Tryd.ntmps10, List.size_toArray, List.length_cons, List.length_nil, Nat.reduceAdd, Nat.reduceSub, Array.replicate_succ, Array.replicate_zero, List.push_toArray, List.append_toArray, List.nil_append, List.cons_append]
      gi_wp2
      refine ⟨trivial, ?_⟩
      refine (callsIn_wide.2 HCK.out).mono ?_
      rintro e X ⟨rfl, hq⟩
      have HQ := Lib.hid hq
      clear hq
      gi_wp2
      go_ret2
      rw [HR.out]
      exact ⟨_, rfl, World.ownsRow_nil _ _ _ _, HQ.out⟩
    · have d1 : decide (4096 < (tx.size : Int)) = false := decide_eq_false (by omega)
      have hsl : s.length ≤ 4096 := by omega
      have HSL := Lib.hid hsl
      have HRN : Hid (runL c s = linksL c.tail (toks (c.headD 0).toNat s)) := by
        unfold Hid runL
        rw [if_neg (by rw [hck]; decide), if_neg hlong, if_neg (by have := toks_few (c.headD 0).toNat s; omega)]
      have HCU := Lib.hid (fun (W : World) (hW : BW w W) => cutterOf_any x0 W (hN.bw hW))
      have HCL := Lib.hid (fun (W : World) => clone_any tx (by omega) W)
      clear hn htx htv hts hck k1 k8 k2 k3 hcl hx0 hg0 hce hN hlong h
      refine (callsIn_wide (n := 5)).1 ?_
      refine callsIn_of_wp Tryd.func10 rfl trivial ?_ rfl
      simp only [Tryd.ntmps10, List.size_toArray, List.length_cons, List.length_nil, Nat.reduceAdd, Nat.reduceSub, Array.replicate_succ, Array.replicate_zero, List.push_toArray, List.append_toArray, List.nil_append, List.cons_append]
      gi_wp2
      refine ⟨trivial, ?_⟩
      refine (callsIn_wide.2 HCK.out).mono ?_
      rintro e X ⟨rfl, hq⟩
      have HQ := Lib.hid hq
      have hc1 : X.cell? ⟨b, off, none⟩ = some (.int .i64 x0) := (hq.cell (p := ⟨b, off, none⟩) (cell_lt hc0)).trans hc0
      clear hq hc0
      gi_wp2
      refine ⟨trivial, ?_⟩
      refine (callsIn_wide.2 (HCU.out X HQ.out)).mono ?_
      rintro e X2 ⟨hq2, hcase⟩
      obtain ⟨cf, lbc, rfl, hen, hok⟩ : ∃ cf lbc, e = .returned (.func (.func cf) #[] lbc) ∧ (∀ args w, (callFunc cf args).run Tryd.prog w = .ok (.enter cf args) w) ∧ CutOk X2 cf lbc x0.toNat := by
        rcases hcase with ⟨_, _, h⟩ | ⟨h, _⟩
        · exact h
        · have := HX4.out; omega
      have HQ2 := Lib.hid (HQ.out.trans hq2)
      have HCUT : Hid (∀ W, BW X2 W → Calls Tryd.prog 25 #[.func (.func cf) #[] lbc, .string tx] W (TokPost W (toks x0.toNat s))) := fun W hW => by
        rw [← HTX.out]; exact cutP_any s HSL.out hok hen W hW
      clear hcase hen hok hq2 hc1
      gi_wp2
      refine ⟨trivial, ?_⟩
      refine (callsIn_wide.2 (HCL.out X2)).mono ?_
      rintro e X3 ⟨rfl, hq3⟩
      have HC3 := Lib.hid (HCUT.out X3 hq3)
      have HQ3 := Lib.hid (HQ2.out.trans hq3)
      clear hq3
      gi_wp2
      refine ⟨trivial, ?_⟩
      refine (callsIn_wide.2 HC3.out).mono ?_
      rintro e X4 ⟨v4, rfl, hrow4, hq4⟩
      obtain ⟨ao4, cp4, rfl⟩ := row4_form hrow4
      have HI0 : Hid (RunAt w c s 0 (.slice ao4 (toks x0.toNat s).length cp4) (toks x0.toNat s) X4) := by
        refine ⟨by rw [HHD.out, List.take_zero]; rfl, row_base hrow4 HQ3.out.size, ?_, fun t ht => ?_, HQ3.out.trans hq4⟩
        · have := toks_few x0.toNat s; have := HSL.out; omega
        · have := toks_text ht; have := HSL.out; omega
      clear hrow4 hq4
      by_cases hc1 : cap = 1
      · have hn1' : n = 1 := by omega
        gi_wp2
        gi_loopw [7, 9, 10, 29] (fun s7 _ _ s29 wr => ∃ (i : Nat) (T : List Tok) (ao1 : Option Addr) (cp1 : Nat), i ≤ n - 1 ∧ s29 = .int .i64 (i : Int) ∧ s7 = .slice ao1 T.length cp1 ∧ RunAt w c s i (.slice ao1 T.length cp1) T wr) (fun _ _ _ s29 _ => n - (intOf s29).toNat)
        case atStart => exact ⟨0, _, _, _, Nat.zero_le _, rfl, rfl, HI0.out⟩
        case round =>
          obtain ⟨i, T, ao1, cp1, hi, rfl, rfl, hat⟩ := hrel
          have HAT := Lib.hid hat; have HI := Lib.hid hi
          obtain ⟨m, hm⟩ : ∃ m, m = T.length := ⟨_, rfl⟩
          have HM := Lib.hid hm
          rw [← hm]
          clear hat hm
          by_cases hlt : i < n - 1
          · exact absurd hlt (by omega)
          · have hlti : ((n - 1 : Nat) : Int) ≤ (i : Int) := by omega
            have HEND : Hid (runL c s = (T, 0)) := by
              unfold Hid; rw [HRN.out]
              have h := HAT.out.links
              rw [List.take_of_length_le (by rw [HTL.out]; omega)] at h
              exact h
            clear hlt hi
            gi_wp2
            go_ret2
            rw [HEND.out, HM.out]
            exact ⟨_, rfl, HAT.out.row, HAT.out.bw⟩
      · have hc2 : ¬ cap = 1 := hc1
        gi_wp2
        gi_loopw [7, 9, 10, 29] (fun s7 _ _ s29 wr => ∃ (i : Nat) (T : List Tok) (ao1 : Option Addr) (cp1 : Nat), i ≤ n - 1 ∧ s29 = .int .i64 (i : Int) ∧ s7 = .slice ao1 T.length cp1 ∧ RunAt w c s i (.slice ao1 T.length cp1) T wr) (fun _ _ _ s29 _ => n - (intOf s29).toNat)
        case atStart => exact ⟨0, _, _, _, Nat.zero_le _, rfl, rfl, HI0.out⟩
        case round =>
          obtain ⟨i, T, ao1, cp1, hi, rfl, rfl, hat⟩ := hrel
          have HAT := Lib.hid hat; have HI := Lib.hid hi
          obtain ⟨m, hm⟩ : ∃ m, m = T.length := ⟨_, rfl⟩
          have HM := Lib.hid hm
          rw [← hm]
          clear hat hm
          by_cases hlt : i < n - 1
          · have hlti : (i : Int) < ((n - 1 : Nat) : Int) := by omega
            have hil : i + 1 < c.length := by rw [← HN.out]; omega
            obtain ⟨x, hx⟩ : ∃ x, x = c[i + 1] := ⟨_, rfl⟩
            have hg : c[i + 1]? = some x := by rw [List.getElem?_eq_getElem hil, hx]
            obtain ⟨b', off', e1, hc⟩ := (HS.out.bw HAT.out.bw).2.2 (i + 1) x hg
            injection e1 with e1; injection e1 with e1 e2; subst e1; subst e2
            rw [show off + (i + 1) = off + 1 + i by omega] at hc
            have HFI : Hid (filterI x = true) := (HK3.out i x hg).1
            have HTK : Hid (c.tail.take (i + 1) = c.tail.take i ++ [x]) := by
              have h1 : c.tail[i]? = some x := by rw [List.getElem?_tail]; exact hg
              unfold Hid; rw [List.take_add_one, h1]; rfl
            have HFO := Lib.hid (filterOf_any x wr (HNX.out.bw HAT.out.bw))
            have hi0 : 0 ≤ (i : Int) := by omega
            have hi9 : (i : Int) + 1 ≤ 8 := by have := HN8.out; omega
            have HLT := Lib.hid hlt
            clear hx hg hlt hil hi
            gi_wp2
            refine ⟨trivial, ?_⟩
            refine (callsIn_wide.2 HFO.out).mono ?_
            rintro e X5 ⟨hq5, hcase5⟩
            obtain ⟨ff, lbf, rfl, hef, hff⟩ : ∃ ff lbf, e = .returned (.func (.func ff) #[] lbf) ∧ (∀ args w, (callFunc ff args).run Tryd.prog w = .ok (.enter ff args) w) ∧ FiltOk wr X5 ff lbf (one x) := by
              rcases hcase5 with ⟨_, h⟩ | ⟨h, _⟩
              · exact h
              · rw [HFI.out] at h; cases h
            have HTH : Hid (Calls Tryd.prog 28 #[.func (.func ff) #[] lbf, .slice ao1 m cp1] X5 (LinkPost X5 (throughL (one x) T))) := by
              rw [HM.out]
              exact through_any (w0 := wr) (wf := X5) hff hef (fun t ht => by have := HAT.out.texts t ht; omega) (by have := HAT.out.few; omega) X5 hq5 (BW.refl X5) ((tokSrc_of_row HAT.out.row).bw hq5)
            have HB5 := Lib.hid (HAT.out.bw.trans hq5)
            have HLK := Lib.hid (link_through HFI.out T)
            clear hcase5 hef hff hq5 hc
            rcases hrr : throughL_two (one x) T with hz | hz
            · obtain ⟨r, hr⟩ : ∃ r, r = throughL (one x) T := ⟨_, rfl⟩
              rw [← hr] at hz HTH HLK
              have HRT := Lib.hid (through_len (n := x) (B := 4096) HAT.out.texts)
              have HRF := Lib.hid (throughL_few (n := x) (l := T))
              rw [← hr] at HRT HRF
              obtain ⟨T2, er⟩ := r
              simp only at hz
              subst hz
              clear hr hrr
              gi_wp2
              refine ⟨trivial, ?_⟩
              refine (callsIn_wide.2 HTH.out).mono ?_
              rintro e X6 ⟨v6, rfl, hrow6, hq6⟩
              obtain ⟨ao6, cp6, rfl⟩ := row4_form hrow6
              have HNEW : Hid (RunAt w c s (i + 1) (.slice ao6 T2.length cp6) T2 X6) := by
                refine ⟨?_, row_base hrow6 HB5.out.size, HRF.out, HRT.out, HB5.out.trans hq6⟩
                rw [HTK.out, links_snoc, HAT.out.links]
                exact HLK.out
              clear hrow6 hq6
              gi_wp2
              go_roundw
              case rel => exact ⟨i + 1, T2, _, _, HLT.out, by first | rfl | go_num, rfl, HNEW.out⟩
              case measure => simp [intOf]; have := HLT.out; omega
            · rw [hz] at HTH HLK
              have HEND : Hid (runL c s = ([], 84)) := by
                unfold Hid
                rw [HRN.out, show c.tail = c.tail.take (i + 1) ++ c.tail.drop (i + 1) from (List.take_append_drop _ _).symm, links_append, HTK.out, links_snoc, HAT.out.links]
                simp only [if_true]
                rw [HLK.out]; rfl
              clear hz hrr
              gi_wp2
              refine ⟨trivial, ?_⟩
              refine (callsIn_wide.2 HTH.out).mono ?_
              rintro e X6 ⟨v6, rfl, hrow6, hq6⟩
              have hv6 : v6 = .slice none 0 0 ∨ ∃ g cp, v6 = .slice (some ⟨g, 0, none⟩) 0 cp := by
                rcases hrow6.2 with ⟨h, _⟩ | ⟨g, cp, cur, h, _⟩
                · exact .inl h
                · exact .inr ⟨g, cp, h⟩
              have HB6 := Lib.hid (HB5.out.trans hq6)
              clear hrow6 hq6
              rcases hv6 with rfl | ⟨g, cp, rfl⟩
              all_goals
                gi_wp2
                go_ret2
                rw [HEND.out]
                exact ⟨_, rfl, World.ownsRow_nil _ _ _ _, HB6.out⟩
          · have hlti : ((n - 1 : Nat) : Int) ≤ (i : Int) := by omega
            have HEND : Hid (runL c s = (T, 0)) := by
              unfold Hid; rw [HRN.out]
              have h := HAT.out.links
              rw [List.take_of_length_le (by rw [HTL.out]; omega)] at h
              exact h
            clear hlt hi
            gi_wp2
            go_ret2
            rw [HEND.out, HM.out]
            exact ⟨_, rfl, HAT.out.row, HAT.out.bw⟩
  · have hr : runL c s = ([], checkL c) := by unfold runL; rw [if_pos hck]
    have h60 := check_sixty hck
    rw [h60] at hr HCK
    have HR := Lib.hid hr
    clear hn htx htv hts hck h h60 hN hr
    refine (callsIn_wide (n := 5)).1 ?_
    refine callsIn_of_wp Tryd.func10 rfl trivial ?_ rfl
    simp only [Tryd.ntmps10, List.size_toArray, List.length_cons, List.length_nil, Nat.reduceAdd, Nat.reduceSub, Array.replicate_succ, Array.replicate_zero, List.push_toArray, List.append_toArray, List.nil_append, List.cons_append]
    gi_wp2
    refine ⟨trivial, ?_⟩
    refine (callsIn_wide.2 HCK.out).mono ?_
    rintro e X ⟨rfl, hq⟩
    have HQ := Lib.hid hq
    clear hq
    gi_wp2
    go_ret2
    rw [HR.out]
    exact ⟨_, rfl, World.ownsRow_nil _ _ _ _, HQ.out⟩
end Go.Proofs.YtljjaepadnmmeaaDoor
