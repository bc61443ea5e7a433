/- known; FoldLower: the walks. -/
import Derived.Test.YthhdmpdnfelhnaaDoorFldQ
import Derived.Test.YthhdmpdnfelhnaaDoorFlpH
import Derived.Laws.Concat
namespace Go.Proofs.YthhdmpdnfelhnaaDoor
open Go.RowKit Go.Maps Fld

def NumPost (w : World) (a b : Int) (e : Ending) (w' : World) : Prop := e = .returned (.tuple #[.int .i32 a, .int .i64 b]) ∧ BW w w'
def TxtPost (w : World) (s : ByteArray) (e : Ending) (w' : World) : Prop := e = .returned (.string s) ∧ BW w w'
def TxtErr (w : World) (s : ByteArray) (er : Int) (e : Ending) (w' : World) : Prop := e = .returned (.tuple #[.string s, .int .i64 er]) ∧ BW w w'
theorem put_yes {r : Int} (h1 : -2147483648 ≤ r) (h2 : r ≤ 2147483647) (h : isRune r = true) (w : World) : Calls Tryd.prog 15 #[.int .i32 r] w (TxtErr w ⟨(formP r.toNat).toArray⟩ 0) := by
  refine (put_any r h1 h2 w).mono ?_
  rintro e w' ⟨hb, ⟨_, rfl⟩ | ⟨hf, _⟩⟩
  · exact ⟨rfl, hb⟩
  · rw [h] at hf; cases hf
theorem put_no {r : Int} (h1 : -2147483648 ≤ r) (h2 : r ≤ 2147483647) (h : isRune r = false) (w : World) : Calls Tryd.prog 15 #[.int .i32 r] w (TxtErr w ⟨#[]⟩ 50) := by
  refine (put_any r h1 h2 w).mono ?_
  rintro e w' ⟨hb, ⟨hf, _⟩ | ⟨_, rfl⟩⟩
  · rw [h] at hf; cases hf
  · exact ⟨rfl, hb⟩
set_option maxHeartbeats 2000000 in
set_option maxRecDepth 100000 in
theorem known_any (w : World) (hT : Tabs w) : Calls Tryd.prog 14 #[] w (TruePost w) := by
  have K1 : Hid (∀ W, BW w W → Calls Tryd.prog 8 #[.string ⟨#[97, 195, 169]⟩, .int .i64 1] W (NumPost W 233 2)) := fun W hW => by
    have h := next_any (l := [97, 195, 169]) (at' := 1) (by decide) (by decide) (by decide) W (hT.bw hW)
    rw [show nextAt [97, 195, 169] 1 = (233, 2) by decide +kernel] at h
    exact h
  have K2 : Hid (∀ W, BW w W → Calls Tryd.prog 8 #[.string ⟨#[237, 160, 128]⟩, .int .i64 0] W (NumPost W 65533 1)) := fun W hW => by
    have h := next_any (l := [237, 160, 128]) (at' := 0) (by decide) (by decide) (by decide) W (hT.bw hW)
    rw [show nextAt [237, 160, 128] 0 = (65533, 1) by decide +kernel] at h
    exact h
  have K3 : Hid (∀ W, Calls Tryd.prog 15 #[.int .i32 1114111] W (TxtErr W ⟨#[244, 143, 191, 191]⟩ 0)) := fun W => put_yes (by decide) (by decide) (by decide) W
  have K4 : Hid (∀ W, Calls Tryd.prog 15 #[.int .i32 55296] W (TxtErr W ⟨#[]⟩ 50)) := fun W => put_no (by decide) (by decide) (by decide) W
  have K5 : Hid (∀ W, Calls Tryd.prog 16 #[.int .i32 1046] W (LowPost W 1078)) := fun W => lower_any 1046 (by decide) (by decide) W
  have K6 : Hid (∀ W, Calls Tryd.prog 16 #[.int .i32 376] W (LowPost W 255)) := fun W => lower_any 376 (by decide) (by decide) W
  have K7 : Hid (∀ W, Calls Tryd.prog 17 #[.int .i32 20013] W (BoolPost W true)) := fun W => letter_any 20013 (by decide) (by decide) W
  have K8 : Hid (∀ W, Calls Tryd.prog 17 #[.int .i32 53] W (BoolPost W false)) := fun W => letter_any 53 (by decide) (by decide) W
  have K9 : Hid (∀ W, Calls Tryd.prog 18 #[.int .i32 1637] W (BoolPost W true)) := fun W => digit_any 1637 (by decide) (by decide) W
  have K10 : Hid (∀ W, Calls Tryd.prog 19 #[.int .i32 769] W (BoolPost W true)) := fun W => mark_any 769 (by decide) (by decide) W
  have K11 : Hid (∀ W, Calls Tryd.prog 20 #[.string ⟨#[195, 128, 66, 55, 33, 255]⟩] W (TxtPost W ⟨#[195, 160, 98, 55, 33, 255]⟩)) := fun W => by
    have h := fold_any [195, 128, 66, 55, 33, 255] (by decide) W
    rw [show foldL [195, 128, 66, 55, 33, 255] = [195, 160, 98, 55, 33, 255] by decide +kernel] at h
    exact h
  clear hT
  go_enter Tryd.func14, Tryd.ntmps14
  go_wp2_with fail
  refine (K1.out _ (BW.refl _)).mono ?_
  rintro e w1 ⟨rfl, hq⟩
  have HB1 := Lib.hid hq
  clear hq
  go_wp2_with fail
  refine (K2.out _ HB1.out).mono ?_
  rintro e w2 ⟨rfl, hq⟩
  have HB2 := Lib.hid (HB1.out.trans hq)
  clear hq
  go_wp2_with fail
  refine (K3.out _).mono ?_
  rintro e w3 ⟨rfl, hq⟩
  have HB3 := Lib.hid (HB2.out.trans hq)
  clear hq
  go_wp2_with fail
  refine (K4.out _).mono ?_
  rintro e w4 ⟨rfl, hq⟩
  have HB4 := Lib.hid (HB3.out.trans hq)
  clear hq
  go_wp2_with fail
  refine (K5.out _).mono ?_
  rintro e w5 ⟨rfl, hq⟩
  have HB5 := Lib.hid (HB4.out.trans hq)
  clear hq
  go_wp2_with fail
  refine (K6.out _).mono ?_
  rintro e w6 ⟨rfl, hq⟩
  have HB6 := Lib.hid (HB5.out.trans hq)
  clear hq
  go_wp2_with fail
  refine (K7.out _).mono ?_
  rintro e w7 ⟨rfl, hq⟩
  have HB7 := Lib.hid (HB6.out.trans hq)
  clear hq
  go_wp2_with fail
  refine (K8.out _).mono ?_
  rintro e w8 ⟨rfl, hq⟩
  have HB8 := Lib.hid (HB7.out.trans hq)
  clear hq
  go_wp2_with fail
  refine (K9.out _).mono ?_
  rintro e w9 ⟨rfl, hq⟩
  have HB9 := Lib.hid (HB8.out.trans hq)
  clear hq
  go_wp2_with fail
  refine (K10.out _).mono ?_
  rintro e w10 ⟨rfl, hq⟩
  have HB10 := Lib.hid (HB9.out.trans hq)
  clear hq
  go_wp2_with fail
  refine (K11.out _).mono ?_
  rintro e w11 ⟨rfl, hq⟩
  have HB11 := Lib.hid (HB10.out.trans hq)
  clear hq
  go_wp2
  go_ret
  exact ⟨rfl, HB11.out⟩

theorem text_of (s : ByteArray) : textV s.data.toList = .string s := by cases s; rfl
set_option maxHeartbeats 2000000 in
set_option maxRecDepth 100000 in
theorem foldLower_any (s t : ByteArray) (r : Int) (h1 : -2147483648 ≤ r) (h2 : r ≤ 2147483647) (hl : (s.size : Int) + (t.size : Int) ≤ 140737488355324) (w : World) (hT : Tabs w) : Calls Tryd.prog 5 #[.string s, .string t, .int .i32 r] w (TruePost w) := by
  have hsz (x : ByteArray) : x.data.toList.length = x.size := by rw [Array.length_toList]; rfl
  obtain ⟨ls, hls⟩ : ∃ ls, ls = s.data.toList := ⟨_, rfl⟩
  obtain ⟨lt, hlt⟩ : ∃ lt, lt = t.data.toList := ⟨_, rfl⟩
  have hs : textV ls = .string s := by rw [hls, text_of]
  have ht : textV lt = .string t := by rw [hlt, text_of]
  have hsl : ls.length = s.size := by rw [hls, hsz]
  have htl : lt.length = t.size := by rw [hlt, hsz]
  obtain ⟨f, hf⟩ : ∃ f : ByteArray, f = ⟨(foldL ls).toArray⟩ := ⟨_, rfl⟩
  obtain ⟨g, hg⟩ : ∃ g : ByteArray, g = ⟨(foldL lt).toArray⟩ := ⟨_, rfl⟩
  have hfz : f.size = s.size := by rw [hf, text_size, fold_len, hsl]
  have hgz : g.size = t.size := by rw [hg, text_size, fold_len, htl]
  have FS : Hid (∀ W, Calls Tryd.prog 20 #[.string s] W (TxtPost W f)) := fun W => by
    have h := fold_any ls (by omega) W
    rw [hs] at h; rw [hf]; exact h
  have FT : Hid (∀ W, Calls Tryd.prog 20 #[.string t] W (TxtPost W g)) := fun W => by
    have h := fold_any lt (by omega) W
    rw [ht] at h; rw [hg]; exact h
  have FF : Hid (∀ W, Calls Tryd.prog 20 #[.string f] W (TxtPost W f)) := fun W => by
    have h := fold_any (foldL ls) (by rw [fold_len]; omega) W
    unfold TextPost at h
    rw [fold_idem] at h
    rw [hf]; exact h
  obtain ⟨v, hv⟩ : ∃ v, v = validL ls := ⟨_, rfl⟩
  have VS : Hid (∀ W, BW w W → Calls Tryd.prog 10 #[.string s] W (BoolPost W v)) := fun W hW => by
    have h := valid_any ls (by omega) W (hT.bw hW)
    rw [hs] at h; rw [hv]; exact h
  have VF : Hid (∀ W, BW w W → Calls Tryd.prog 10 #[.string f] W (BoolPost W v)) := fun W hW => by
    have h := valid_any (foldL ls) (by rw [fold_len]; omega) W (hT.bw hW)
    rw [valid_fold] at h
    rw [hf, hv]; exact h
  have FST : Hid ((v = true ∨ lt = [] ∨ ∃ b u, lt = b :: u ∧ cont b = false) → ∀ W, Calls Tryd.prog 20 #[.string (s ++ t)] W (TxtPost W (f ++ g))) := fun hp W => by
    have h := fold_any (ls ++ lt) (by rw [List.length_append]; push_cast; omega) W
    unfold TextPost at h
    rw [fold_append (by rw [← hv]; exact hp)] at h
    have e1 : textV (ls ++ lt) = .string (s ++ t) := by
      have h3 : s ++ t = ⟨(ls ++ lt).toArray⟩ := by
        rw [← ByteArray.mk_append_mk]; unfold textV at hs ht; injection hs with hs; injection ht with ht; rw [hs, ht]
      rw [h3]; rfl
    rw [e1] at h
    rw [hf, hg, ByteArray.mk_append_mk]; exact h
  obtain ⟨z, hz⟩ : ∃ z, z = lowerI r := ⟨_, rfl⟩
  have hzb : -2147483648 ≤ z ∧ z ≤ 2147483647 := by
    by_cases h : r < 0 ∨ 1327 < r
    · rw [hz, lower_out h]; exact ⟨h1, h2⟩
    · obtain ⟨n, rfl, hn, _⟩ := lower_good h
      have := lowN_lt hn
      rw [hz, ← lowN_cast]; omega
  have LR : Hid (∀ W, Calls Tryd.prog 16 #[.int .i32 r] W (LowPost W z)) := fun W => by rw [hz]; exact lower_any r h1 h2 W
  have LZ : Hid (∀ W, Calls Tryd.prog 16 #[.int .i32 z] W (LowPost W z)) := fun W => by
    have h := lower_any z hzb.1 hzb.2 W
    rw [show lowerI z = z by rw [hz, lower_idem]] at h; exact h
  obtain ⟨c1, hc1⟩ : ∃ c, c = letterI r := ⟨_, rfl⟩
  obtain ⟨c2, hc2⟩ : ∃ c, c = digitI r := ⟨_, rfl⟩
  obtain ⟨c3, hc3⟩ : ∃ c, c = markI r := ⟨_, rfl⟩
  have TR : Hid (∀ W, Calls Tryd.prog 17 #[.int .i32 r] W (BoolPost W c1)) := fun W => by rw [hc1]; exact letter_any r h1 h2 W
  have TZ : Hid (∀ W, Calls Tryd.prog 17 #[.int .i32 z] W (BoolPost W c1)) := fun W => by
    have h := letter_any z hzb.1 hzb.2 W
    rw [show letterI z = c1 by rw [hz, lower_letter, hc1]] at h; exact h
  have DR : Hid (∀ W, Calls Tryd.prog 18 #[.int .i32 r] W (BoolPost W c2)) := fun W => by rw [hc2]; exact digit_any r h1 h2 W
  have DZ : Hid (∀ W, Calls Tryd.prog 18 #[.int .i32 z] W (BoolPost W c2)) := fun W => by
    have h := digit_any z hzb.1 hzb.2 W
    rw [show digitI z = c2 by rw [hz, lower_digit, hc2]] at h; exact h
  have MR : Hid (∀ W, Calls Tryd.prog 19 #[.int .i32 r] W (BoolPost W c3)) := fun W => by rw [hc3]; exact mark_any r h1 h2 W
  have MZ : Hid (∀ W, Calls Tryd.prog 19 #[.int .i32 z] W (BoolPost W c3)) := fun W => by
    have h := mark_any z hzb.1 hzb.2 W
    rw [show markI z = c3 by rw [hz, lower_mark, hc3]] at h; exact h
  have HMV : Hid (z ≠ r → c1 = true) := fun h => by rw [hc1]; exact lower_moved (by rw [← hz]; exact h)
  have HT0 : Hid (∀ (h : 0 < t.size), lt = (t[0]'h) :: lt.drop 1) := fun h => by
    have h3 : 0 < lt.length := by omega
    have h4 := List.drop_eq_getElem_cons h3
    rw [List.drop_zero] at h4
    have e : lt[0]'h3 = t[0]'h := by subst hlt; rfl
    rw [e] at h4; exact h4
  have HTE : Hid (t.size = 0 → lt = []) := fun h => List.eq_nil_of_length_eq_zero (by omega)
  have hsum : (s.size : Int) + (t.size : Int) ≤ 140737488355328 := by omega
  have hsum2 : (f.size : Int) + (g.size : Int) ≤ 140737488355328 := by omega
  have hne1 : (z != z) = false := by simp
  have hne2 : (c1 != c1) = false := by simp
  have hne3 : (c2 != c2) = false := by simp
  have hne4 : (c3 != c3) = false := by simp
  have hne5 : (v != v) = false := by simp
  have HKN := Lib.hid (known_any w hT)
  clear hT hs ht hsl htl hf hg hfz hgz hv hz hzb hc1 hc2 hc3 hl h1 h2 hls hlt hsz
  go_enter Tryd.func5, Tryd.ntmps5
  go_wp2_with fail
  refine HKN.out.mono ?_
  rintro e w1 ⟨rfl, hq⟩
  have HB1 := Lib.hid hq
  clear hq
  go_wp2_with fail
  refine (LR.out _).mono ?_
  rintro e w2 ⟨rfl, hq⟩
  have HB2 := Lib.hid (HB1.out.trans hq)
  clear hq
  go_wp2_with fail
  refine (LZ.out _).mono ?_
  rintro e w3 ⟨rfl, hq⟩
  have HB3 := Lib.hid (HB2.out.trans hq)
  clear hq
  go_wp2_with fail
  refine (TZ.out _).mono ?_
  rintro e w4 ⟨rfl, hq⟩
  have HB4 := Lib.hid (HB3.out.trans hq)
  clear hq
  go_wp2_with fail
  refine (TR.out _).mono ?_
  rintro e w5 ⟨rfl, hq⟩
  have HB5 := Lib.hid (HB4.out.trans hq)
  clear hq
  go_wp2_with fail
  refine (DZ.out _).mono ?_
  rintro e w6 ⟨rfl, hq⟩
  have HB6 := Lib.hid (HB5.out.trans hq)
  clear hq
  go_wp2_with fail
  refine (DR.out _).mono ?_
  rintro e w7 ⟨rfl, hq⟩
  have HB7 := Lib.hid (HB6.out.trans hq)
  clear hq
  go_wp2_with fail
  refine (MZ.out _).mono ?_
  rintro e w8 ⟨rfl, hq⟩
  have HB8 := Lib.hid (HB7.out.trans hq)
  clear hq
  go_wp2_with fail
  refine (MR.out _).mono ?_
  rintro e w9 ⟨rfl, hq⟩
  have HB9 := Lib.hid (HB8.out.trans hq)
  clear hq HB1 HB2 HB3 HB4 HB5 HB6 HB7 HB8
  -- from here on: the texts
  by_cases hzr : z = r
  · have hne6 : (z != r) = false := by simp [hzr]
    clear hzr
    go_wp2_with fail
    refine (FS.out _).mono ?_
    rintro e wA ⟨rfl, hq⟩
    have HBA := Lib.hid (HB9.out.trans hq)
    clear hq
    go_wp2_with fail
    refine (FF.out _).mono ?_
    rintro e wB ⟨rfl, hq⟩
    have HBB := Lib.hid (HBA.out.trans hq)
    clear hq
    go_wp2_with fail
    refine (VF.out _ HBB.out).mono ?_
    rintro e wC ⟨rfl, hq⟩
    have HBC := Lib.hid (HBB.out.trans hq)
    clear hq
    go_wp2_with fail
    refine (VS.out _ HBC.out).mono ?_
    rintro e wD ⟨rfl, hq⟩
    have HBD := Lib.hid (HBC.out.trans hq)
    clear hq
    go_wp2_with fail
    refine (VS.out _ HBD.out).mono ?_
    rintro e wE ⟨rfl, hq⟩
    have HBE := Lib.hid (HBD.out.trans hq)
    clear hq
    cases hv : v
    case true =>
      have HST := Lib.hid (FST.out (.inl hv))
      clear hv
      go_wp2_with fail
      refine (HST.out _).mono ?_
      rintro e wF ⟨rfl, hq⟩
      have HBF := Lib.hid (HBE.out.trans hq)
      clear hq
      go_wp2_with fail
      refine (FT.out _).mono ?_
      rintro e wG ⟨rfl, hq⟩
      have HBG := Lib.hid (HBF.out.trans hq)
      clear hq
      go_wp2
      go_ret
      exact ⟨ret_bool (by simp), HBG.out⟩
    case false =>
      by_cases ht0 : t.size = 0
      · have HST := Lib.hid (FST.out (.inr (.inl (HTE.out ht0))))
        have hz0 : ((t.size : Int) == 0) = true := beq_iff_eq.2 (by omega)
        clear hv ht0
        go_wp2_with fail
        refine (HST.out _).mono ?_
        rintro e wF ⟨rfl, hq⟩
        have HBF := Lib.hid (HBE.out.trans hq)
        clear hq
        go_wp2_with fail
        refine (FT.out _).mono ?_
        rintro e wG ⟨rfl, hq⟩
        have HBG := Lib.hid (HBF.out.trans hq)
        clear hq
        go_wp2
        go_ret
        exact ⟨ret_bool (by simp), HBG.out⟩
      · have hpos : 0 < t.size := by omega
        have hposi : (0 : Int) < (t.size : Int) := by omega
        have hz0 : ((t.size : Int) == 0) = false := beq_eq_false_iff_ne.2 (by omega)
        have hlt := HT0.out hpos
        obtain ⟨y, hy⟩ : ∃ y : Nat, y = (t[0]'hpos).toNat := ⟨_, rfl⟩
        have hyi : ((t[0]'hpos).toNat : Int) = (y : Int) := by rw [hy]
        have HY := Lib.hid hy
        have HLT := Lib.hid hlt
        clear hv ht0 hy hlt
        by_cases hy1 : y < 128
        · have d1 : decide ((y : Int) < 128) = true := decide_eq_true (by omega)
          have HST := Lib.hid (FST.out (.inr (.inr ⟨_, _, HLT.out, by unfold cont; rw [← HY.out]; exact decide_eq_false (by omega)⟩)))
          clear hy1
          go_wp2_with fail
          refine (HST.out _).mono ?_
          rintro e wF ⟨rfl, hq⟩
          have HBF := Lib.hid (HBE.out.trans hq)
          clear hq
          go_wp2_with fail
          refine (FT.out _).mono ?_
          rintro e wG ⟨rfl, hq⟩
          have HBG := Lib.hid (HBF.out.trans hq)
          clear hq
          go_wp2
          go_ret
          exact ⟨ret_bool (by simp), HBG.out⟩
        · have d1 : decide ((y : Int) < 128) = false := decide_eq_false (by omega)
          by_cases hy2 : 192 ≤ y
          · have d2 : decide (192 ≤ (y : Int)) = true := decide_eq_true (by omega)
            have HST := Lib.hid (FST.out (.inr (.inr ⟨_, _, HLT.out, by unfold cont; rw [← HY.out]; exact decide_eq_false (by omega)⟩)))
            clear hy1 hy2
            go_wp2_with fail
            refine (HST.out _).mono ?_
            rintro e wF ⟨rfl, hq⟩
            have HBF := Lib.hid (HBE.out.trans hq)
            clear hq
            go_wp2_with fail
            refine (FT.out _).mono ?_
            rintro e wG ⟨rfl, hq⟩
            have HBG := Lib.hid (HBF.out.trans hq)
            clear hq
            go_wp2
            go_ret
            exact ⟨ret_bool (by simp), HBG.out⟩
          · have d2 : decide (192 ≤ (y : Int)) = false := decide_eq_false (by omega)
            clear hy1 hy2
            go_wp2
            go_ret
            exact ⟨rfl, HBE.out⟩
  · have hne6 : (z != r) = true := by simp [hzr]
    have hc := HMV.out hzr
    subst hc
    clear hzr
    go_wp2_with fail
    refine (TR.out _).mono ?_
    rintro e w10 ⟨rfl, hq⟩
    have HB10 := Lib.hid (HB9.out.trans hq)
    clear hq
    go_wp2_with fail
    refine (FS.out _).mono ?_
    rintro e wA ⟨rfl, hq⟩
    have HBA := Lib.hid (HB10.out.trans hq)
    clear hq
    go_wp2_with fail
    refine (FF.out _).mono ?_
    rintro e wB ⟨rfl, hq⟩
    have HBB := Lib.hid (HBA.out.trans hq)
    clear hq
    go_wp2_with fail
    refine (VF.out _ HBB.out).mono ?_
    rintro e wC ⟨rfl, hq⟩
    have HBC := Lib.hid (HBB.out.trans hq)
    clear hq
    go_wp2_with fail
    refine (VS.out _ HBC.out).mono ?_
    rintro e wD ⟨rfl, hq⟩
    have HBD := Lib.hid (HBC.out.trans hq)
    clear hq
    go_wp2_with fail
    refine (VS.out _ HBD.out).mono ?_
    rintro e wE ⟨rfl, hq⟩
    have HBE := Lib.hid (HBD.out.trans hq)
    clear hq
    cases hv : v
    case true =>
      have HST := Lib.hid (FST.out (.inl hv))
      clear hv
      go_wp2_with fail
      refine (HST.out _).mono ?_
      rintro e wF ⟨rfl, hq⟩
      have HBF := Lib.hid (HBE.out.trans hq)
      clear hq
      go_wp2_with fail
      refine (FT.out _).mono ?_
      rintro e wG ⟨rfl, hq⟩
      have HBG := Lib.hid (HBF.out.trans hq)
      clear hq
      go_wp2
      go_ret
      exact ⟨ret_bool (by simp), HBG.out⟩
    case false =>
      by_cases ht0 : t.size = 0
      · have HST := Lib.hid (FST.out (.inr (.inl (HTE.out ht0))))
        have hz0 : ((t.size : Int) == 0) = true := beq_iff_eq.2 (by omega)
        clear hv ht0
        go_wp2_with fail
        refine (HST.out _).mono ?_
        rintro e wF ⟨rfl, hq⟩
        have HBF := Lib.hid (HBE.out.trans hq)
        clear hq
        go_wp2_with fail
        refine (FT.out _).mono ?_
        rintro e wG ⟨rfl, hq⟩
        have HBG := Lib.hid (HBF.out.trans hq)
        clear hq
        go_wp2
        go_ret
        exact ⟨ret_bool (by simp), HBG.out⟩
      · have hpos : 0 < t.size := by omega
        have hposi : (0 : Int) < (t.size : Int) := by omega
        have hz0 : ((t.size : Int) == 0) = false := beq_eq_false_iff_ne.2 (by omega)
        have hlt := HT0.out hpos
        obtain ⟨y, hy⟩ : ∃ y : Nat, y = (t[0]'hpos).toNat := ⟨_, rfl⟩
        have hyi : ((t[0]'hpos).toNat : Int) = (y : Int) := by rw [hy]
        have HY := Lib.hid hy
        have HLT := Lib.hid hlt
        clear hv ht0 hy hlt
        by_cases hy1 : y < 128
        · have d1 : decide ((y : Int) < 128) = true := decide_eq_true (by omega)
          have HST := Lib.hid (FST.out (.inr (.inr ⟨_, _, HLT.out, by unfold cont; rw [← HY.out]; exact decide_eq_false (by omega)⟩)))
          clear hy1
          go_wp2_with fail
          refine (HST.out _).mono ?_
          rintro e wF ⟨rfl, hq⟩
          have HBF := Lib.hid (HBE.out.trans hq)
          clear hq
          go_wp2_with fail
          refine (FT.out _).mono ?_
          rintro e wG ⟨rfl, hq⟩
          have HBG := Lib.hid (HBF.out.trans hq)
          clear hq
          go_wp2
          go_ret
          exact ⟨ret_bool (by simp), HBG.out⟩
        · have d1 : decide ((y : Int) < 128) = false := decide_eq_false (by omega)
          by_cases hy2 : 192 ≤ y
          · have d2 : decide (192 ≤ (y : Int)) = true := decide_eq_true (by omega)
            have HST := Lib.hid (FST.out (.inr (.inr ⟨_, _, HLT.out, by unfold cont; rw [← HY.out]; exact decide_eq_false (by omega)⟩)))
            clear hy1 hy2
            go_wp2_with fail
            refine (HST.out _).mono ?_
            rintro e wF ⟨rfl, hq⟩
            have HBF := Lib.hid (HBE.out.trans hq)
            clear hq
            go_wp2_with fail
            refine (FT.out _).mono ?_
            rintro e wG ⟨rfl, hq⟩
            have HBG := Lib.hid (HBF.out.trans hq)
            clear hq
            go_wp2
            go_ret
            exact ⟨ret_bool (by simp), HBG.out⟩
          · have d2 : decide (192 ≤ (y : Int)) = false := decide_eq_false (by omega)
            clear hy1 hy2
            go_wp2
            go_ret
            exact ⟨rfl, HBE.out⟩
end Go.Proofs.YthhdmpdnfelhnaaDoor
