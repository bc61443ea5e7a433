/- The document's letters, digits, marks, lower case; its Put. -/
import Derived.Test.YtljjaepadnmmeaaDoorFldA
namespace Go.Proofs.YtljjaepadnmmeaaDoor
open Go.RowKit Go.Maps Fld

def tabV (l : List (Int × Int)) : List Value := l.flatMap fun p => [.int .i32 p.1, .int .i32 p.2]
theorem tabV_len (l : List (Int × Int)) : (tabV l).length = 2 * l.length := by
  induction l with
  | nil => rfl
  | cons p l ih => show (_ :: _ :: tabV l).length = _; rw [List.length_cons, List.length_cons, ih, List.length_cons]; omega
theorem tabV_get : ∀ (l : List (Int × Int)) (j : Nat) (h : j < l.length), (tabV l)[2 * j]? = some (.int .i32 (l[j]).1) ∧ (tabV l)[2 * j + 1]? = some (.int .i32 (l[j]).2)
  | p :: l, 0, _ => ⟨rfl, rfl⟩
  | p :: l, j + 1, h => by
    have := tabV_get l j (by simpa using h)
    rw [show 2 * (j + 1) = 2 * j + 1 + 1 by omega]
    exact this
theorem src_get {w : World} {ao : Option Addr} {n cap : Nat} {xs : List Value} (h : Src w (.slice ao n cap) xs) {i : Nat} {u : Value} (hu : xs[i]? = some u) : ∃ b off, ao = some ⟨b, off, none⟩ ∧ w.cell? ⟨b, off + i, none⟩ = some u := by
  rcases h with ⟨_, _, _, e2, _⟩ | ⟨b, off, c, hv, _, _, _, h4⟩
  · rw [e2] at hu; simp at hu
  · injection hv with e1; exact ⟨b, off, e1, h4 i u hu⟩
set_option maxHeartbeats 1000000 in
set_option maxRecDepth 100000 in
theorem among_any {w : World} {v : Value} {r : Int} {l : List (Int × Int)} (h : Src w v (tabV l)) (hl : l.length ≤ 100) (b : Bool) (hb : amongB r l = b) : Calls Tryd.prog 72 #[.int .i32 r, v] w fun e w' => e = .returned (.bool b) ∧ w = w' := by
  obtain ⟨ao, cap, rfl⟩ := h.len
  rw [tabV_len] at h ⊢
  obtain ⟨n, hn⟩ : ∃ n, n = l.length := ⟨_, rfl⟩
  obtain ⟨n2, hn2⟩ : ∃ n2, n2 = 2 * n := ⟨_, rfl⟩
  rw [← hn, ← hn2] at h ⊢
  have H := Lib.hid h
  have HN := Lib.hid hn
  have HN2 := Lib.hid hn2
  have HB := Lib.hid hb
  have hni : (n2 : Int) ≤ 200 := by omega
  clear h hn hb hn2 hl
  go_enter Tryd.func72, Tryd.ntmps72
  go_wp2
  go_loopg [5] n (fun g s5 wx => ∃ (j i : Nat), j + g = n ∧ i = 2 * j ∧ s5 = .int .i64 (i : Int) ∧ amongB r (l.drop j) = b ∧ w = wx)
  case atStart => exact ⟨0, 0, by omega, rfl, rfl, HB.out, rfl⟩
  case round =>
    obtain ⟨j, i, hjg, hij, rfl, hbj, rfl⟩ := hrel
    have HJG := Lib.hid hjg
    have HIJ := Lib.hid hij
    have HBJ := Lib.hid hbj
    have hi0 : 0 ≤ (i : Int) := by omega
    have hi1 : (i : Int) ≤ 1000 := by have := HN2.out; omega
    clear hbj
    cases gk with
    | zero =>
      have hd0 : decide ((i : Int) + 1 < (n2 : Int)) = false := decide_eq_false (by have := HN2.out; omega)
      have HF : Hid (b = false) := by
        unfold Hid
        rw [← HBJ.out, List.drop_eq_nil_of_le (by have := HN.out; omega)]; rfl
      clear hjg hij
      go_wp2
      go_ret
      exact ⟨ret_bool HF.out.symm, rfl⟩
    | succ g =>
      have hjl : j < l.length := by have := HN.out; omega
      have hd0 : decide ((i : Int) + 1 < (n2 : Int)) = true := decide_eq_true (by have := HN2.out; omega)
      have hd1 : (i : Int) + 1 < (n2 : Int) := by have := HN2.out; omega
      obtain ⟨p, hp⟩ : ∃ p, p = l[j] := ⟨_, rfl⟩
      obtain ⟨pa, pb⟩ := p
      have hg := tabV_get l j hjl
      rw [← hp, ← hij] at hg
      obtain ⟨b0, o0, rfl, hc0⟩ := src_get H.out hg.1
      obtain ⟨b1, o1, e1, hc1⟩ := src_get H.out hg.2
      cases e1
      have hc1' : w.cell? ⟨b0, o0 + (i + 1), none⟩ = some (.int .i32 pb) := hc1
      have HST : Hid (((decide (pa ≤ r) && decide (r ≤ pb)) || amongB r (l.drop (j + 1))) = b) := by
        have h1 := HBJ.out
        rw [List.drop_eq_getElem_cons hjl, ← hp, amongB] at h1; exact h1
      clear hg hp hjl hjg hij hc1
      by_cases h1 : pa ≤ r
      · have d1 : decide (pa ≤ r) = true := decide_eq_true h1
        by_cases h2 : r ≤ pb
        · have d2 : decide (r ≤ pb) = true := decide_eq_true h2
          have HF : Hid (b = true) := by unfold Hid; rw [← HST.out, d1, d2]; rfl
          go_wp2
          go_ret
          exact ⟨ret_bool HF.out.symm, rfl⟩
        · have d2 : decide (r ≤ pb) = false := decide_eq_false h2
          have HNX : Hid (amongB r (l.drop (j + 1)) = b) := by unfold Hid; rw [← HST.out, d1, d2]; rfl
          clear h1 h2
          go_wp2
          go_roundg g
          case measure => omega
          case rel => exact ⟨j + 1, i + 2, by have := HJG.out; omega, by have := HIJ.out; omega, by first | rfl | go_num, HNX.out, rfl⟩
      · have d1 : decide (pa ≤ r) = false := decide_eq_false h1
        have HNX : Hid (amongB r (l.drop (j + 1)) = b) := by unfold Hid; rw [← HST.out, d1]; rfl
        clear h1
        go_wp2
        go_roundg g
        case measure => omega
        case rel => exact ⟨j + 1, i + 2, by have := HJG.out; omega, by have := HIJ.out; omega, by first | rfl | go_num, HNX.out, rfl⟩

def BoolPost (w : World) (b : Bool) (e : Ending) (w' : World) : Prop := e = .returned (.bool b) ∧ BW w w'
theorem among_new {r : Int} {xs : Array Value} {n : Nat} {l : List (Int × Int)} (hx : xs.toList = tabV l) (hn : xs.size = n) (hl : l.length ≤ 100) (b : Bool) (hb : amongB r l = b) (w : World) :
    Calls Tryd.prog 72 #[.int .i32 r, .slice (some ⟨w.heap.size, 0, none⟩) n n] (w.alloc (.cells xs 21)) (BoolPost w b) := by
  have h := src_new w xs 21 n hn (by have := congrArg List.length hx; rw [tabV_len] at this; simp at this; omega)
  rw [hx] at h
  exact (among_any h hl b hb).mono fun _ _ ⟨h1, h2⟩ => ⟨h1, h2 ▸ bw_alloc w _⟩
set_option maxRecDepth 100000 in
theorem refLetter_any (r : Int) (w : World) : Calls Tryd.prog 85 #[.int .i32 r] w (BoolPost w (letterI r)) := by
  have HA := Lib.hid (fun (xs : Array Value) (hx : xs.toList = tabV letterT) => among_new (r := r) hx (by have := congrArg List.length hx; simpa using this) (by decide) (letterI r) rfl w)
  go_enter Tryd.func85, Tryd.ntmps85
  go_wp2_with fail
  refine (HA.out _ rfl).mono ?_
  rintro e w' ⟨rfl, hb⟩
  have HB := Lib.hid hb
  clear hb
  go_wp2
  go_ret
  exact ⟨rfl, HB.out⟩
set_option maxRecDepth 100000 in
theorem refDigit_any (r : Int) (w : World) : Calls Tryd.prog 86 #[.int .i32 r] w (BoolPost w (digitI r)) := by
  have HA := Lib.hid (fun (xs : Array Value) (hx : xs.toList = tabV digitT) => among_new (r := r) hx (by have := congrArg List.length hx; simpa using this) (by decide) (digitI r) rfl w)
  go_enter Tryd.func86, Tryd.ntmps86
  go_wp2_with fail
  refine (HA.out _ rfl).mono ?_
  rintro e w' ⟨rfl, hb⟩
  have HB := Lib.hid hb
  clear hb
  go_wp2
  go_ret
  exact ⟨rfl, HB.out⟩
set_option maxRecDepth 100000 in
theorem refMark_any (r : Int) (w : World) : Calls Tryd.prog 51 #[.int .i32 r] w (BoolPost w (markI r)) := by
  have HA := Lib.hid (fun (xs : Array Value) (hx : xs.toList = tabV markT) => among_new (r := r) hx (by have := congrArg List.length hx; simpa using this) (by decide) (markI r) rfl w)
  go_enter Tryd.func51, Tryd.ntmps51
  go_wp2_with fail
  refine (HA.out _ rfl).mono ?_
  rintro e w' ⟨rfl, hb⟩
  have HB := Lib.hid hb
  clear hb
  go_wp2
  go_ret
  exact ⟨rfl, HB.out⟩
theorem among_in {r : Int} {l : List (Int × Int)} (h : amongB r l = true) (hl : ∀ p ∈ l, (0 : Int) ≤ p.1 ∧ p.2 ≤ 1327) : 0 ≤ r ∧ r ≤ 1327 := by
  by_cases h2 : r < 0 ∨ 1327 < r
  · rw [among_out l hl h2] at h; cases h
  · omega
def LowPost (w : World) (r : Int) (e : Ending) (w' : World) : Prop := e = .returned (.int .i32 r) ∧ BW w w'
set_option maxHeartbeats 2000000 in
set_option maxRecDepth 100000 in
theorem refLower_any (r : Int) (w : World) : Calls Tryd.prog 70 #[.int .i32 r] w (LowPost w (lowerI r)) := by
  have sz {xs : Array Value} {l : List (Int × Int)} (hx : xs.toList = tabV l) : xs.size = (tabV l).length := by have := congrArg List.length hx; simpa using this
  have HA := Lib.hid (fun (l : List (Int × Int)) (hl : l.length ≤ 100) (b : Bool) (hb : amongB r l = b) (W : World) (xs : Array Value) (hx : xs.toList = tabV l) => among_new (r := r) hx (sz hx) hl b hb W)
  clear sz
  by_cases h1 : amongB r up20 = true
  · have hr := among_in h1 (by decide)
    have HR : Hid (lowerI r = r + 32) := by unfold Hid lowerI; rw [if_pos h1]
    have C1 := Lib.hid (HA.out up20 (by decide) true h1)
    clear h1 HA
    obtain ⟨hr0, hr1⟩ := hr
    go_enter Tryd.func70, Tryd.ntmps70
    go_wp2_with fail
    refine (C1.out _ _ rfl).mono ?_
    rintro e w1 ⟨rfl, hb1⟩
    have HB1 := Lib.hid hb1
    clear hb1
    go_wp2
    go_ret
    exact ⟨ret_int HR.out.symm, HB1.out⟩
  have h1 : amongB r up20 = false := by simpa using h1
  have C1 := Lib.hid (HA.out up20 (by decide) false h1)
  by_cases h2 : amongB r upEven = true
  · have hr := among_in h2 (by decide)
    have HR : Hid (lowerI r = r - r % 2 + 1) := by unfold Hid lowerI; rw [if_neg (by rw [h1]; decide), if_pos h2]
    have C2 := Lib.hid (HA.out upEven (by decide) true h2)
    clear h1 h2 HA
    obtain ⟨hr0, hr1⟩ := hr
    go_enter Tryd.func70, Tryd.ntmps70
    go_wp2_with fail
    refine (C1.out _ _ rfl).mono ?_
    rintro e w1 ⟨rfl, hb1⟩
    have HB1 := Lib.hid hb1
    clear hb1
    go_wp2_with fail
    refine (C2.out _ _ rfl).mono ?_
    rintro e w2 ⟨rfl, hb2⟩
    have HB2 := Lib.hid (HB1.out.trans hb2)
    clear hb2
    go_wp2
    go_ret
    exact ⟨ret_int HR.out.symm, HB2.out⟩
  have h2 : amongB r upEven = false := by simpa using h2
  have C2 := Lib.hid (HA.out upEven (by decide) false h2)
  by_cases h3 : amongB r upOdd = true
  · have hr := among_in h3 (by decide)
    have HR : Hid (lowerI r = r + r % 2) := by unfold Hid lowerI; rw [if_neg (by rw [h1]; decide), if_neg (by rw [h2]; decide), if_pos h3]
    have C3 := Lib.hid (HA.out upOdd (by decide) true h3)
    clear h1 h2 h3 HA
    obtain ⟨hr0, hr1⟩ := hr
    go_enter Tryd.func70, Tryd.ntmps70
    go_wp2_with fail
    refine (C1.out _ _ rfl).mono ?_
    rintro e w1 ⟨rfl, hb1⟩
    have HB1 := Lib.hid hb1
    clear hb1
    go_wp2_with fail
    refine (C2.out _ _ rfl).mono ?_
    rintro e w2 ⟨rfl, hb2⟩
    have HB2 := Lib.hid (HB1.out.trans hb2)
    clear hb2
    go_wp2_with fail
    refine (C3.out _ _ rfl).mono ?_
    rintro e w3 ⟨rfl, hb3⟩
    have HB3 := Lib.hid (HB2.out.trans hb3)
    clear hb3
    go_wp2
    go_ret
    exact ⟨ret_int HR.out.symm, HB3.out⟩
  have h3 : amongB r upOdd = false := by simpa using h3
  have C3 := Lib.hid (HA.out upOdd (by decide) false h3)
  have tail (z : Int) (hz : lowerI r = z) : True := trivial
  obtain ⟨b4, h4⟩ : ∃ b, amongB r [(904, 906)] = b := ⟨_, rfl⟩
  have C4 := Lib.hid (HA.out [(904, 906)] (by decide) b4 h4)
  obtain ⟨b5, h5⟩ : ∃ b, amongB r [(910, 911)] = b := ⟨_, rfl⟩
  have C5 := Lib.hid (HA.out [(910, 911)] (by decide) b5 h5)
  obtain ⟨b6, h6⟩ : ∃ b, amongB r [(1024, 1039)] = b := ⟨_, rfl⟩
  have C6 := Lib.hid (HA.out [(1024, 1039)] (by decide) b6 h6)
  have HR : Hid (lowerI r = if b4 = true then r + 37 else if b5 = true then r + 63 else if b6 = true then r + 80 else if r = 376 then 255 else if r = 1216 then 1231 else if r = 902 then 940 else if r = 908 then 972 else r) := by
    unfold Hid lowerI
    rw [if_neg (by rw [h1]; decide), if_neg (by rw [h2]; decide), if_neg (by rw [h3]; decide), h4, h5, h6]
  clear h1 h2 h3 HA tail
  cases b4
  case true =>
    obtain ⟨hr0, hr1⟩ := among_in h4 (by decide)
    clear h4 h5 h6
    go_enter Tryd.func70, Tryd.ntmps70
    go_wp2_with fail
    refine (C1.out _ _ rfl).mono ?_
    rintro e w1 ⟨rfl, hb1⟩
    have HB1 := Lib.hid hb1
    clear hb1
    go_wp2_with fail
    refine (C2.out _ _ rfl).mono ?_
    rintro e w2 ⟨rfl, hb2⟩
    have HB2 := Lib.hid (HB1.out.trans hb2)
    clear hb2
    go_wp2_with fail
    refine (C3.out _ _ rfl).mono ?_
    rintro e w3 ⟨rfl, hb3⟩
    have HB3 := Lib.hid (HB2.out.trans hb3)
    clear hb3
    go_wp2_with fail
    refine (C4.out _ _ rfl).mono ?_
    rintro e w4 ⟨rfl, hb4⟩
    have HB4 := Lib.hid (HB3.out.trans hb4)
    clear hb4
    go_wp2
    go_ret
    exact ⟨ret_int HR.out.symm, HB4.out⟩
  cases b5
  case true =>
    obtain ⟨hr0, hr1⟩ := among_in h5 (by decide)
    clear h4 h5 h6
    go_enter Tryd.func70, Tryd.ntmps70
    go_wp2_with fail
    refine (C1.out _ _ rfl).mono ?_
    rintro e w1 ⟨rfl, hb1⟩
    have HB1 := Lib.hid hb1
    clear hb1
    go_wp2_with fail
    refine (C2.out _ _ rfl).mono ?_
    rintro e w2 ⟨rfl, hb2⟩
    have HB2 := Lib.hid (HB1.out.trans hb2)
    clear hb2
    go_wp2_with fail
    refine (C3.out _ _ rfl).mono ?_
    rintro e w3 ⟨rfl, hb3⟩
    have HB3 := Lib.hid (HB2.out.trans hb3)
    clear hb3
    go_wp2_with fail
    refine (C4.out _ _ rfl).mono ?_
    rintro e w4 ⟨rfl, hb4⟩
    have HB4 := Lib.hid (HB3.out.trans hb4)
    clear hb4
    go_wp2_with fail
    refine (C5.out _ _ rfl).mono ?_
    rintro e w5 ⟨rfl, hb5⟩
    have HB5 := Lib.hid (HB4.out.trans hb5)
    clear hb5
    go_wp2
    go_ret
    exact ⟨ret_int HR.out.symm, HB5.out⟩
  have hb : b6 = true → 0 ≤ r ∧ r ≤ 1327 := fun e => among_in (by rw [h6, e]) (by decide)
  clear h4 h5 h6
  go_enter Tryd.func70, Tryd.ntmps70
  go_wp2_with fail
  refine (C1.out _ _ rfl).mono ?_
  rintro e w1 ⟨rfl, hb1⟩
  have HB1 := Lib.hid hb1
  clear hb1
  go_wp2_with fail
  refine (C2.out _ _ rfl).mono ?_
  rintro e w2 ⟨rfl, hb2⟩
  have HB2 := Lib.hid (HB1.out.trans hb2)
  clear hb2
  go_wp2_with fail
  refine (C3.out _ _ rfl).mono ?_
  rintro e w3 ⟨rfl, hb3⟩
  have HB3 := Lib.hid (HB2.out.trans hb3)
  clear hb3
  go_wp2_with fail
  refine (C4.out _ _ rfl).mono ?_
  rintro e w4 ⟨rfl, hb4⟩
  have HB4 := Lib.hid (HB3.out.trans hb4)
  clear hb4
  go_wp2_with fail
  refine (C5.out _ _ rfl).mono ?_
  rintro e w5 ⟨rfl, hb5⟩
  have HB5 := Lib.hid (HB4.out.trans hb5)
  clear hb5
  go_wp2_with fail
  refine (C6.out _ _ rfl).mono ?_
  rintro e w6 ⟨rfl, hb6⟩
  have HB6 := Lib.hid (HB5.out.trans hb6)
  clear hb6
  cases b6
  case true =>
    obtain ⟨hr0, hr1⟩ := hb rfl
    clear hb
    go_wp2
    go_ret
    exact ⟨ret_int HR.out.symm, HB6.out⟩
  clear hb
  have fin (z : Int) (hz : lowerI r = z) : Ending.returned (.int .i32 z) = .returned (.int .i32 (lowerI r)) := by rw [hz]
  have HFIN := Lib.hid fin
  clear fin
  by_cases e1 : r = 376
  · subst e1
    go_wp2
    go_ret
    exact ⟨HFIN.out _ (by rw [HR.out]; rfl), HB6.out⟩
  have n1 : (r == 376) = false := by simpa using e1
  by_cases e2 : r = 1216
  · subst e2
    go_wp2
    go_ret
    exact ⟨HFIN.out _ (by rw [HR.out]; rfl), HB6.out⟩
  have n2 : (r == 1216) = false := by simpa using e2
  by_cases e3 : r = 902
  · subst e3
    go_wp2
    go_ret
    exact ⟨HFIN.out _ (by rw [HR.out]; rfl), HB6.out⟩
  have n3 : (r == 902) = false := by simpa using e3
  by_cases e4 : r = 908
  · subst e4
    go_wp2
    go_ret
    exact ⟨HFIN.out _ (by rw [HR.out]; rfl), HB6.out⟩
  have n4 : (r == 908) = false := by simpa using e4
  have HRR : Hid (lowerI r = r) := by
    unfold Hid
    rw [HR.out]
    simp only [Bool.false_eq_true, if_false]
    rw [if_neg e1, if_neg e2, if_neg e3, if_neg e4]
  clear e1 e2 e3 e4
  go_wp2
  go_ret
  exact ⟨HFIN.out _ HRR.out, HB6.out⟩

def PutPost (w : World) (r : Int) (e : Ending) (w' : World) : Prop :=
  BW w w' ∧ ((isRune r = true ∧ e = .returned (.tuple #[.string ⟨(formP r.toNat).toArray⟩, .int .i64 0])) ∨ (isRune r = false ∧ e = .returned (.tuple #[.string ⟨#[]⟩, .int .i64 50])))
end Go.Proofs.YtljjaepadnmmeaaDoor
