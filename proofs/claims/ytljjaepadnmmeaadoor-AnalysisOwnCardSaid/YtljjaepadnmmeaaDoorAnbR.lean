/- Stage 6, the program: Check. -/
import Derived.Test.YtljjaepadnmmeaaDoorAnbQ
namespace Go.Proofs.YtljjaepadnmmeaaDoor
open Go.RowKit Go.Maps Fld Ana Go.Shelf
attribute [local go_sem] Oper.semAt_some

theorem zip_all (p : Int × Nat → Bool) : ∀ (c : List Int) (k : Nat), (c.zipIdx k).any p = false ↔ ∀ j x, c[j]? = some x → p (x, k + j) = false
  | [], k => by simp
  | y :: c, k => by
    rw [List.zipIdx_cons, List.any_cons, Bool.or_eq_false_iff, zip_all p c (k + 1)]
    constructor
    · rintro ⟨h1, h2⟩ j x hx
      cases j with
      | zero => simp at hx; subst hx; exact h1
      | succ j => have := h2 j x (by simpa using hx); rw [show k + 1 + j = k + (j + 1) by omega] at this; exact this
    · intro h
      refine ⟨h 0 y rfl, fun j x hx => ?_⟩
      have := h (j + 1) x (by simpa using hx)
      rw [show k + (j + 1) = k + 1 + j by omega] at this; exact this
theorem nodup_take (c : List Int) : c.Nodup ↔ ∀ j x, c[j + 1]? = some x → x ∉ c.take (j + 1) := by
  unfold List.Nodup
  rw [List.pairwise_iff_getElem]
  constructor
  · intro h j x hx hm
    obtain ⟨hj, rfl⟩ := List.getElem?_eq_some_iff.1 hx
    obtain ⟨i, hi, he⟩ := List.mem_take_iff_getElem.1 hm
    exact h i (j + 1) (by omega) hj (by omega) he
  · intro h i j hi hj hij he
    obtain ⟨j, rfl⟩ : ∃ k, j = k + 1 := ⟨j - 1, by omega⟩
    exact h j c[j + 1] (List.getElem?_eq_getElem hj) (List.mem_take_iff_getElem.2 ⟨i, by omega, he⟩)
theorem check_zero (c : List Int) : checkL c = 0 ↔ (1 ≤ c.length ∧ c.length ≤ 8 ∧ (∀ x, c[0]? = some x → 1 ≤ x ∧ x ≤ 4) ∧ ∀ j x, c[j + 1]? = some x → filterI x = true ∧ x ∉ c.take (j + 1)) := by
  unfold checkL
  by_cases h1 : c.length = 0 ∨ 8 < c.length
  · rw [if_pos h1]
    exact iff_of_false (by decide) (fun h => by omega)
  · rw [if_neg h1]
    have hz : ((c.zipIdx.any fun x => (x.2 == 0 && (decide (x.1 < 1) || decide (4 < x.1))) || (x.2 != 0 && !filterI x.1)) = false) ↔ ((∀ x, c[0]? = some x → 1 ≤ x ∧ x ≤ 4) ∧ ∀ j x, c[j + 1]? = some x → filterI x = true) := by
      rw [zip_all]
      constructor
      · intro h
        refine ⟨fun x hx => ?_, fun j x hx => ?_⟩
        · have := h 0 x hx; simp at this; omega
        · have := h (j + 1) x hx; simpa using this
      · rintro ⟨h2, h3⟩ j x hx
        cases j with
        | zero => have := h2 x hx; simp; omega
        | succ j => simp [h3 j x hx]
    by_cases hb : (c.zipIdx.any fun x => (x.2 == 0 && (decide (x.1 < 1) || decide (4 < x.1))) || (x.2 != 0 && !filterI x.1)) = false
    · obtain ⟨h2, h3⟩ := hz.1 hb
      rw [hb, Bool.false_or]
      by_cases hn : c.Nodup
      · rw [if_neg (by simpa using hn)]
        exact iff_of_true rfl ⟨by omega, by omega, h2, fun j x hx => ⟨h3 j x hx, (nodup_take c).1 hn j x hx⟩⟩
      · rw [if_pos (by simpa using hn)]
        exact iff_of_false (by decide) (fun h => hn ((nodup_take c).2 fun j x hx => (h.2.2.2 j x hx).2))
    · rw [if_pos (by rw [Bool.not_eq_false] at hb; rw [hb]; rfl)]
      exact iff_of_false (by decide) (fun h => hb (hz.2 ⟨h.2.2.1, fun j x hx => (h.2.2.2 j x hx).1⟩))
theorem check_sixty {c : List Int} (h : ¬ checkL c = 0) : checkL c = 60 := (check_two c).resolve_right h
theorem nil_is_nil (w : World) {t : TypeId} {d : TypeDesc} (h : Tryd.prog.underlying t = some d) (hd : ∃ a b c, d = .func a b c) : (binOp .eql t .nilFunc .nilFunc).run Tryd.prog w = .ok (.bool true) w := by
  obtain ⟨p, q, r, rfl⟩ := hd
  have h1 : ∀ d : Nat, (Op.equalIn (d + 1) t .nilFunc .nilFunc).run Tryd.prog w = .ok true w := fun d => by
    simp [Op.equalIn, run_underlying h]
  simp only [binOp]
  simp [Op.equal, Op.maxDepth, h1 9999]
theorem ISrc.take {w : World} {ao : Option Addr} {cap : Nat} {c : List Int} (h : ISrc w ao cap c) (k : Nat) : ISrc w ao cap (c.take k) :=
  ⟨by have := h.1; rw [List.length_take]; omega, h.2.1, fun j x hx => h.2.2 j x (by rw [List.getElem?_take] at hx; split at hx <;> first | exact hx | cases hx)⟩
/-- the loop has come so far -/
def GoodTo (c : List Int) (i : Nat) : Prop := ∀ j x, j < i → c[j + 1]? = some x → filterI x = true ∧ x ∉ c.take (j + 1)
set_option maxRecDepth 100000 in
set_option maxHeartbeats 4000000 in
theorem check_any (w : World) (ao : Option Addr) (cap : Nat) (c : List Int) (h : ISrc w ao cap c) (hN : NextOk w) : Calls Tryd.prog 13 #[.slice ao c.length cap] w fun e w' => e = .returned (.int .i64 (checkL c)) ∧ BW w w' := by
  obtain ⟨n, hn⟩ : ∃ n, n = c.length := ⟨_, rfl⟩
  have HN := Lib.hid hn; have HS := Lib.hid h
  rw [← hn]
  by_cases h0 : n = 0
  · have hk : checkL c = 60 := check_sixty (fun e => by have := (check_zero c).1 e; omega)
    rw [hk, h0]
    clear h hn h0 hk
    go_enter Tryd.func13, Tryd.ntmps13
    go_wp2
    go_ret
    exact ⟨rfl, BW.refl w⟩
  by_cases h8 : 8 < n
  · have hk : checkL c = 60 := check_sixty (fun e => by have := (check_zero c).1 e; omega)
    rw [hk]
    have d1 : decide ((n : Int) < 1) = false := decide_eq_false (by omega)
    have d2 : decide (8 < (n : Int)) = true := decide_eq_true (by omega)
    have d3 : ¬ (n : Int) < 1 := by omega
    clear h hn h0 hk
    go_enter Tryd.func13, Tryd.ntmps13
    go_wp2
    go_ret
    exact ⟨rfl, BW.refl w⟩
  have d1 : decide ((n : Int) < 1) = false := decide_eq_false (by omega)
  have d2 : decide (8 < (n : Int)) = false := decide_eq_false (by omega)
  have hcl : 0 < c.length := by omega
  obtain ⟨x0, hx0⟩ : ∃ x, x = c[0] := ⟨_, rfl⟩
  have hg0 : c[0]? = some x0 := by rw [List.getElem?_eq_getElem hcl, hx0]
  obtain ⟨b, off, rfl, hc0⟩ := h.2.2 0 x0 hg0
  rw [Nat.add_zero] at hc0
  have HCU := Lib.hid (cutterOf_any x0 w hN)
  have hnil := fun W => nil_is_nil W Tryd.underlying47 ⟨_, _, _, rfl⟩
  have hfun := fun (W : World) f a b => func_is_not_nil W Tryd.underlying47 ⟨_, _, _, rfl⟩ f a b
  have hn1 : (1 : Int) ≤ (n : Int) := by omega
  have hn0 : 0 < n := by omega
  have hcap : (n : Int) ≤ (cap : Int) := by have := h.1; omega
  have hcap2 : (1 : Int) ≤ (cap : Int) := by omega
  have HG0 := Lib.hid hg0
  have HN8 : Hid (n ≤ 8) := by unfold Hid; omega
  have HNX := Lib.hid hN
  clear h hn h0 h8 hcl hx0 hg0 hN
  refine (callsIn_wide (n := 5)).1 ?_
  refine callsIn_of_wp Tryd.func13 rfl trivial ?_ rfl
  simp only [Tryd.ntmps13, List.size_toArray, List.length_cons, List.length_nil, Nat.reduceAdd, Nat.reduceSub, Array.replicate_succ, Array.replicate_zero, List.push_toArray, List.append_toArray, List.nil_append, List.cons_append]
  gi_wp2
  refine ⟨trivial, ?_⟩
  refine (callsIn_wide.2 HCU.out).mono ?_
  rintro e X ⟨hq, (⟨g1, g4, cf, lbc, rfl, _, _⟩ | ⟨g1, rfl⟩)⟩
  · have HQ := Lib.hid hq
    have HX0 : Hid (1 ≤ x0 ∧ x0 ≤ 4) := ⟨g1, g4⟩
    clear hq g1 g4
    by_cases hc1 : cap = 1
    · have hn1' : n = 1 := by omega
      clear hc0
      gi_wp2
      gi_loopw [3, 4, 5, 24] (fun _ _ _ s24 wr => ∃ i : Nat, i ≤ n - 1 ∧ s24 = .int .i64 (i : Int) ∧ GoodTo c i ∧ BW w wr) (fun _ _ _ s24 _ => n - (intOf s24).toNat)
      case atStart => exact ⟨0, Nat.zero_le _, rfl, fun j x h => by omega, HQ.out⟩
      case round =>
        obtain ⟨i, hi, rfl, hgood, hbw⟩ := hrel
        have HGD := Lib.hid hgood; have HBW := Lib.hid hbw; have HI := Lib.hid hi
        clear hgood hbw
        by_cases hlt : i < n - 1
        · exact absurd hlt (by omega)
        · have hlti : ((n - 1 : Nat) : Int) ≤ (i : Int) := by omega
          have HK : Hid (checkL c = 0) := (check_zero c).2 ⟨by have := HN.out; omega, by have := HN.out; have := HN8.out; omega, fun x hx => by rw [HG0.out] at hx; cases hx; exact HX0.out, fun j x hx => HGD.out j x (by have := (List.getElem?_eq_some_iff.1 hx).1; have := HN.out; omega) hx⟩
          clear hlt hi
          gi_wp2
          go_ret
          exact ⟨ret_int (by rw [HK.out]), HBW.out⟩
    · have hc2 : ¬ cap = 1 := hc1
      clear hc0
      gi_wp2
      gi_loopw [3, 4, 5, 24] (fun _ _ _ s24 wr => ∃ i : Nat, i ≤ n - 1 ∧ s24 = .int .i64 (i : Int) ∧ GoodTo c i ∧ BW w wr) (fun _ _ _ s24 _ => n - (intOf s24).toNat)
      case atStart => exact ⟨0, Nat.zero_le _, rfl, fun j x h => by omega, HQ.out⟩
      case round =>
        obtain ⟨i, hi, rfl, hgood, hbw⟩ := hrel
        have HGD := Lib.hid hgood; have HBW := Lib.hid hbw; have HI := Lib.hid hi
        clear hgood hbw
        by_cases hlt : i < n - 1
        · have hlti : (i : Int) < ((n - 1 : Nat) : Int) := by omega
          have hil : i + 1 < c.length := by rw [← HN.out]; omega
          obtain ⟨x, hx⟩ : ∃ x, x = c[i + 1] := ⟨_, rfl⟩
          have hg : c[i + 1]? = some x := by rw [List.getElem?_eq_getElem hil, hx]
          obtain ⟨b', off', e1, hc⟩ := (HS.out.bw HBW.out).2.2 (i + 1) x hg
          injection e1 with e1; injection e1 with e1 e2; subst e1; subst e2
          rw [show off + (i + 1) = off + 1 + i by omega] at hc
          have HGT := Lib.hid hg
          have HFO := Lib.hid (filterOf_any x wr (HNX.out.bw HBW.out))
          have hfn := fun W => nil_is_nil W Tryd.underlying52 ⟨_, _, _, rfl⟩
          have hff := fun (W : World) f a b => func_is_not_nil W Tryd.underlying52 ⟨_, _, _, rfl⟩ f a b
          have hi0 : 0 ≤ (i : Int) := by omega
          have hi9 : (i : Int) + 1 ≤ 8 := by have := HN8.out; omega
          have hic : (i : Int) + 1 ≤ (cap : Int) := by omega
          have HLT := Lib.hid hlt
          have HIC : Hid (i + 1 ≤ c.length) := by unfold Hid; omega
          clear hx hg hlt hil hi
          gi_wp2
          refine ⟨trivial, ?_⟩
          refine (callsIn_wide.2 HFO.out).mono ?_
          rintro e X3 ⟨hq3, (⟨hf, ff, lbf, rfl, _, _⟩ | ⟨hf, rfl⟩)⟩
          · have HF := Lib.hid hf
            have HB3 := Lib.hid (HBW.out.trans hq3)
            have HCT : Hid (Calls Tryd.prog 31 #[.slice (some ⟨b, off, none⟩) (i + 1) cap, .int .i64 x] X3 fun e w' => e = .returned (.bool (decide (x ∈ c.take (i + 1)))) ∧ w' = X3) := by
              have h := contains_any X3 _ cap (c.take (i + 1)) ((HS.out.bw HB3.out).take (i + 1)) x
              rw [show (c.take (i + 1)).length = i + 1 by rw [List.length_take]; have := HIC.out; omega] at h
              exact h
            obtain ⟨q, hq⟩ : ∃ q, q = decide (x ∈ c.take (i + 1)) := ⟨_, rfl⟩
            rw [← hq] at HCT
            have HQQ := Lib.hid hq
            clear hf hq hq3 hc
            cases q with
            | true =>
              gi_wp2
              refine ⟨trivial, ?_⟩
              refine (callsIn_wide.2 HCT.out).mono ?_
              rintro e X4 ⟨rfl, rfl⟩
              have HK : Hid (checkL c = 60) := check_sixty (fun e => by
                have h1 := ((check_zero c).1 e).2.2.2 i x HGT.out
                have h2 := HQQ.out
                rw [decide_eq_false h1.2] at h2; cases h2)
              gi_wp2
              go_ret
              exact ⟨ret_int (by rw [HK.out]), HB3.out⟩
            | false =>
              gi_wp2
              refine ⟨trivial, ?_⟩
              refine (callsIn_wide.2 HCT.out).mono ?_
              rintro e X4 ⟨rfl, rfl⟩
              have HG2 : Hid (GoodTo c (i + 1)) := fun j y hj hy => by
                by_cases e : j < i
                · exact HGD.out j y e hy
                · obtain rfl : j = i := by omega
                  rw [HGT.out] at hy; cases hy
                  exact ⟨HF.out, by simpa using HQQ.out.symm⟩
              gi_wp2
              go_roundw
              case rel => exact ⟨i + 1, HLT.out, by first | rfl | go_num, HG2.out, HB3.out⟩
              case measure => simp [intOf]; have := HLT.out; omega
          · have HB3 := Lib.hid (HBW.out.trans hq3)
            have HK : Hid (checkL c = 60) := check_sixty (fun e => by
              have h1 := ((check_zero c).1 e).2.2.2 i x HGT.out
              rw [hf] at h1; exact absurd h1.1 (by decide))
            clear hq3 hf hc
            gi_wp2
            refine ⟨by trivial, ?_⟩
            gi_wp2
            go_ret
            exact ⟨ret_int (by rw [HK.out]), HB3.out⟩
        · have hlti : ((n - 1 : Nat) : Int) ≤ (i : Int) := by omega
          have HK : Hid (checkL c = 0) := (check_zero c).2 ⟨by have := HN.out; omega, by have := HN.out; have := HN8.out; omega, fun x hx => by rw [HG0.out] at hx; cases hx; exact HX0.out, fun j x hx => HGD.out j x (by have := (List.getElem?_eq_some_iff.1 hx).1; have := HN.out; omega) hx⟩
          clear hlt hi
          gi_wp2
          go_ret
          exact ⟨ret_int (by rw [HK.out]), HBW.out⟩
  · have HQ := Lib.hid hq
    have HK : Hid (checkL c = 60) := check_sixty (fun e => by have := ((check_zero c).1 e).2.2.1 x0 HG0.out; omega)
    clear hq g1
    gi_wp2
    go_ret
    exact ⟨ret_int (by rw [HK.out]), HQ.out⟩
end Go.Proofs.YtljjaepadnmmeaaDoor
