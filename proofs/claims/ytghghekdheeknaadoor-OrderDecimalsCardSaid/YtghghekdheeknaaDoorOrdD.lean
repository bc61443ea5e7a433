/- Stage 7, the program: Decimal, Text (made by wip/mkOrdD.py). -/
import Derived.Test.YtghghekdheeknaaDoorOrdC
namespace Go.Proofs.YtghghekdheeknaaDoor
open Go.RowKit Go.Maps Odr Go.Shelf
attribute [local go_sem] Oper.semAt_some

def decR (s : List UInt8) (sc : Int) : Int × Int := if 0 ≤ sc ∧ sc ≤ 9 then (match decN s sc.toNat with | some v => (v, 0) | none => (0, 70)) else (0, 1)
def textR (n sc : Int) : List UInt8 × Int := if 0 ≤ sc ∧ sc ≤ 9 then (textN n sc.toNat, 0) else ([], 1)
def DecPost (w : World) (r : Int × Int) (e : Ending) (w' : World) : Prop := e = .returned (.tuple #[.int .i64 r.1, .int .i64 r.2]) ∧ BW w w'
def WritPost (w : World) (r : List UInt8 × Int) (e : Ending) (w' : World) : Prop := e = .returned (.tuple #[textV r.1, .int .i64 r.2]) ∧ BW w w'
theorem scaled_parse {s d : List UInt8} {sc : Nat} (h : scaledF s sc = some d) : (∃ v, Lib.parseIntB 64 d = .ok v) ∨ Lib.parseIntB 64 d = .range := by
  unfold scaledF at h
  dsimp only at h
  obtain ⟨h45, _⟩ := tk45 s
  rw [h45] at h
  generalize rs is45 1 s = r1 at h
  generalize rs isDig 19 r1 = r2 at h
  split at h
  · cases h
  · rename_i g1
    split at h
    · cases h
    · injection h with h
      have hwd : ∀ c ∈ tk isDig 19 r1, isDig c = true := tk_dig
      have hne : tk isDig 19 r1 ≠ [] := fun e => g1 (.inl e)
      generalize tk isDig 19 r1 = w at *
      have hfd : ∀ c ∈ tk isDig (sc * (tk is46 (min sc 1) r2).length) (rs is46 (min sc 1) r2), isDig c = true := tk_dig
      generalize tk isDig (sc * (tk is46 (min sc 1) r2).length) (rs is46 (min sc 1) r2) = f at *
      have hd : ∀ c ∈ w ++ f ++ List.replicate (sc - f.length) 48, isDig c = true := by
        intro c hc
        rw [List.mem_append, List.mem_append] at hc
        rcases hc with (hc | hc) | hc
        · exact hwd c hc
        · exact hfd c hc
        · rw [List.eq_of_mem_replicate hc]; rfl
      have hn : w ++ f ++ List.replicate (sc - f.length) 48 ≠ [] := by simp [hne]
      subst h
      generalize sc - f.length = k at *
      by_cases hb : (s.head? == some 45) = true
      · rw [if_pos hb, show [45] ++ w ++ f ++ List.replicate k 48 = 45 :: (w ++ f ++ List.replicate k 48) by simp, parse_minus hd hn]
        split
        · exact .inl ⟨_, rfl⟩
        · exact .inr rfl
      · rw [if_neg hb, List.nil_append, parse_plain hd hn]
        split
        · exact .inl ⟨_, rfl⟩
        · exact .inr rfl
theorem scaled_len {s d : List UInt8} {sc : Nat} (h : scaledF s sc = some d) : d.length ≤ 20 + 2 * sc := by
  unfold scaledF at h
  dsimp only at h
  split at h
  · cases h
  · split at h
    · cases h
    · injection h with h
      subst h
      have b1 := (tk_le is45 1 s).1
      have b2 := (tk_le isDig 19 (rs is45 1 s)).1
      have b3 := (tk_le is46 (min sc 1) (rs isDig 19 (rs is45 1 s))).1
      have b4 := (tk_le isDig (sc * (tk is46 (min sc 1) (rs isDig 19 (rs is45 1 s))).length) (rs is46 (min sc 1) (rs isDig 19 (rs is45 1 s)))).1
      generalize tk is46 (min sc 1) (rs isDig 19 (rs is45 1 s)) = pt at *
      generalize tk isDig 19 (rs is45 1 s) = dd at *
      generalize tk is45 1 s = mm at *
      generalize tk isDig (sc * pt.length) (rs is46 (min sc 1) (rs isDig 19 (rs is45 1 s))) = ff at *
      have b5 : sc * pt.length ≤ sc * 1 := Nat.mul_le_mul_left _ (by omega)
      simp only [List.length_append, List.length_replicate]
      omega
theorem isScale_yes {sc : Int} (h0 : 0 ≤ sc) (h9 : sc ≤ 9) (w : World) : Calls Tryd.prog 33 #[.int .i64 sc] w fun e w' => e = .returned (.bool true) ∧ w = w' := by
  have d9 : decide (sc ≤ 9) = true := decide_eq_true h9
  go_enter Tryd.func33, Tryd.ntmps33
  go_wp2
  go_ret
  exact ⟨ret_bool (by simp [h9]), rfl⟩
theorem isScale_no {sc : Int} (h : ¬ (0 ≤ sc ∧ sc ≤ 9)) (w : World) : Calls Tryd.prog 33 #[.int .i64 sc] w fun e w' => e = .returned (.bool false) ∧ w = w' := by
  have hc : sc < 0 ∨ (0 ≤ sc ∧ 9 < sc) := by omega
  clear h
  rcases hc with h | ⟨h1, h2⟩
  · go_enter Tryd.func33, Tryd.ntmps33
    go_wp2
    go_ret
    exact ⟨ret_bool (by simp), rfl⟩
  · have d9 : decide (sc ≤ 9) = false := decide_eq_false (by omega)
    go_enter Tryd.func33, Tryd.ntmps33
    go_wp2
    go_ret
    exact ⟨ret_bool (by first | exact d9 | simp [d9]), rfl⟩
set_option maxRecDepth 100000 in
set_option maxHeartbeats 1000000 in
theorem decimal_any (s : List UInt8) (sc : Int) (hl : (s.length : Int) ≤ 4611686018427387904) (w : World) (hE : Env w) : Calls Tryd.prog 9 #[textV s, .int .i64 sc] w (DecPost w (decR s sc)) := by
  by_cases hsc : 0 ≤ sc ∧ sc ≤ 9
  · obtain ⟨n, rfl⟩ : ∃ n : Nat, sc = (n : Int) := ⟨sc.toNat, by omega⟩
    have hr : decR s (n : Int) = (match (scaledF s n).bind fun d => numOf (Lib.parseIntB 64 d) with | some v => (v, 0) | none => (0, 70)) := by
      unfold decR; rw [if_pos hsc, Int.toNat_natCast, dec_scaled]
    have HS := Lib.hid (fun W => scaled_any s n (by omega) hl W)
    have hn0 : 0 ≤ (n : Int) := hsc.1
    have hn9 : (n : Int) ≤ 9 := hsc.2
    have HSC := Lib.hid (fun W => isScale_yes (sc := (n : Int)) hsc.1 hsc.2 W)
    rw [hr]
    obtain ⟨ts, hts⟩ : ∃ t, textV s = .string t := ⟨_, rfl⟩
    rw [hts] at HS ⊢
    clear hr hts hl hsc
    cases hq : scaledF s n with
    | none =>
      rw [hq] at HS
      have HS2 : Hid (∀ W, Calls Tryd.prog 34 #[.string ts, .int .i64 n] W fun e w' => e = .returned (.tuple #[.string ⟨#[]⟩, .bool false]) ∧ BW W w') := fun W => HS.out W
      clear hq HS hE
      go_enter Tryd.func9, Tryd.ntmps9
      go_wp2_with (first | (go_at_call 34; refine (HS2.out _).mono ?_; rintro e w2 ⟨rfl, h2⟩) | (go_at_call 33; refine (HSC.out _).mono ?_; rintro e w9 ⟨rfl, rfl⟩))
      go_ret2
      exact ⟨rfl, h2⟩
    | some d =>
      have hdl := scaled_len hq
      have hdi : (d.length : Int) ≤ 281474976710656 := by omega
      rw [hq] at HS
      obtain ⟨td, htd⟩ : ∃ t, textV d = .string t := ⟨_, rfl⟩
      have HS2 : Hid (∀ W, Calls Tryd.prog 34 #[.string ts, .int .i64 n] W fun e w' => e = .returned (.tuple #[.string td, .bool true]) ∧ BW W w') := fun W => by rw [← htd]; exact HS.out W
      rcases scaled_parse hq with ⟨v, hv⟩ | hv
      · have HP := Lib.hid (fun W => parseInt_ok hv hdi W)
        rw [htd] at HP
        have hr : (match (some d).bind fun d => numOf (Lib.parseIntB 64 d) with | some v => (v, 0) | none => (0, 70)) = (v, (0 : Int)) := by
          rw [Option.bind_some, hv]; rfl
        rw [hr]
        clear hr hq HS hE hdl hdi hv htd
        go_enter Tryd.func9, Tryd.ntmps9
        go_wp2_with (first | (go_at_call 34; refine (HS2.out _).mono ?_; rintro e w2 ⟨rfl, h2⟩) | (go_at_call 35; refine (HP.out _).mono ?_; rintro e w3 ⟨rfl, h3⟩) | (go_at_call 33; refine (HSC.out _).mono ?_; rintro e w9 ⟨rfl, rfl⟩))
        go_ret2
        exact ⟨rfl, h2.trans h3⟩
      · have HP := Lib.hid (fun W h => parseInt_range hv hdi W h)
        rw [htd] at HP
        have hr : (match (some d).bind fun d => numOf (Lib.parseIntB 64 d) with | some v => (v, 0) | none => (0, 70)) = ((0 : Int), (70 : Int)) := by
          rw [Option.bind_some, hv]; rfl
        rw [hr]
        have HEE := Lib.hid hE
        clear hr hq HS hE hdl hdi hv htd
        go_enter Tryd.func9, Tryd.ntmps9
        go_wp2_with (first | (go_at_call 34; refine (HS2.out _).mono ?_; rintro e w2 ⟨rfl, h2⟩) | (go_at_call 35; refine (HP.out _ (HEE.out.bw h2)).mono ?_; rintro e w3 ⟨⟨v, te, pe, rfl⟩, h3⟩) | (go_at_call 33; refine (HSC.out _).mono ?_; rintro e w9 ⟨rfl, rfl⟩))
        go_ret2
        exact ⟨rfl, h2.trans h3⟩
  · have hr : decR s sc = (0, 1) := by unfold decR; rw [if_neg hsc]
    rw [hr]
    clear hr
    obtain ⟨ts, hts⟩ : ∃ t, textV s = .string t := ⟨_, rfl⟩
    rw [hts]
    have HSC := Lib.hid (fun W => isScale_no hsc W)
    clear hsc hts hl hE
    go_enter Tryd.func9, Tryd.ntmps9
    go_wp2_with (go_at_call 33; refine (HSC.out _).mono ?_; rintro e w9 ⟨rfl, rfl⟩)
    go_ret2
    exact ⟨rfl, BW.refl _⟩
end Go.Proofs.YtghghekdheeknaaDoor
