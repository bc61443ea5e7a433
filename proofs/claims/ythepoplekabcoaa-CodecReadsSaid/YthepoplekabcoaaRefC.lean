/- The reference's number. -/
import Derived.Test.YthepoplekabcoaaRefB
import Derived.Test.YthepoplekabcoaaCodC
namespace Go.Proofs.Ythepoplekabcoaa
open Go.RowKit Go.Maps

def NumPost (w : World) (l : List UInt8) (e : Ending) (w' : World) : Prop :=
  ∃ u k : Nat, e = .returned (.tuple #[.int .u64 (u : Int), .int .i64 (k : Int)]) ∧ BW w w' ∧ u < 18446744073709551616 ∧ (deco l = some (u, k) ∨ (deco l = none ∧ u = 0 ∧ k = 0))
theorem numPost_none {w w' : World} {l : List UInt8} (h : deco l = none) (hb : BW w w') : NumPost w l (.returned (.tuple #[.int .u64 0, .int .i64 0])) w' := ⟨0, 0, rfl, hb, by decide, .inr ⟨h, rfl, rfl⟩⟩

/-- the number of the bytes from place j on, up to the last one -/
def tailv (l : List UInt8) (K j : Nat) : Nat := val ((l.take (K + 1)).drop j) % 18446744073709551616

theorem tailv_step {l : List UInt8} {K j : Nat} {ch : UInt8} {x z : Nat} (hj : j ≤ K) (hc : l[j]? = some ch) (hx : ch.toNat = x) (hz : tailv l K (j + 1) = z) : bits .or .u64 (IntKind.u64.wrap ((z : Int) * 128)) ((x : Int) % 128) = (tailv l K j : Int) := by
  obtain ⟨hjl, he⟩ := List.getElem?_eq_some_iff.1 hc
  have hd : (l.take (K + 1)).drop j = ch :: (l.take (K + 1)).drop (j + 1) := by
    rw [List.drop_eq_getElem_cons (by rw [List.length_take]; omega)]
    simp [he]
  have hw : ∀ n : Nat, IntKind.u64.wrap (n : Int) = ((n % 18446744073709551616 : Nat) : Int) := fun n => by
    simp [IntKind.wrap, IntKind.bits, IntKind.signed]
  have hcast : (z : Int) * 128 = ((z * 128 : Nat) : Int) := by simp
  have hcast2 : (x : Int) % 128 = ((x % 128 : Nat) : Int) := by simp
  unfold tailv at hz ⊢
  rw [hd, val_cons, hx, hcast, hcast2, hw]
  generalize val ((l.take (K + 1)).drop (j + 1)) = a at hz
  have h1 : z * 128 % 18446744073709551616 = 2 ^ 7 * (z % 144115188075855872) := by omega
  rw [h1, u64_or_nat _ _ (by omega) (by omega), ← Nat.two_pow_add_eq_or_of_lt (by omega : x % 128 < 2 ^ 7)]
  congr 1
  omega

set_option maxHeartbeats 1000000 in
set_option maxRecDepth 100000 in
theorem number_nil {w : World} {ao : Option Addr} {cap : Nat} : Calls Try.prog 56 #[.slice ao 0 cap] w (NumPost w []) := by
  have HD : Hid (deco [] = none) := rfl
  go_enter Try.func56, Try.ntmps56
  go_wp2
  refine wp_loop_rounds 1 ?_
  rw [rounds_succ]
  go_wp2
  go_ret2
  exact numPost_none HD.out (BW.refl _)

set_option maxHeartbeats 4000000 in
set_option maxRecDepth 100000 in
theorem number_some {w : World} {b off cap : Nat} {l : List UInt8} (h : Src w (.slice (some ⟨b, off, none⟩) l.length cap) (l.map bV)) (hl : l ≠ []) (hlen : (l.length : Int) ≤ 140737488351232) :
    Calls Try.prog 56 #[.slice (some ⟨b, off, none⟩) l.length cap] w (NumPost w l) := by
  have hcell : ∀ j u, (l.map bV)[j]? = some u → w.cell? ⟨b, off + j, none⟩ = some u := by
    rcases h with ⟨_, _, _, hx, _⟩ | ⟨b', off', c', hv, _, _, _, g4⟩
    · exact absurd (by simpa using hx) hl
    · injection hv with e1 _ _; cases e1; exact g4
  have G4 := Lib.hid hcell
  have H := Lib.hid h
  obtain ⟨n, hn⟩ : ∃ n, l.length = n := ⟨_, rfl⟩
  have HN := Lib.hid hn
  have H0 : Hid (Src w (.slice (some ⟨b, off, none⟩) n cap) (l.map bV)) := by unfold Hid; rw [← hn]; exact h
  rw [hn] at hlen ⊢
  clear h hcell hl hn
  go_enter Try.func56, Try.ntmps56
  go_wp2
  go_loop [4] (fun i => ∃ k : Nat, k ≤ n ∧ i = .int .i64 (k : Int) ∧ ∀ j (hj : j < k) (hj' : j < l.length), 128 ≤ l[j].toNat) (fun i => n - (intOf i).toNat)
  case atStart => exact ⟨0, Nat.zero_le _, rfl, fun j hj => by omega⟩
  case round =>
    obtain ⟨k, hk, rfl, hj⟩ := hrel
    have HJ := Lib.hid hj
    clear hj
    by_cases hlt : k < n
    · have hkl : k < l.length := by have := HN.out; omega
      obtain ⟨ch, hc⟩ : ∃ ch, l[k]? = some ch := ⟨_, List.getElem?_eq_getElem hkl⟩
      obtain ⟨x, hx⟩ : ∃ x, ch.toNat = x := ⟨_, rfl⟩
      have ck : w.cell? ⟨b, off + k, none⟩ = some (.int .u8 (x : Int)) := by
        have := G4.out k (bV ch) (by rw [List.getElem?_map, hc]; rfl)
        unfold bV at this
        rw [hx] at this; exact this
      have hx2 : x < 256 := by rw [← hx]; exact ch.toNat_lt
      have HX := Lib.hid hx
      have HC := Lib.hid hc
      clear hx hkl hc
      by_cases hx8 : 128 ≤ x
      · go_wp2
        go_round
        case rel =>
          refine ⟨k + 1, by omega, by go_num, ?_⟩
          intro j h1 h2
          by_cases e : j = k
          · subst e
            obtain ⟨_, h3⟩ := List.getElem?_eq_some_iff.1 HC.out
            rw [h3, HX.out]; omega
          · exact HJ.out j (by omega) h2
        case measure => simp [intOf]; omega
      · have HM : Hid (more l = k) := by
          obtain ⟨h3, h4⟩ := List.getElem?_eq_some_iff.1 HC.out
          exact more_at h3 HJ.out (by rw [h4, HX.out]; omega)
        by_cases h9 : 9 < k
        · have HD : Hid (deco l = none) := by
            unfold Hid deco
            rw [if_neg]
            rw [HM.out]; omega
          go_wp2
          go_ret2
          exact numPost_none HD.out (BW.refl _)
        · have hk9 : k ≤ 9 := by omega
          go_wp2
          clear HJ ck HC HX hx2 hx8 h9
          go_loop [5, 6] (fun s i => ∃ j : Nat, j ≤ k + 1 ∧ i = .int .i64 ((j : Int) - 1) ∧ s = .int .u64 (tailv l k j : Int)) (fun _ i => (intOf i + 1).toNat)
          case atStart => exact ⟨k + 1, Nat.le_refl _, by go_num, by have : tailv l k (k + 1) = 0 := by { unfold tailv; rw [List.drop_eq_nil_of_le (by rw [List.length_take]; omega)]; rfl }
                                                                     rw [this]; rfl⟩
          case round =>
            obtain ⟨j, hj, rfl, rfl⟩ := hrel
            by_cases hj0 : 1 ≤ j
            · obtain ⟨i, rfl⟩ : ∃ i, j = i + 1 := ⟨j - 1, by omega⟩
              have hil : i < l.length := by have := HN.out; omega
              obtain ⟨ch, hc⟩ : ∃ ch, l[i]? = some ch := ⟨_, List.getElem?_eq_getElem hil⟩
              obtain ⟨x, hx⟩ : ∃ x, ch.toNat = x := ⟨_, rfl⟩
              have ck : w.cell? ⟨b, off + i, none⟩ = some (.int .u8 (x : Int)) := by
                have := G4.out i (bV ch) (by rw [List.getElem?_map, hc]; rfl)
                unfold bV at this
                rw [hx] at this; exact this
              have hx2 : x < 256 := by rw [← hx]; exact ch.toNat_lt
              obtain ⟨z, hz⟩ : ∃ z, tailv l k (i + 1) = z := ⟨_, rfl⟩
              have hz2 : z < 18446744073709551616 := by rw [← hz]; exact Nat.mod_lt _ (by decide)
              have hst := tailv_step (by omega) hc hx hz
              obtain ⟨y, hy⟩ : ∃ y, tailv l k i = y := ⟨_, rfl⟩
              rw [hy] at hst
              have HY := Lib.hid hy
              rw [hz]
              have hii : ((i + 1 : Nat) : Int) - 1 = (i : Int) := by omega
              rw [hii]
              clear hx hil hc hz hy hii
              go_wp2
              go_round
              case rel => exact ⟨i, by omega, by go_num, by rw [HY.out]⟩
              case measure => simp [intOf]
            · obtain rfl : j = 0 := by omega
              obtain ⟨u, hu⟩ : ∃ u, tailv l k 0 = u := ⟨_, rfl⟩
              have HU : Hid (u < 18446744073709551616) := by unfold Hid; rw [← hu]; exact Nat.mod_lt _ (by decide)
              rw [hu]
              have HUV : Hid (u = val (l.take (more l + 1)) % 18446744073709551616) := by
                unfold Hid; rw [← hu, HM.out]; unfold tailv; rw [List.drop_zero]
              clear hu
              go_wp2_with fail
              refine (refUint_any u HU.out _).mono ?_
              rintro e w1 ⟨v1, rfl, ho, hb⟩
              have HO := Lib.hid ho; have HB := Lib.hid hb
              obtain ⟨fo, fn, fc, rfl⟩ := row_form ho
              obtain rfl : fn = (form u).length := row_len ho rfl
              clear ho hb
              by_cases hfl : (form u).length = k + 1
              · have HFL := Lib.hid hfl
                rw [hfl] at HO ⊢
                have HSRC := Lib.hid (Src.of_row HO.out)
                have HBL := Lib.hid (H0.out.below HB.out)
                have hfs : ∃ fb fof, fo = some ⟨fb, fof, none⟩ ∧ ∀ j y, ((form u).map bV)[j]? = some y → w1.cell? ⟨fb, fof + j, none⟩ = some y := by
                  rcases HSRC.out with ⟨_, _, h1, h2, _⟩ | ⟨b', off', c', hv, _, _, _, g4⟩
                  · have := congrArg List.length h2
                    simp at this; rw [this] at hfl; simp at hfl
                  · injection hv with e1 _ _; exact ⟨b', off', e1, g4⟩
                obtain ⟨fb, fof, rfl, hfc⟩ := hfs
                have HFC := Lib.hid hfc
                have hbc : ∀ j y, (l.map bV)[j]? = some y → w1.cell? ⟨b, off + j, none⟩ = some y := by
                  rcases HBL.out with ⟨_, _, h1, h2, _⟩ | ⟨b', off', c', hv, _, _, _, g4⟩
                  · injection h1 with _ e2 _; omega
                  · injection hv with e1 _ _; cases e1; exact g4
                have HBC := Lib.hid hbc
                have hkn : k + 1 ≤ n := hlt
                clear hfl hfc hbc hlt
                go_wp2
                go_loopw [8] (fun i wr => ∃ j : Nat, j ≤ k + 1 ∧ i = .int .i64 (j : Int) ∧ (form u).take j = l.take j ∧ ∃ nn, wr = w1.drewN nn) (fun i _ => k + 1 - (intOf i).toNat)
                case atStart => exact ⟨0, Nat.zero_le _, rfl, rfl, 0, rfl⟩
                case round =>
                  obtain ⟨j, hj, rfl, hjt, nn, rfl⟩ := hrel
                  have HJT := Lib.hid hjt
                  clear hjt
                  by_cases hjk : j < k + 1
                  · have hjl : j < l.length := by have := HN.out; omega
                    have hjf : j < (form u).length := by rw [HFL.out]; exact hjk
                    obtain ⟨ch, hc⟩ : ∃ ch, l[j]? = some ch := ⟨_, List.getElem?_eq_getElem hjl⟩
                    obtain ⟨fh, hf⟩ : ∃ fh, (form u)[j]? = some fh := ⟨_, List.getElem?_eq_getElem hjf⟩
                    obtain ⟨x, hx⟩ : ∃ x, ch.toNat = x := ⟨_, rfl⟩
                    obtain ⟨y, hy⟩ : ∃ y, fh.toNat = y := ⟨_, rfl⟩
                    have ck : w1.cell? ⟨b, off + j, none⟩ = some (.int .u8 (x : Int)) := by
                      have := HBC.out j (bV ch) (by rw [List.getElem?_map, hc]; rfl)
                      unfold bV at this
                      rw [hx] at this; exact this
                    have fk : w1.cell? ⟨fb, fof + j, none⟩ = some (.int .u8 (y : Int)) := by
                      have := HFC.out j (bV fh) (by rw [List.getElem?_map, hf]; rfl)
                      unfold bV at this
                      rw [hy] at this; exact this
                    have HC := Lib.hid hc; have HFH := Lib.hid hf; have HX := Lib.hid hx; have HY := Lib.hid hy
                    have hi0 : (0 : Int) ≤ (j : Int) := by omega
                    have hi1 : (j : Int) < (n : Int) := by omega
                    have hi2 : (j : Int) < (k : Int) + 1 := by omega
                    clear hc hf hx hy hjl hjf
                    by_cases hxy : x = y
                    · subst hxy
                      have hbe : ((x : Int) != (x : Int)) = false := by simp
                      go_wp2
                      go_quiet (fail)
                      go_wp2
                      go_roundw
                      case rel =>
                        refine ⟨j + 1, by omega, by go_num, ?_, _, rfl⟩
                        obtain ⟨q1, q2⟩ := List.getElem?_eq_some_iff.1 HC.out
                        obtain ⟨q3, q4⟩ := List.getElem?_eq_some_iff.1 HFH.out
                        rw [List.take_succ_eq_append_getElem q1, List.take_succ_eq_append_getElem q3, HJT.out, q2, q4]
                        have : fh = ch := UInt8.toNat_inj.1 (by rw [HY.out, HX.out])
                        rw [this]
                      case measure => simp [intOf]; omega
                    · have hbe : ((y : Int) != (x : Int)) = true := by simp; omega
                      have HD : Hid (deco l = none) := by
                        unfold Hid
                        rw [deco_none_iff]
                        rintro ⟨h1, _, h3⟩
                        rw [← HUV.out, HM.out] at h3
                        have e1 := congrArg (fun z => z[j]?) h3
                        simp only [HFH.out, List.getElem?_take, if_pos hjk, HC.out] at e1
                        injection e1 with e1
                        rw [e1, HX.out] at HY
                        exact hxy HY.out
                      go_wp2
                      go_quiet (fail)
                      go_wp2
                      go_ret2
                      exact numPost_none HD.out ⟨HB.out.os, HB.out.tape, HB.out.output, HB.out.size, HB.out.block⟩
                  · have hjk1 : j = k + 1 := by omega
                    have HD : Hid (deco l = some (u, k + 1)) := by
                      have h1 := HJT.out
                      rw [hjk1, List.take_of_length_le (by rw [HFL.out]; exact Nat.le_refl _)] at h1
                      have h2 := deco_form HU.out (l.drop (k + 1))
                      rw [h1, List.take_append_drop] at h2
                      rw [← h1, HFL.out] at h2
                      exact h2
                    go_wp2
                    go_ret2
                    exact ⟨u, k + 1, by rfl, ⟨HB.out.os, HB.out.tape, HB.out.output, HB.out.size, HB.out.block⟩, HU.out, .inl HD.out⟩
              · have HD : Hid (deco l = none) := by
                  unfold Hid
                  rw [deco_none_iff]
                  rintro ⟨h1, _, h3⟩
                  rw [← HUV.out] at h3
                  have := congrArg List.length h3
                  rw [List.length_take, HM.out] at this
                  rw [HM.out] at h1
                  omega
                have hne : ((form u).length : Int) ≠ (k : Int) + 1 := by omega
                have hne2 : (((form u).length : Int) != (k : Int) + 1) = true := by simpa using hne
                have HF10 := form_len10 HU.out
                go_wp2
                go_ret2
                exact numPost_none HD.out HB.out
    · have HD : Hid (deco l = none) := by
        have := more_ge l k (by rw [HN.out]; exact hk) HJ.out
        unfold Hid deco
        rw [if_neg]
        rw [HN.out]; omega
      go_wp2
      go_ret2
      exact numPost_none HD.out (BW.refl _)

end Go.Proofs.Ythepoplekabcoaa
