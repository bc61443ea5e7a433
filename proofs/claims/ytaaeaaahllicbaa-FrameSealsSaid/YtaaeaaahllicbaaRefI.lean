import Derived.Test.YtaaeaaahllicbaaCodQ
import Derived.Test.YtaaeaaahllicbaaCodM2
import Derived.Test.YtaaeaaahllicbaaCodL
import Derived.StillTailTactics
import Derived.Deep.RegionWith
import Derived.Deep.CutRange
import Derived.Test.YtaaeaaahllicbaaCodP
/- The reference's numbers: Uint, Turned, Back, Text. -/
namespace Go.Proofs.Ytaaeaaahllicbaa
open Go.RowKit Go.Maps

theorem form_take {n i : Nat} (h : i < (form n).length) : (form n).take (i + 1) = (form n).take i ++ [UInt8.ofNat (n / 2 ^ (7 * i) % 128 + (if i + 1 < (form n).length then 128 else 0))] := by
  rw [List.take_succ_eq_append_getElem h, ← form_get i n h]
  simp
theorem div_cast (n i : Nat) : (n : Int) / 2 ^ (7 * i) = ((n / 2 ^ (7 * i) : Nat) : Int) := by simp

set_option maxHeartbeats 2000000 in
set_option maxRecDepth 100000 in
theorem refUint_any (n : Nat) (hn : n < 18446744073709551616) (w : World) : Calls Try.prog 28 #[.int .u64 (n : Int)] w (BytesPost w (form n)) := by
  have hn1 : (n : Int) ≤ 18446744073709551615 := by omega
  have hn0 : 0 ≤ (n : Int) := by omega
  have HNN := Lib.hid hn
  clear hn
  go_enter Try.func28, Try.ntmps28
  go_wp2
  go_loop [3] (fun i => ∃ k : Nat, 1 ≤ k ∧ k ≤ 10 ∧ i = .int .i64 (k : Int) ∧ (k = 1 ∨ 2 ^ (7 * (k - 1)) ≤ n)) (fun i => 10 - (intOf i).toNat)
  case atStart => exact ⟨1, by omega, by omega, rfl, .inl rfl⟩
  case round =>
    obtain ⟨k, hk1, hk2, rfl, hkn⟩ := hrel
    have HKN := Lib.hid hkn
    clear hkn
    by_cases hc : k < 10 ∧ 2 ^ (7 * k) ≤ n
    · obtain ⟨ha, hb⟩ := hc
      have HB := Lib.hid hb
      have hgt : (0 : Int) < (n : Int) / 2 ^ (7 * k) := by
        have h1 : 0 < n / 2 ^ (7 * k) := Nat.div_pos hb (Nat.pow_pos (by decide))
        have h2 : (n : Int) / 2 ^ (7 * k) = ((n / 2 ^ (7 * k) : Nat) : Int) := by simp
        rw [h2]; omega
      clear hb
      go_wp2
      go_round
      case rel => exact ⟨k + 1, by omega, by omega, by go_num, .inr (by rw [Nat.add_sub_cancel]; exact HB.out)⟩
      case measure => simp [intOf]; omega
    · have hL : (form n).length = k := by
        refine form_len_eq k n hk1 HKN.out ?_
        by_cases e : k = 10
        · subst e; have := HNN.out; omega
        · have : ¬ 2 ^ (7 * k) ≤ n := fun h => hc ⟨by omega, h⟩
          omega
      have hq0 : ¬ k = 10 → (n : Int) / 2 ^ (7 * k) = 0 := by
        intro e
        have h1 : ¬ 2 ^ (7 * k) ≤ n := fun h => hc ⟨by omega, h⟩
        rw [div_cast, Nat.div_eq_of_lt (by omega)]; rfl
      have HL := Lib.hid hL
      have HQ0 := Lib.hid hq0
      clear hc hL hq0
      by_cases h10 : k = 10
      · clear HQ0
        have h10' : ¬ k < 10 := by omega
        subst h10
        go_wp2
        go_loopw [4, 5] (fun v i wr => ∃ j : Nat, j ≤ 10 ∧ i = .int .i64 (j : Int) ∧ wr.ownsRow w.heap.size 5 1 v j (((form n).take j).map bV) ∧ BW w wr) (fun _ i _ => 10 - (intOf i).toNat)
        case atStart => exact ⟨0, Nat.zero_le _, rfl, ⟨rfl, .inl ⟨rfl, rfl⟩⟩, BW.refl _⟩
        case round =>
          obtain ⟨j, hj, rfl, ho, hb⟩ := hrel
          have HO := Lib.hid ho; have HB := Lib.hid hb
          clear ho hb
          by_cases hlt : j < 10
          · obtain ⟨q, hq⟩ : ∃ q, n / 2 ^ (7 * j) = q := ⟨_, rfl⟩
            have hqi : (n : Int) / 2 ^ (7 * j) = (q : Int) := by rw [div_cast, hq]
            have hq0 : 0 ≤ (q : Int) := by omega
            have HT := Lib.hid (form_take (n := n) (i := j) (by rw [HL.out]; exact hlt))
            rw [HL.out, hq] at HT
            clear hq
            by_cases hl : j + 1 < 10
            · rw [if_pos hl] at HT
              go_wp2_with (at_builtin; refine append_bytes rfl (.tmp 37) (.tmp 39) rfl w.heap.size u4 j ((form n).take j) rfl (HO.out.alloc _) (.slice (some ⟨wr.heap.size, 0, none⟩) 1 1) rfl [UInt8.ofNat (q % 128 + 128)] (src_byte ?_ (by omega)) ?_ ?_ ?_)
              · omega
              · show j + 1 ≤ _; omega
              · have := HB.out.size; simp; omega
              · intro v3 w3 ho3 hg3
                have HO3 : Hid (w3.ownsRow w.heap.size 5 1 v3 (j + 1) (((form n).take (j + 1)).map bV)) := by
                  unfold Hid; rw [HT.out]; simpa using ho3
                have HB3 := Lib.hid (bw_grown (HB.out.alloc _) hg3 (row_own HO.out))
                clear ho3 hg3
                go_wp2
                go_roundw
                case rel => exact ⟨j + 1, by omega, by go_num, HO3.out, HB3.out⟩
                case measure => simp [intOf]; omega
            · rw [if_neg hl] at HT
              go_wp2_with (at_builtin; refine append_bytes rfl (.tmp 37) (.tmp 39) rfl w.heap.size u4 j ((form n).take j) rfl (HO.out.alloc _) (.slice (some ⟨wr.heap.size, 0, none⟩) 1 1) rfl [UInt8.ofNat (q % 128 + 0)] (src_byte ?_ (by omega)) ?_ ?_ ?_)
              · omega
              · show j + 1 ≤ _; omega
              · have := HB.out.size; simp; omega
              · intro v3 w3 ho3 hg3
                have HO3 : Hid (w3.ownsRow w.heap.size 5 1 v3 (j + 1) (((form n).take (j + 1)).map bV)) := by
                  unfold Hid; rw [HT.out]; simpa using ho3
                have HB3 := Lib.hid (bw_grown (HB.out.alloc _) hg3 (row_own HO.out))
                clear ho3 hg3
                go_wp2
                go_roundw
                case rel => exact ⟨j + 1, by omega, by go_num, HO3.out, HB3.out⟩
                case measure => simp [intOf]; omega
          · have hjk : j = 10 := by omega
            have HO2 : Hid (wr.ownsRow w.heap.size 5 1 u4 (form n).length ((form n).map bV)) := by
              have := HO.out
              rw [hjk] at this
              rw [List.take_of_length_le (by rw [HL.out]; exact Nat.le_refl _)] at this
              unfold Hid; rw [HL.out]; exact this
            clear hjk
            go_wp2
            go_ret
            exact ⟨_, rfl, HO2.out, HB.out⟩
      · have hz := HQ0.out h10
        have hk10 : k < 10 := by omega
        clear HQ0 h10
        go_wp2
        go_loopw [4, 5] (fun v i wr => ∃ j : Nat, j ≤ k ∧ i = .int .i64 (j : Int) ∧ wr.ownsRow w.heap.size 5 1 v j (((form n).take j).map bV) ∧ BW w wr) (fun _ i _ => k - (intOf i).toNat)
        case atStart => exact ⟨0, Nat.zero_le _, rfl, ⟨rfl, .inl ⟨rfl, rfl⟩⟩, BW.refl _⟩
        case round =>
          obtain ⟨j, hj, rfl, ho, hb⟩ := hrel
          have HO := Lib.hid ho; have HB := Lib.hid hb
          clear ho hb
          by_cases hlt : j < k
          · obtain ⟨q, hq⟩ : ∃ q, n / 2 ^ (7 * j) = q := ⟨_, rfl⟩
            have hqi : (n : Int) / 2 ^ (7 * j) = (q : Int) := by rw [div_cast, hq]
            have hq0 : 0 ≤ (q : Int) := by omega
            have HT := Lib.hid (form_take (n := n) (i := j) (by rw [HL.out]; exact hlt))
            rw [HL.out, hq] at HT
            clear hq
            by_cases hl : j + 1 < k
            · rw [if_pos hl] at HT
              go_wp2_with (at_builtin; refine append_bytes rfl (.tmp 37) (.tmp 39) rfl w.heap.size u4 j ((form n).take j) rfl (HO.out.alloc _) (.slice (some ⟨wr.heap.size, 0, none⟩) 1 1) rfl [UInt8.ofNat (q % 128 + 128)] (src_byte ?_ (by omega)) ?_ ?_ ?_)
              · omega
              · show j + 1 ≤ _; omega
              · have := HB.out.size; simp; omega
              · intro v3 w3 ho3 hg3
                have HO3 : Hid (w3.ownsRow w.heap.size 5 1 v3 (j + 1) (((form n).take (j + 1)).map bV)) := by
                  unfold Hid; rw [HT.out]; simpa using ho3
                have HB3 := Lib.hid (bw_grown (HB.out.alloc _) hg3 (row_own HO.out))
                clear ho3 hg3
                go_wp2
                go_roundw
                case rel => exact ⟨j + 1, by omega, by go_num, HO3.out, HB3.out⟩
                case measure => simp [intOf]; omega
            · rw [if_neg hl] at HT
              go_wp2_with (at_builtin; refine append_bytes rfl (.tmp 37) (.tmp 39) rfl w.heap.size u4 j ((form n).take j) rfl (HO.out.alloc _) (.slice (some ⟨wr.heap.size, 0, none⟩) 1 1) rfl [UInt8.ofNat (q % 128 + 0)] (src_byte ?_ (by omega)) ?_ ?_ ?_)
              · omega
              · show j + 1 ≤ _; omega
              · have := HB.out.size; simp; omega
              · intro v3 w3 ho3 hg3
                have HO3 : Hid (w3.ownsRow w.heap.size 5 1 v3 (j + 1) (((form n).take (j + 1)).map bV)) := by
                  unfold Hid; rw [HT.out]; simpa using ho3
                have HB3 := Lib.hid (bw_grown (HB.out.alloc _) hg3 (row_own HO.out))
                clear ho3 hg3
                go_wp2
                go_roundw
                case rel => exact ⟨j + 1, by omega, by go_num, HO3.out, HB3.out⟩
                case measure => simp [intOf]; omega
          · have hjk : j = k := by omega
            have HO2 : Hid (wr.ownsRow w.heap.size 5 1 u4 (form n).length ((form n).map bV)) := by
              have := HO.out
              rw [hjk] at this
              rw [List.take_of_length_le (by rw [HL.out]; exact Nat.le_refl _)] at this
              unfold Hid; rw [HL.out]; exact this
            clear hjk
            go_wp2
            go_ret
            exact ⟨_, rfl, HO2.out, HB.out⟩

end Go.Proofs.Ytaaeaaahllicbaa

/- The reference's Turned, Back, Text. -/
namespace Go.Proofs.Ytaaeaaahllicbaa
open Go.RowKit Go.Maps

end Go.Proofs.Ytaaeaaahllicbaa

/- The reference's number. -/
namespace Go.Proofs.Ytaaeaaahllicbaa
open Go.RowKit Go.Maps

def NumPost (w : World) (l : List UInt8) (e : Ending) (w' : World) : Prop :=
  ∃ u k : Nat, e = .returned (.tuple #[.int .u64 (u : Int), .int .i64 (k : Int)]) ∧ BW w w' ∧ u < 18446744073709551616 ∧ (deco l = some (u, k) ∨ (deco l = none ∧ u = 0 ∧ k = 0))
theorem numPost_none {w w' : World} {l : List UInt8} (h : deco l = none) (hb : BW w w') : NumPost w l (.returned (.tuple #[.int .u64 0, .int .i64 0])) w' := ⟨0, 0, rfl, hb, by decide, .inr ⟨h, rfl, rfl⟩⟩

/-- the number of the bytes from place j on, up to the last one -/
def tailv (l : List UInt8) (K j : Nat) : Nat := val ((l.take (K + 1)).drop j) % 18446744073709551616

theorem tailv_step {l : List UInt8} {K j : Nat} {ch : UInt8} {x z : Nat} (hj : j ≤ K) (hc : l[j]? = some ch) (hx : ch.toNat = x) (hz : tailv l K (j + 1) = z) : bits .or .u64 (IntKind.u64.wrap ((z : Int) * 128)) ((x : Int) % 128) = (tailv l K j : Int) := by
  obtain ⟨hjl, he⟩ := List.getElem?_eq_some_iff.1 hc
  have hd : (l.take (K + 1)).drop j = ch :: (l.take (K + 1)).drop (j + 1) := by
    rw [List.drop_eq_getElem_cons (by rw [List.length_take]; omega)]
    simp [he]
  have hw : ∀ n : Nat, IntKind.u64.wrap (n : Int) = ((n % 18446744073709551616 : Nat) : Int) := fun n => by
    simp [IntKind.wrap, IntKind.bits, IntKind.signed]
  have hcast : (z : Int) * 128 = ((z * 128 : Nat) : Int) := by simp
  have hcast2 : (x : Int) % 128 = ((x % 128 : Nat) : Int) := by simp
  unfold tailv at hz ⊢
  rw [hd, val_cons, hx, hcast, hcast2, hw]
  generalize val ((l.take (K + 1)).drop (j + 1)) = a at hz
  have h1 : z * 128 % 18446744073709551616 = 2 ^ 7 * (z % 144115188075855872) := by omega
  rw [h1, u64_or_nat _ _ (by omega) (by omega), ← Nat.two_pow_add_eq_or_of_lt (by omega : x % 128 < 2 ^ 7)]
  congr 1
  omega

set_option maxHeartbeats 1000000 in
set_option maxRecDepth 100000 in
theorem number_nil {w : World} {ao : Option Addr} {cap : Nat} : Calls Try.prog 43 #[.slice ao 0 cap] w (NumPost w []) := by
  have HD : Hid (deco [] = none) := rfl
  go_enter Try.func43, Try.ntmps43
  go_wp2
  refine wp_loop_rounds 1 ?_
  rw [rounds_succ]
  go_wp2
  go_ret2
  exact numPost_none HD.out (BW.refl _)

set_option maxHeartbeats 4000000 in
set_option maxRecDepth 100000 in
theorem number_some {w : World} {b off cap : Nat} {l : List UInt8} (h : Src w (.slice (some ⟨b, off, none⟩) l.length cap) (l.map bV)) (hl : l ≠ []) (hlen : (l.length : Int) ≤ 140737488351232) :
    Calls Try.prog 43 #[.slice (some ⟨b, off, none⟩) l.length cap] w (NumPost w l) := by
  have hcell : ∀ j u, (l.map bV)[j]? = some u → w.cell? ⟨b, off + j, none⟩ = some u := by
    rcases h with ⟨_, _, _, hx, _⟩ | ⟨b', off', c', hv, _, _, _, g4⟩
    · exact absurd (by simpa using hx) hl
    · injection hv with e1 _ _; cases e1; exact g4
  have G4 := Lib.hid hcell
  have H := Lib.hid h
  obtain ⟨n, hn⟩ : ∃ n, l.length = n := ⟨_, rfl⟩
  have HN := Lib.hid hn
  have H0 : Hid (Src w (.slice (some ⟨b, off, none⟩) n cap) (l.map bV)) := by unfold Hid; rw [← hn]; exact h
  rw [hn] at hlen ⊢
  clear h hcell hl hn
  go_enter Try.func43, Try.ntmps43
  go_wp2
  go_loop [4] (fun i => ∃ k : Nat, k ≤ n ∧ i = .int .i64 (k : Int) ∧ ∀ j (hj : j < k) (hj' : j < l.length), 128 ≤ l[j].toNat) (fun i => n - (intOf i).toNat)
  case atStart => exact ⟨0, Nat.zero_le _, rfl, fun j hj => by omega⟩
  case round =>
    obtain ⟨k, hk, rfl, hj⟩ := hrel
    have HJ := Lib.hid hj
    clear hj
    by_cases hlt : k < n
    · have hkl : k < l.length := by have := HN.out; omega
      obtain ⟨ch, hc⟩ : ∃ ch, l[k]? = some ch := ⟨_, List.getElem?_eq_getElem hkl⟩
      obtain ⟨x, hx⟩ : ∃ x, ch.toNat = x := ⟨_, rfl⟩
      have ck : w.cell? ⟨b, off + k, none⟩ = some (.int .u8 (x : Int)) := by
        have := G4.out k (bV ch) (by rw [List.getElem?_map, hc]; rfl)
        unfold bV at this
        rw [hx] at this; exact this
      have hx2 : x < 256 := by rw [← hx]; exact ch.toNat_lt
      have HX := Lib.hid hx
      have HC := Lib.hid hc
      clear hx hkl hc
      by_cases hx8 : 128 ≤ x
      · go_wp2
        go_round
        case rel =>
          refine ⟨k + 1, by omega, by go_num, ?_⟩
          intro j h1 h2
          by_cases e : j = k
          · subst e
            obtain ⟨_, h3⟩ := List.getElem?_eq_some_iff.1 HC.out
            rw [h3, HX.out]; omega
          · exact HJ.out j (by omega) h2
        case measure => simp [intOf]; omega
      · have HM : Hid (more l = k) := by
          obtain ⟨h3, h4⟩ := List.getElem?_eq_some_iff.1 HC.out
          exact more_at h3 HJ.out (by rw [h4, HX.out]; omega)
        by_cases h9 : 9 < k
        · have HD : Hid (deco l = none) := by
            unfold Hid deco
            rw [if_neg]
            rw [HM.out]; omega
          go_wp2
          go_ret2
          exact numPost_none HD.out (BW.refl _)
        · have hk9 : k ≤ 9 := by omega
          go_wp2
          clear HJ ck HC HX hx2 hx8 h9
          go_loop [5, 6] (fun s i => ∃ j : Nat, j ≤ k + 1 ∧ i = .int .i64 ((j : Int) - 1) ∧ s = .int .u64 (tailv l k j : Int)) (fun _ i => (intOf i + 1).toNat)
          case atStart => exact ⟨k + 1, Nat.le_refl _, by go_num, by have : tailv l k (k + 1) = 0 := by { unfold tailv; rw [List.drop_eq_nil_of_le (by rw [List.length_take]; omega)]; rfl }
                                                                     rw [this]; rfl⟩
          case round =>
            obtain ⟨j, hj, rfl, rfl⟩ := hrel
            by_cases hj0 : 1 ≤ j
            · obtain ⟨i, rfl⟩ : ∃ i, j = i + 1 := ⟨j - 1, by omega⟩
              have hil : i < l.length := by have := HN.out; omega
              obtain ⟨ch, hc⟩ : ∃ ch, l[i]? = some ch := ⟨_, List.getElem?_eq_getElem hil⟩
              obtain ⟨x, hx⟩ : ∃ x, ch.toNat = x := ⟨_, rfl⟩
              have ck : w.cell? ⟨b, off + i, none⟩ = some (.int .u8 (x : Int)) := by
                have := G4.out i (bV ch) (by rw [List.getElem?_map, hc]; rfl)
                unfold bV at this
                rw [hx] at this; exact this
              have hx2 : x < 256 := by rw [← hx]; exact ch.toNat_lt
              obtain ⟨z, hz⟩ : ∃ z, tailv l k (i + 1) = z := ⟨_, rfl⟩
              have hz2 : z < 18446744073709551616 := by rw [← hz]; exact Nat.mod_lt _ (by decide)
              have hst := tailv_step (by omega) hc hx hz
              obtain ⟨y, hy⟩ : ∃ y, tailv l k i = y := ⟨_, rfl⟩
              rw [hy] at hst
              have HY := Lib.hid hy
              rw [hz]
              have hii : ((i + 1 : Nat) : Int) - 1 = (i : Int) := by omega
              rw [hii]
              clear hx hil hc hz hy hii
              go_wp2
              go_round
              case rel => exact ⟨i, by omega, by go_num, by rw [HY.out]⟩
              case measure => simp [intOf]
            · obtain rfl : j = 0 := by omega
              obtain ⟨u, hu⟩ : ∃ u, tailv l k 0 = u := ⟨_, rfl⟩
              have HU : Hid (u < 18446744073709551616) := by unfold Hid; rw [← hu]; exact Nat.mod_lt _ (by decide)
              rw [hu]
              have HUV : Hid (u = val (l.take (more l + 1)) % 18446744073709551616) := by
                unfold Hid; rw [← hu, HM.out]; unfold tailv; rw [List.drop_zero]
              clear hu
              go_wp2_with fail
              refine (refUint_any u HU.out _).mono ?_
              rintro e w1 ⟨v1, rfl, ho, hb⟩
              have HO := Lib.hid ho; have HB := Lib.hid hb
              obtain ⟨fo, fn, fc, rfl⟩ := row_form ho
              obtain rfl : fn = (form u).length := row_len ho rfl
              clear ho hb
              by_cases hfl : (form u).length = k + 1
              · have HFL := Lib.hid hfl
                rw [hfl] at HO ⊢
                have HSRC := Lib.hid (Src.of_row HO.out)
                have HBL := Lib.hid (H0.out.below HB.out)
                have hfs : ∃ fb fof, fo = some ⟨fb, fof, none⟩ ∧ ∀ j y, ((form u).map bV)[j]? = some y → w1.cell? ⟨fb, fof + j, none⟩ = some y := by
                  rcases HSRC.out with ⟨_, _, h1, h2, _⟩ | ⟨b', off', c', hv, _, _, _, g4⟩
                  · have := congrArg List.length h2
                    simp at this; rw [this] at hfl; simp at hfl
                  · injection hv with e1 _ _; exact ⟨b', off', e1, g4⟩
                obtain ⟨fb, fof, rfl, hfc⟩ := hfs
                have HFC := Lib.hid hfc
                have hbc : ∀ j y, (l.map bV)[j]? = some y → w1.cell? ⟨b, off + j, none⟩ = some y := by
                  rcases HBL.out with ⟨_, _, h1, h2, _⟩ | ⟨b', off', c', hv, _, _, _, g4⟩
                  · injection h1 with _ e2 _; omega
                  · injection hv with e1 _ _; cases e1; exact g4
                have HBC := Lib.hid hbc
                have hkn : k + 1 ≤ n := hlt
                clear hfl hfc hbc hlt
                go_wp2
                go_loopw [8] (fun i wr => ∃ j : Nat, j ≤ k + 1 ∧ i = .int .i64 (j : Int) ∧ (form u).take j = l.take j ∧ ∃ nn, wr = w1.drewN nn) (fun i _ => k + 1 - (intOf i).toNat)
                case atStart => exact ⟨0, Nat.zero_le _, rfl, rfl, 0, rfl⟩
                case round =>
                  obtain ⟨j, hj, rfl, hjt, nn, rfl⟩ := hrel
                  have HJT := Lib.hid hjt
                  clear hjt
                  by_cases hjk : j < k + 1
                  · have hjl : j < l.length := by have := HN.out; omega
                    have hjf : j < (form u).length := by rw [HFL.out]; exact hjk
                    obtain ⟨ch, hc⟩ : ∃ ch, l[j]? = some ch := ⟨_, List.getElem?_eq_getElem hjl⟩
                    obtain ⟨fh, hf⟩ : ∃ fh, (form u)[j]? = some fh := ⟨_, List.getElem?_eq_getElem hjf⟩
                    obtain ⟨x, hx⟩ : ∃ x, ch.toNat = x := ⟨_, rfl⟩
                    obtain ⟨y, hy⟩ : ∃ y, fh.toNat = y := ⟨_, rfl⟩
                    have ck : w1.cell? ⟨b, off + j, none⟩ = some (.int .u8 (x : Int)) := by
                      have := HBC.out j (bV ch) (by rw [List.getElem?_map, hc]; rfl)
                      unfold bV at this
                      rw [hx] at this; exact this
                    have fk : w1.cell? ⟨fb, fof + j, none⟩ = some (.int .u8 (y : Int)) := by
                      have := HFC.out j (bV fh) (by rw [List.getElem?_map, hf]; rfl)
                      unfold bV at this
                      rw [hy] at this; exact this
                    have HC := Lib.hid hc; have HFH := Lib.hid hf; have HX := Lib.hid hx; have HY := Lib.hid hy
                    have hi0 : (0 : Int) ≤ (j : Int) := by omega
                    have hi1 : (j : Int) < (n : Int) := by omega
                    have hi2 : (j : Int) < (k : Int) + 1 := by omega
                    clear hc hf hx hy hjl hjf
                    by_cases hxy : x = y
                    · subst hxy
                      have hbe : ((x : Int) != (x : Int)) = false := by simp
                      go_wp2
                      go_quiet (fail)
                      go_wp2
                      go_roundw
                      case rel =>
                        refine ⟨j + 1, by omega, by go_num, ?_, _, rfl⟩
                        obtain ⟨q1, q2⟩ := List.getElem?_eq_some_iff.1 HC.out
                        obtain ⟨q3, q4⟩ := List.getElem?_eq_some_iff.1 HFH.out
                        rw [List.take_succ_eq_append_getElem q1, List.take_succ_eq_append_getElem q3, HJT.out, q2, q4]
                        have : fh = ch := UInt8.toNat_inj.1 (by rw [HY.out, HX.out])
                        rw [this]
                      case measure => simp [intOf]; omega
                    · have hbe : ((y : Int) != (x : Int)) = true := by simp; omega
                      have HD : Hid (deco l = none) := by
                        unfold Hid
                        rw [deco_none_iff]
                        rintro ⟨h1, _, h3⟩
                        rw [← HUV.out, HM.out] at h3
                        have e1 := congrArg (fun z => z[j]?) h3
                        simp only [HFH.out, List.getElem?_take, if_pos hjk, HC.out] at e1
                        injection e1 with e1
                        rw [e1, HX.out] at HY
                        exact hxy HY.out
                      go_wp2
                      go_quiet (fail)
                      go_wp2
                      go_ret2
                      exact numPost_none HD.out ⟨HB.out.os, HB.out.tape, HB.out.output, HB.out.size, HB.out.block⟩
                  · have hjk1 : j = k + 1 := by omega
                    have HD : Hid (deco l = some (u, k + 1)) := by
                      have h1 := HJT.out
                      rw [hjk1, List.take_of_length_le (by rw [HFL.out]; exact Nat.le_refl _)] at h1
                      have h2 := deco_form HU.out (l.drop (k + 1))
                      rw [h1, List.take_append_drop] at h2
                      rw [← h1, HFL.out] at h2
                      exact h2
                    go_wp2
                    go_ret2
                    exact ⟨u, k + 1, by rfl, ⟨HB.out.os, HB.out.tape, HB.out.output, HB.out.size, HB.out.block⟩, HU.out, .inl HD.out⟩
              · have HD : Hid (deco l = none) := by
                  unfold Hid
                  rw [deco_none_iff]
                  rintro ⟨h1, _, h3⟩
                  rw [← HUV.out] at h3
                  have := congrArg List.length h3
                  rw [List.length_take, HM.out] at this
                  rw [HM.out] at h1
                  omega
                have hne : ((form u).length : Int) ≠ (k : Int) + 1 := by omega
                have hne2 : (((form u).length : Int) != (k : Int) + 1) = true := by simpa using hne
                have HF10 := form_len10 HU.out
                go_wp2
                go_ret2
                exact numPost_none HD.out HB.out
    · have HD : Hid (deco l = none) := by
        have := more_ge l k (by rw [HN.out]; exact hk) HJ.out
        unfold Hid deco
        rw [if_neg]
        rw [HN.out]; omega
      go_wp2
      go_ret2
      exact numPost_none HD.out (BW.refl _)

end Go.Proofs.Ytaaeaaahllicbaa

/- The reference's reader: Left, Err, Uint. -/
namespace Go.Proofs.Ytaaeaaahllicbaa
open Go.RowKit Go.Maps

structure Rf (w : World) (s : Nat) (v : Value) (bs : List UInt8) (p : Nat) (e : Int) : Prop where
  blk : w.heap[s]? = some (.cells #[v, .int .i64 (p : Int), .int .i64 e] 61 (0, 0))
  src : Src w v (bs.map bV)
  le : p ≤ bs.length
  len : (bs.length : Int) ≤ 140737488351232
  ne : bs ≠ [] → ∀ a n k, v = .slice (some a) n k → a.block ≠ s

theorem bw_drew1 {w w' : World} (h : BW w w') : BW w w'.drew := ⟨h.os, h.tape, h.output, h.size, h.block⟩
theorem Rf.keep {w w' : World} {s : Nat} {v : Value} {bs : List UInt8} {p : Nat} {e : Int} (h : Rf w s v bs p e) (hs : w.heap.size ≤ w'.heap.size) (h1 : w'.heap[s]? = w.heap[s]?) (h2 : bs ≠ [] → ∀ a n k, v = .slice (some a) n k → w'.heap[a.block]? = w.heap[a.block]?) : Rf w' s v bs p e :=
  ⟨h1.trans h.blk, h.src.keep hs (fun hne a n k e => h2 (by rintro rfl; exact hne rfl) a n k e), h.le, h.len, h.ne⟩
theorem Rf.below {w w' : World} {s : Nat} {v : Value} {bs : List UInt8} {p : Nat} {e : Int} (h : Rf w s v bs p e) (hb : BW w w') : Rf w' s v bs p e := by
  refine ⟨(hb.block s (lt_of_heap h.blk)).trans h.blk, h.src.below hb, h.le, h.len, h.ne⟩
/-- another place and error -/
theorem Rf.turn {w w' : World} {s : Nat} {v : Value} {bs : List UInt8} {p q : Nat} {e e' : Int} (h : Rf w s v bs p e) (hm : Moves (fun b => b = s) w w') (hb : w'.heap[s]? = some (.cells #[v, .int .i64 (q : Int), .int .i64 e'] 61 (0, 0))) (hq : q ≤ bs.length) : Rf w' s v bs q e' := by
  refine ⟨hb, h.src.keep hm.size (fun hne a n k e => ?_), hq, h.len, h.ne⟩
  have hbs : bs ≠ [] := by rintro rfl; exact hne rfl
  have hlt : a.block < w.heap.size := by
    rcases h.src with ⟨_, _, _, hx, _⟩ | ⟨b, off, cap, hv, _, _, h3, _⟩
    · exact absurd hx hne
    · rw [hv] at e; cases e; exact h3
  exact hm.block _ hlt (h.ne hbs a n k e)

theorem number_any {w : World} {v : Value} {l : List UInt8} (h : Src w v (l.map bV)) (hlen : (l.length : Int) ≤ 140737488351232) : Calls Try.prog 43 #[v] w (NumPost w l) := by
  by_cases hl : l = []
  · subst hl
    obtain ⟨ao, cap, rfl⟩ := h.len
    exact number_nil
  · rcases h with ⟨_, _, _, hx, _⟩ | ⟨b, off, cap, hv, g1, g2, g3, g4⟩
    · exact absurd (by simpa using hx) hl
    · subst hv
      have h' : Src w (.slice (some ⟨b, off, none⟩) l.length cap) (l.map bV) := .inr ⟨b, off, cap, by rw [List.length_map], g1, g2, g3, g4⟩
      rw [List.length_map]
      exact number_some h' hl hlen

set_option maxHeartbeats 1000000 in
theorem refErr_any {w : World} {s : Nat} {v : Value} {bs : List UInt8} {p : Nat} {e : Int} (h : Rf w s v bs p e) : Calls Try.prog 44 #[.pointer (some ⟨s, 0, none⟩)] w fun en w' => en = .returned (.int .i64 e) ∧ w = w' := by
  have c2 : w.cell? ⟨s, 2, none⟩ = some (.int .i64 e) := cell_of h.blk rfl
  clear h
  go_enter Try.func44, Try.ntmps44
  go_wp2
  go_ret
  exact ⟨rfl, rfl⟩
set_option maxHeartbeats 1000000 in
theorem refErr_nil {w : World} : Calls Try.prog 44 #[.pointer none] w fun en w' => en = .returned (.int .i64 20) ∧ w = w' := by
  go_enter Try.func44, Try.ntmps44
  go_wp2
  go_ret
  exact ⟨rfl, rfl⟩

def RefG (w : World) (s : Nat) (v : Value) (bs : List UInt8) (p : Nat) (z : Value) (D : Option (Value × Nat)) (e : Ending) (w' : World) : Prop :=
  ∃ x, e = .returned x ∧ Moves (fun b => b = s) w w' ∧ ((∃ k, D = some (x, k) ∧ Rf w' s v bs (p + k) 0) ∨ (D = none ∧ x = z ∧ Rf w' s v bs p 20))


theorem sub_src1 {w : World} {ao : Option Addr} {n cap p : Nat} {bs : List UInt8} (h : Src w (.slice ao n cap) (bs.map bV)) (hn : bs.length = n) (hp : p ≤ n) (hc : cap = p) : Src w (.slice ao (n - p) 0) ((bs.drop p).map bV) := by
  have hz : bs.drop p = [] ∧ n - p = 0 := by
    rcases h with ⟨ao', c', e, e2, h5, h6⟩ | ⟨b', off', c', hv, h1, h2, h3, h4⟩
    · have : bs = [] := by simpa using e2
      subst this
      simp at hn
      exact ⟨by simp, by omega⟩
    · injection hv with _ e1 e2
      rw [List.length_map] at h1
      exact ⟨List.drop_eq_nil_of_le (by omega), by omega⟩
  rw [hz.1, hz.2]
  exact .inl ⟨_, _, rfl, rfl, fun _ => rfl, by decide⟩
theorem sub_src2 {w : World} {ao : Option Addr} {n cap p : Nat} {bs : List UInt8} (h : Src w (.slice ao n cap) (bs.map bV)) (hn : bs.length = n) (hp : p ≤ n) (hc : ¬ cap = p) : Src w (.slice (Option.map (fun x => x.add p) ao) (n - p) (cap - p)) ((bs.drop p).map bV) := by
  rcases h with ⟨ao', c', e, e2, h5, h6⟩ | ⟨b', off', c', hv, h1, h2, h3, h4⟩
  · have : bs = [] := by simpa using e2
    subst this
    simp at hn
    subst hn
    obtain rfl : p = 0 := by omega
    injection e with e0 e1 e3
    subst e3
    refine .inl ⟨_, _, rfl, rfl, fun e => ?_, by simpa using h6⟩
    cases ao with
    | none => rw [h5 e0.symm]
    | some a => cases e
  · injection hv with e0 e1 e2
    subst e0
    rw [List.length_map] at h1
    refine .inr ⟨b', off' + p, cap - p, ?_, ?_, by omega, h3, fun j u hu => ?_⟩
    · rw [List.length_map, List.length_drop, hn, Option.map_some, addOff]
    · rw [List.length_map, List.length_drop]; omega
    · rw [List.map_drop, List.getElem?_drop] at hu
      rw [Nat.add_assoc]; exact h4 _ u hu


end Go.Proofs.Ytaaeaaahllicbaa

/- The reference's reader: Uint. -/
namespace Go.Proofs.Ytaaeaaahllicbaa
open Go.RowKit Go.Maps

end Go.Proofs.Ytaaeaaahllicbaa

/- The reference's reader with an error; a nil one; Int. -/
namespace Go.Proofs.Ytaaeaaahllicbaa
open Go.RowKit Go.Maps

set_option maxHeartbeats 1000000 in
theorem refSize_bad {w : World} {s : Nat} {v : Value} {bs : List UInt8} {p : Nat} {e : Int} (h : Rf w s v bs p e) (he : (e != 0) = true) (n : Int) : Calls Try.prog 33 #[.pointer (some ⟨s, 0, none⟩), .int .i64 n] w fun en w' => en = .returned (.int .i64 0) ∧ w = w' := by
  have c2 : w.cell? ⟨s, 2, none⟩ = some (.int .i64 e) := cell_of h.blk rfl
  clear h
  go_enter Try.func33, Try.ntmps33
  go_wp2
  go_ret
  exact ⟨rfl, rfl⟩
set_option maxHeartbeats 1000000 in
theorem refSize_nil {w : World} (n : Int) : Calls Try.prog 33 #[.pointer none, .int .i64 n] w fun en w' => en = .returned (.int .i64 0) ∧ w = w' := by
  go_enter Try.func33, Try.ntmps33
  go_wp2
  go_ret
  exact ⟨rfl, rfl⟩

set_option maxHeartbeats 1000000 in
theorem refBytes_bad {w : World} {s : Nat} {v : Value} {bs : List UInt8} {p : Nat} {e : Int} (h : Rf w s v bs p e) (he : (e != 0) = true) (n : Int) : Calls Try.prog 34 #[.pointer (some ⟨s, 0, none⟩), .int .i64 n] w fun en w' => en = .returned (.slice none 0 0) ∧ w = w' := by
  have c2 : w.cell? ⟨s, 2, none⟩ = some (.int .i64 e) := cell_of h.blk rfl
  clear h
  go_enter Try.func34, Try.ntmps34
  go_wp2
  go_ret
  exact ⟨rfl, rfl⟩
set_option maxHeartbeats 1000000 in
theorem refBytes_nil {w : World} (n : Int) : Calls Try.prog 34 #[.pointer none, .int .i64 n] w fun en w' => en = .returned (.slice none 0 0) ∧ w = w' := by
  go_enter Try.func34, Try.ntmps34
  go_wp2
  go_ret
  exact ⟨rfl, rfl⟩

theorem back0 : back 0 = 0 := rfl
end Go.Proofs.Ytaaeaaahllicbaa

/- The reference's reader: Bytes, End. -/
namespace Go.Proofs.Ytaaeaaahllicbaa
open Go.RowKit Go.Maps

def RefBP (w : World) (s : Nat) (v : Value) (bs : List UInt8) (p : Nat) (n : Int) (e : Ending) (w' : World) : Prop :=
  ∃ x, e = .returned x ∧ Moves (fun b => b = s) w w' ∧ ((BytesOk (bs.drop p) n ∧ ∃ m : Nat, (m : Int) = n ∧ Rf w' s v bs (p + m) 0 ∧ w'.ownsRow w.heap.size 5 1 x m (((bs.drop p).take m).map bV)) ∨ (¬ BytesOk (bs.drop p) n ∧ x = .slice none 0 0 ∧ Rf w' s v bs p 20))

set_option maxRecDepth 100000 in
set_option maxHeartbeats 4000000 in
theorem refBytes_ok {w : World} {s : Nat} {v : Value} {bs : List UInt8} {p : Nat} (h : Rf w s v bs p 0) (n1 : Int) (hm1 : -9223372036854775808 ≤ n1) (hm2 : n1 ≤ 9223372036854775807) : Calls Try.prog 34 #[.pointer (some ⟨s, 0, none⟩), .int .i64 n1] w (RefBP w s v bs p n1) := by
  obtain ⟨ao, cap, rfl⟩ := h.src.len
  have hblk := h.blk
  rw [List.length_map] at hblk h ⊢
  have c0 : w.cell? ⟨s, 0, none⟩ = some (.slice ao bs.length cap) := cell_of hblk rfl
  have c1 : w.cell? ⟨s, 1, none⟩ = some (.int .i64 (p : Int)) := cell_of hblk rfl
  have c2 : w.cell? ⟨s, 2, none⟩ = some (.int .i64 0) := cell_of hblk rfl
  have f1 : w.frozen? ⟨s, 1, none⟩ = false := unfrozen_of hblk
  have f2 : w.frozen? ⟨s, 2, none⟩ = false := unfrozen_of hblk
  have hle := h.le
  have hlen := h.len
  obtain ⟨n, hn⟩ : ∃ n, bs.length = n := ⟨_, rfl⟩
  have HN := Lib.hid hn
  rw [hn] at c0 hle hlen h hblk ⊢
  have H := Lib.hid h
  have HDL2 : Hid ((bs.drop p).length = n - p) := by unfold Hid; rw [List.length_drop, HN.out]
  have hs1 : IntKind.i64.wrap ((n : Int) - (p : Int)) = (n : Int) - (p : Int) := IntWalk.i64_in _ (by omega)
  clear h hn hblk
  by_cases hok : BytesOk (bs.drop p) n1
  · have HOK := Lib.hid hok
    obtain ⟨ha, hb⟩ := hok
    rw [HDL2.out] at hb
    obtain ⟨m, rfl⟩ := Int.eq_ofNat_of_zero_le ha
    have hmr : m ≤ n - p := by omega
    have hd1 : decide ((m : Int) < 0) = false := decide_eq_false (by omega)
    have hd2 : decide ((n : Int) - (p : Int) < (m : Int)) = false := decide_eq_false (by omega)
    have hd3 : decide (0 ≤ (m : Int)) = true := decide_eq_true (by omega)
    have hd4 : decide ((m : Int) ≤ (n : Int) - (p : Int)) = true := decide_eq_true (by omega)
    obtain ⟨t, ht⟩ : ∃ t : Nat, t = p + m := ⟨_, rfl⟩
    have hti : (p : Int) + (m : Int) = (t : Int) := by omega
    have htw : IntKind.i64.wrap (t : Int) = (t : Int) := IntWalk.i64_in _ (by omega)
    have hti0 : 0 ≤ (t : Int) := by omega
    have hpt : p ≤ t := by omega
    have htn : t ≤ n := by omega
    have hncap : n ≤ cap := by
      rcases H.out.src with ⟨ao', c', e, e2, h5, h6⟩ | ⟨b', off', c', hv, h1, h2, h3, h4⟩
      · injection e with _ e1 _; omega
      · injection hv with _ e1 e2; omega
    have HTE := Lib.hid ht
    clear ha hb ht hmr
    go_enter Try.func34, Try.ntmps34
    go_wp2
    go_quiet (fail)
    clear hd1 hd2 hd3 hd4
    go_wp2
    generalize hW1 : w.drewN nq = W1
    have HW1 := Lib.hid hW1
    have d0 : W1.cell? ⟨s, 0, none⟩ = some (.slice ao n cap) := by rw [← hW1]; exact c0
    have d1 : W1.cell? ⟨s, 1, none⟩ = some (.int .i64 (p : Int)) := by rw [← hW1]; exact c1
    clear hW1 c0 c1 c2 f1 f2
    by_cases hcp : cap = p
    · have hA1 : (t : Int) ≤ (p : Int) := by omega
      go_still_tail 16, (by kernel_rfl)
      change wpList _ _ _ _ _ W1.drew
      have hb2 : BW w W1.drew := by rw [← HW1.out]; exact bw_drew1 (drewN_below w _)
      have HB2 := Lib.hid hb2
      have HS2 := Lib.hid (H.out.src.below hb2)
      generalize W1.drew = W2 at HB2 HS2 hb2 ⊢
      clear d0 d1 hb2 hti htw
      go_wp2_with (at_builtin; refine append_bytes rfl (.tmp 34) (.tmp 49) rfl w.heap.size (.slice none 0 0) 0 [] rfl ⟨rfl, .inl ⟨rfl, rfl⟩⟩ (.slice ao (t - p) 0) rfl ((bs.drop p).take m) (by rw [List.map_take]; have := (sub_src1 HS2.out HN.out (by omega) hcp).taken (m := t - p) (by rw [List.length_map, HDL2.out]; omega); rw [show m = t - p by have := HTE.out; omega]; exact this) (by rw [List.length_take, HDL2.out]; omega) ?_ ?_)
      · exact HB2.out.size
      intro v3 w3 ho3 hg3
      have hro : w3.ownsRow w.heap.size 5 1 v3 ((bs.drop p).take m).length (((bs.drop p).take m).map bV) := by simpa using ho3
      have HRO := Lib.hid hro
      have HO3 : Hid (Src w3 v3 (((bs.drop p).take m).map bV)) := Src.of_row hro
      clear hro
      have HB3 := Lib.hid (bw_grown HB2.out hg3 (fun k e => by cases e))
      clear ho3 hg3
      have H3 := Lib.hid (H.out.below HB3.out)
      have e1 : w3.cell? ⟨s, 1, none⟩ = some (.int .i64 (p : Int)) := cell_of H3.out.blk rfl
      have f1 : w3.frozen? ⟨s, 1, none⟩ = false := unfrozen_of H3.out.blk
      have hpm0 : (p : Int) + (m : Int) ≤ 140737488351232 := by have := HTE.out; omega
      obtain ⟨vo, vn, vc, rfl⟩ := HO3.out.len
      go_wp2
      go_ret
      have hpm : (p : Int) + (m : Int) = ((p + m : Nat) : Int) := by omega
      rw [hpm]
      have hms : Moves (fun b => b = s) w3 (w3.setCell ⟨s, 1, none⟩ (.int .i64 ((p + m : Nat) : Int))) := Moves.setCell (F := fun b => b = s) (Moves.refl _ _) (fun _ => rfl) _
      refine ⟨_, rfl, (Moves.of_below HB3.out _).trans hms (fun _ _ e => e), .inl ⟨HOK.out, m, rfl, H3.out.turn hms (heap_set H3.out.blk _) (by rw [HN.out, ← HTE.out]; exact htn), ?_⟩⟩
      have hlm : ((bs.drop p).take m).length = m := by rw [List.length_take, HDL2.out]; have := HTE.out; omega
      have hr := HRO.out
      rw [hlm] at hr
      refine row_keep hr (fun a n' k e => ?_)
      have h8 := row_base' hr a n' k e
      have h9 := lt_of_heap H.out.blk
      exact Below.heap_setCell _ _ _ _ (by intro e2; rw [e2] at h8; exact absurd h9 (Nat.not_lt.2 h8))
    · have hA1 : (t : Int) ≤ (cap : Int) := by omega
      go_still_tail 16, (by kernel_rfl)
      change wpList _ _ _ _ _ W1.drew
      have hb2 : BW w W1.drew := by rw [← HW1.out]; exact bw_drew1 (drewN_below w _)
      have HB2 := Lib.hid hb2
      have HS2 := Lib.hid (H.out.src.below hb2)
      generalize W1.drew = W2 at HB2 HS2 hb2 ⊢
      clear d0 d1 hb2 hti htw
      go_wp2_with (at_builtin; refine append_bytes rfl (.tmp 34) (.tmp 49) rfl w.heap.size (.slice none 0 0) 0 [] rfl ⟨rfl, .inl ⟨rfl, rfl⟩⟩ (.slice (Option.map (fun x => x.add p) ao) (t - p) (cap - p)) rfl ((bs.drop p).take m) (by rw [List.map_take]; have := (sub_src2 HS2.out HN.out (by omega) hcp).taken (m := t - p) (by rw [List.length_map, HDL2.out]; omega); rw [show m = t - p by have := HTE.out; omega]; exact this) (by rw [List.length_take, HDL2.out]; omega) ?_ ?_)
      · exact HB2.out.size
      intro v3 w3 ho3 hg3
      have hro : w3.ownsRow w.heap.size 5 1 v3 ((bs.drop p).take m).length (((bs.drop p).take m).map bV) := by simpa using ho3
      have HRO := Lib.hid hro
      have HO3 : Hid (Src w3 v3 (((bs.drop p).take m).map bV)) := Src.of_row hro
      clear hro
      have HB3 := Lib.hid (bw_grown HB2.out hg3 (fun k e => by cases e))
      clear ho3 hg3
      have H3 := Lib.hid (H.out.below HB3.out)
      have e1 : w3.cell? ⟨s, 1, none⟩ = some (.int .i64 (p : Int)) := cell_of H3.out.blk rfl
      have f1 : w3.frozen? ⟨s, 1, none⟩ = false := unfrozen_of H3.out.blk
      have hpm0 : (p : Int) + (m : Int) ≤ 140737488351232 := by have := HTE.out; omega
      obtain ⟨vo, vn, vc, rfl⟩ := HO3.out.len
      go_wp2
      go_ret
      have hpm : (p : Int) + (m : Int) = ((p + m : Nat) : Int) := by omega
      rw [hpm]
      have hms : Moves (fun b => b = s) w3 (w3.setCell ⟨s, 1, none⟩ (.int .i64 ((p + m : Nat) : Int))) := Moves.setCell (F := fun b => b = s) (Moves.refl _ _) (fun _ => rfl) _
      refine ⟨_, rfl, (Moves.of_below HB3.out _).trans hms (fun _ _ e => e), .inl ⟨HOK.out, m, rfl, H3.out.turn hms (heap_set H3.out.blk _) (by rw [HN.out, ← HTE.out]; exact htn), ?_⟩⟩
      have hlm : ((bs.drop p).take m).length = m := by rw [List.length_take, HDL2.out]; have := HTE.out; omega
      have hr := HRO.out
      rw [hlm] at hr
      refine row_keep hr (fun a n' k e => ?_)
      have h8 := row_base' hr a n' k e
      have h9 := lt_of_heap H.out.blk
      exact Below.heap_setCell _ _ _ _ (by intro e2; rw [e2] at h8; exact absurd h9 (Nat.not_lt.2 h8))
  · have HNO := Lib.hid hok
    have hcase : ¬ (0 ≤ n1 ∧ n1 ≤ ((n - p : Nat) : Int)) := by have := HNO.out; unfold BytesOk at this; rw [HDL2.out] at this; exact this
    clear hok
    by_cases ha : 0 ≤ n1
    · have hgt : (n : Int) - (p : Int) < n1 := by omega
      have hd1 : decide (n1 < 0) = false := decide_eq_false (by omega)
      have hd2 : decide ((n : Int) - (p : Int) < n1) = true := decide_eq_true hgt
      have hd4 : decide (n1 ≤ (n : Int) - (p : Int)) = false := decide_eq_false (by omega)
      clear hcase
      go_enter Try.func34, Try.ntmps34
      go_wp2
      go_quiet (fail)
      go_wp2
      go_ret
      exact ⟨_, rfl, Moves.setCell (F := fun b => b = s) (moves_drewN (Moves.refl _ _) _) (fun _ => rfl) _, .inr ⟨HNO.out, rfl, H.out.turn (Moves.setCell (F := fun b => b = s) (moves_drewN (Moves.refl _ _) _) (fun _ => rfl) _) (heap_set (w := w.drewN _) H.out.blk _) H.out.le⟩⟩
    · have hd1 : decide (n1 < 0) = true := decide_eq_true (by omega)
      clear hcase
      go_enter Try.func34, Try.ntmps34
      go_wp2
      go_quiet (fail)
      go_wp2
      go_ret
      exact ⟨_, rfl, Moves.setCell (F := fun b => b = s) (moves_drewN (Moves.refl _ _) _) (fun _ => rfl) _, .inr ⟨HNO.out, rfl, H.out.turn (Moves.setCell (F := fun b => b = s) (moves_drewN (Moves.refl _ _) _) (fun _ => rfl) _) (heap_set (w := w.drewN _) H.out.blk _) H.out.le⟩⟩

def RefEnd (w : World) (s : Nat) (v : Value) (bs : List UInt8) (p : Nat) (e : Int) (en : Ending) (w' : World) : Prop :=
  en = .returned (.int .i64 (if e = 0 ∧ p < bs.length then 20 else e)) ∧ Moves (fun b => b = s) w w' ∧ Rf w' s v bs p (if e = 0 ∧ p < bs.length then 20 else e)

end Go.Proofs.Ytaaeaaahllicbaa
