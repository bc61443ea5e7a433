/- FrameBursts: the walk. -/
import Derived.Test.YtaaeaaahllicbaaFrmU
namespace Go.Proofs.Ytaaeaaahllicbaa
open Go.RowKit Go.Maps Crc

theorem turn_set {zs : List UInt8} {j : Nat} (hj : j / 8 < zs.length) : turnL zs j = zs.set (j / 8) (UInt8.ofNat ((zs[j / 8]).toNat ^^^ 2 ^ (j % 8))) := by
  unfold turnL
  apply List.ext_getElem?
  intro i
  rw [List.getElem?_modify, List.getElem?_set]
  by_cases h : j / 8 = i
  · subst h
    simp only [if_pos rfl, if_true]
    rw [if_pos hj, List.getElem?_eq_getElem hj]; rfl
  · rw [if_neg h]
    simp only [if_neg h]
    cases zs[i]? <;> rfl
theorem row_turnB {w : World} {base n : Nat} {xo : Option Addr} {xc : Nat} {zs : List UInt8} (h : w.ownsRow base 5 1 (.slice xo n xc) n (zs.map bV)) {j q r : Nat} (hj : j < 8 * n) (hq : q = j / 8) (hr : r = j % 8) :
    ∃ g c y : Nat, xo = some ⟨g, 0, none⟩ ∧ base ≤ g ∧ c < 256 ∧ y < 256 ∧ y = c ^^^ 2 ^ r ∧ w.cell? ⟨g, q, none⟩ = some (.int .u8 (c : Int)) ∧ w.frozen? ⟨g, q, none⟩ = false ∧ (w.setCell ⟨g, q, none⟩ (.int .u8 (y : Int))).ownsRow base 5 1 (.slice xo n xc) n ((turnL zs j).map bV) := by
  have hl : zs.length = n := by have := h.1; simpa using this
  have hqn : j / 8 < zs.length := by omega
  have hc256 : (zs[j / 8]).toNat < 256 := UInt8.toNat_lt _
  have h2 : 2 ^ (j % 8) < 2 ^ 8 := Nat.pow_lt_pow_right (by decide) (Nat.mod_lt _ (by decide))
  have hy : (zs[j / 8]).toNat ^^^ 2 ^ (j % 8) < 256 := Nat.xor_lt_two_pow (n := 8) hc256 h2
  obtain ⟨g, e, hb, _, hf, hrow⟩ := row_set_cell h (i := j / 8) (by omega) (((zs[j / 8]).toNat ^^^ 2 ^ (j % 8) : Nat) : Int) (by omega) (by omega)
  obtain ⟨b', o', e', hc⟩ := (Src.of_row h).get (i := j / 8) (u := bV zs[j / 8]) (by rw [List.getElem?_map, List.getElem?_eq_getElem hqn]; rfl)
  rw [e] at e'
  cases e'
  rw [Nat.zero_add] at hc
  subst hq; subst hr
  refine ⟨g, _, _, e, hb, hc256, hy, rfl, hc, hf, ?_⟩
  rw [turn_set hqn]
  rw [show ((((zs[j / 8]).toNat ^^^ 2 ^ (j % 8) : Nat) : Int).toNat) = (zs[j / 8]).toNat ^^^ 2 ^ (j % 8) by omega] at hrow
  exact hrow
theorem xor_pow {c r y : Nat} (hc : c < 256) (hr : r < 8) (hy : y = c ^^^ 2 ^ r) : bits .xor .u8 (c : Int) (2 ^ r % 256) = (y : Int) := by
  have h2 : 2 ^ r < 2 ^ 8 := Nat.pow_lt_pow_right (by decide) hr
  have h1 : (2 : Int) ^ r = ((2 ^ r : Nat) : Int) := by push_cast; rfl
  have h3 : 2 ^ r < 256 := h2
  rw [h1, hy]
  generalize 2 ^ r = p at h3 ⊢
  rw [show (p : Int) % 256 = (p : Int) by omega, u8_xor_nat _ _ hc (by omega)]
theorem tmod_bd (a : Int) {b : Int} (hb : 0 < b) : -b < a.tmod b ∧ a.tmod b < b := by
  rcases Int.le_total 0 a with h | h
  · rw [Int.tmod_eq_emod_of_nonneg h]
    have := Int.emod_nonneg a (show b ≠ 0 by omega); have := Int.emod_lt_of_pos a hb; omega
  · have e : a = -(-a) := by omega
    rw [e, Int.neg_tmod, Int.tmod_eq_emod_of_nonneg (show 0 ≤ -a by omega)]
    have := Int.emod_nonneg (-a) (show b ≠ 0 by omega); have := Int.emod_lt_of_pos (-a) hb; omega
/-- was a bit of the burst set? -/
def hitB (burst k : Nat) : Bool := (List.range k).any fun j => burst / 2 ^ j % 2 == 1
theorem hitB_succ (burst k : Nat) : hitB burst (k + 1) = (hitB burst k || (burst / 2 ^ k % 2 == 1)) := by
  unfold hitB; rw [List.range_succ, List.any_append]; simp
theorem hitB_yes {burst k : Nat} (h : hitB burst k = true) : ∃ j, j < k ∧ burst / 2 ^ j % 2 = 1 := by
  unfold hitB at h
  obtain ⟨j, hj, hb⟩ := List.any_eq_true.1 h
  exact ⟨j, List.mem_range.1 hj, by simpa using hb⟩
theorem hit_bad {kind : UInt8} {ss : List (List UInt8)} {b : List UInt8} (hs : sealP kind ss = some b) {a burst k : Nat} (ha : a + k ≤ 8 * b.length) (hk : k ≤ 32) (hh : hitB burst k = true) (kind' : UInt8) : openP kind' (hitL b a burst k) = none := by
  obtain ⟨j, hj, hb⟩ := hitB_yes hh
  refine open_bad fun hc => ?_
  have h1 : checkedP kind b := by rw [(seal_len hs).2]; exact seal_checked kind ss
  exact burst_seen ha hk hj hb (checked_resid h1) (checked_resid hc)

set_option maxHeartbeats 8000000 in
set_option maxRecDepth 100000 in
theorem frameBursts_any {w : World} {kind : UInt8} {v1 : Value} {ss : List (List UInt8)} (h1 : SrcRows w v1 ss) (hl : ∀ s ∈ ss, (s.length : Int) ≤ 140737488351232) (hn : (ss.length : Int) ≤ 9223372036854775807) (at' : Int) (hat : -9223372036854775808 ≤ at' ∧ at' ≤ 9223372036854775807) (burst : Nat) (hbu : burst < 4294967296) : Calls Try.prog 7 #[bV kind, v1, .int .i64 at', .int .u32 (burst : Int)] w (TruePost w) := by
  obtain ⟨a1, c1, rfl⟩ := h1.len
  obtain ⟨n, hnn⟩ : ∃ n, ss.length = n := ⟨_, rfl⟩
  rw [hnn] at h1 hn ⊢
  obtain ⟨kv, hkv⟩ : ∃ kv, kv = bV kind := ⟨_, rfl⟩
  rw [← hkv]
  have H1 := Lib.hid h1; have HL := Lib.hid hl; have HN := Lib.hid hnn; have HKV := Lib.hid hkv
  have HAT := Lib.hid hat
  have HBU := Lib.hid hbu
  have hbu0 : 0 ≤ (burst : Int) := by omega
  have hbu2 : (burst : Int) < 4294967296 := by omega
  clear h1 hl hnn hkv hat hbu
  go_enter Try.func7, Try.ntmps7
  go_wp2
  go_loopg [9, 10] n (fun g s7 s8 wx => ∃ (i z : Nat), i + g = n ∧ s8 = .int .i64 i ∧ s7 = .int .i64 (z : Int) ∧ z ≤ 140737488451232 ∧ z = sizeU ss i ∧ w = wx)
  case atStart => exact ⟨0, 0, by omega, rfl, rfl, by omega, rfl, rfl⟩
  case round =>
    obtain ⟨i, z, hig, rfl, rfl, hzb, hz, rfl⟩ := hrel
    have HIG := Lib.hid hig
    have HZ := Lib.hid hz
    clear hz
    have hz0 : 0 ≤ (z : Int) := by omega
    have HSEAL := Lib.hid (seal_any (kind := kind) H1.out HL.out (by have := HN.out; omega))
    rw [← HKV.out] at HSEAL
    by_cases hend : 100000 ≤ z
    · have hd1 : decide ((z : Int) < 100000) = false := decide_eq_false (by omega)
      have hd2 : decide ((100000 : Int) ≤ (z : Int)) = true := decide_eq_true (by omega)
      have hd3 : decide (z < 100000) = false := decide_eq_false (by omega)
      have hd4 : decide (100000 ≤ z) = true := decide_eq_true hend
      have hdd : decide (i < n) = true ∨ decide (i < n) = false := by cases decide (i < n) <;> simp
      clear hig hend
      rcases hdd with hd5 | hd5
      all_goals
        go_wp2_with fail
        refine HSEAL.out.mono ?_
        rintro e w2 ⟨vb, er, rfl, hb2, _⟩
        have HW2 := Lib.hid hb2
        clear hb2
        go_wp2_with fail
        refine (awake_any _).mono ?_
        rintro e w3 ⟨rfl, hb3⟩
        have HW3 : Hid (BW w w3) := HW2.out.trans hb3
        clear hb3
        go_wp2
        go_ret
        exact ⟨rfl, HW3.out⟩
    have hd1 : decide ((z : Int) < 100000) = true := decide_eq_true (by omega)
    have hd2 : decide ((100000 : Int) ≤ (z : Int)) = false := decide_eq_false (by omega)
    have hd3 : decide (z < 100000) = true := decide_eq_true (by omega)
    have hd4 : decide (100000 ≤ z) = false := decide_eq_false hend
    cases gk with
    | succ g =>
      have hi : (i : Int) < (n : Int) := by omega
      have hd5 : decide (i < n) = true := decide_eq_true (by omega)
      have hi0 : (0 : Int) ≤ (i : Int) := by omega
      have hil : i < ss.length := by have := HN.out; omega
      obtain ⟨x, hx⟩ : ∃ x, x = ss[i] := ⟨_, rfl⟩
      obtain ⟨b0, off, xo, xc, rfl, hc0, hcl⟩ := H1.out.get (i := i) (s := x) (by rw [hx]; exact List.getElem?_eq_getElem hil)
      clear hcl
      have HSN := Lib.hid (sizeU_next hil)
      rw [← hx] at HSN
      obtain ⟨sl, hsl⟩ : ∃ sl, sl = x.length := ⟨_, rfl⟩
      have hslb : (sl : Int) ≤ 140737488351232 := by rw [hsl, hx]; exact HL.out _ (List.getElem_mem _)
      have hsl0 : 0 ≤ (sl : Int) := by omega
      have hsum : (z : Int) + (sl : Int) ≤ 140737488451232 := by omega
      rw [← hsl] at hc0 HSN
      clear hx hsl hil hig hend HSEAL
      go_wp2
      go_roundg g
      case measure => omega
      case rel => exact ⟨i + 1, z + sl, by have := HIG.out; omega, by first | rfl | simp, by first | rfl | simp, by omega, by rw [HSN.out, HZ.out], rfl⟩
    | zero =>
      have hge : (n : Int) ≤ (i : Int) := by omega
      have hd5 : decide (i < n) = false := decide_eq_false (by omega)
      have hd5' : decide ((i : Int) < (n : Int)) = false := decide_eq_false (by omega)
      clear hig hend HZ
      go_wp2_with fail
      refine HSEAL.out.mono ?_
      rintro e w2 ⟨vb, er, rfl, hb2, ⟨b, hs, rfl, ho⟩ | ⟨hs, rfl, rfl⟩⟩
      case inr =>
        have HW2 := Lib.hid hb2
        clear hb2 hs
        go_wp2_with fail
        refine (awake_any _).mono ?_
        rintro e w3 ⟨rfl, hb3⟩
        have HW3 : Hid (BW w w3) := HW2.out.trans hb3
        clear hb3
        go_wp2
        go_ret
        exact ⟨rfl, HW3.out⟩
      have HW2 := Lib.hid hb2
      have HS := Lib.hid hs
      have hbl := (seal_len hs).1
      have hbp : 1 ≤ b.length := by
        have h3 := sealF_len kind ss
        rw [← (seal_len hs).2] at h3; omega
      obtain ⟨L, hL⟩ : ∃ L, L = b.length := ⟨_, rfl⟩
      rw [← hL] at hbl hbp ho
      have HLB := Lib.hid hL
      have HO2 := Lib.hid ho
      clear hb2 hs ho hL
      obtain ⟨bo, bn, bc, rfl⟩ := row_form HO2.out
      obtain rfl : bn = L := row_len HO2.out rfl
      by_cases hz0 : burst = 0
      · have hq : ((burst : Int) == 0) = true := by simp; omega
        clear hz0
        go_wp2_with fail
        refine (awake_any _).mono ?_
        rintro e w3 ⟨rfl, hb3⟩
        have HW3 : Hid (BW w w3) := HW2.out.trans hb3
        clear hb3
        go_wp2
        go_ret
        exact ⟨rfl, HW3.out⟩
      have hq : ((burst : Int) == 0) = false := by simp; omega
      clear hz0
      go_wp2_with fail
      refine (awake_any _).mono ?_
      rintro e w3 ⟨rfl, hb3⟩
      have HW3 : Hid (BW w w3) := HW2.out.trans hb3
      have HO3 : Hid (Src w3 (.slice bo bn bc) (b.map bV)) := (Src.of_row HO2.out).below hb3
      clear hb3
      obtain ⟨Bn, hBn⟩ : ∃ Bn, Bn = 8 * bn := ⟨_, rfl⟩
      have h8 : 8 * (bn : Int) = (Bn : Int) := by omega
      have hBp : 0 < (Bn : Int) := by omega
      have hBb : (Bn : Int) ≤ 134217728 := by omega
      obtain ⟨d, hd⟩ : ∃ d, at'.tmod (Bn : Int) = d := ⟨_, rfl⟩
      have htb := tmod_bd at' hBp
      rw [hd] at htb
      obtain ⟨hdl, hdh⟩ := htb
      have hwd : IntKind.i64.wrap d = d := IntWalk.i64_in _ (by omega)
      have HBN := Lib.hid hBn
      have hB0 : ((Bn : Int) == 0) = false := by simp; omega
      obtain ⟨f, hf, hfB⟩ : ∃ f : Nat, (f : Int) = (if d < 0 then d + (Bn : Int) else d) ∧ f < Bn := by
        by_cases hneg : d < 0
        · exact ⟨(d + (Bn : Int)).toNat, by rw [if_pos hneg]; omega, by omega⟩
        · exact ⟨d.toNat, by rw [if_neg hneg]; omega, by omega⟩
      have HF := Lib.hid hf
      clear hf hBn hzb
      by_cases hneg : d < 0
      · have hdn : decide (d < 0) = true := decide_eq_true hneg
        have hfd : d + (Bn : Int) = (f : Int) := by have := HF.out; rw [if_pos hneg] at this; omega
        clear hneg
        go_upto_region 14 with (fail)
        clear hd hfd hdn hwd hdl hdh h8 HF
        go_wp2_with (at_builtin; refine append_bytes rfl (.tmp 69) (.tmp 70) rfl w3.heap.size (.slice none 0 0) 0 [] rfl (World.ownsRow_nil _ _ _ _) _ rfl b HO3.out ?_ ?_ ?_)
        · have := HLB.out; simp; omega
        · exact Nat.le_refl _
        intro v5 w5 ho5 hg5
        have HO5 : Hid (w5.ownsRow w3.heap.size 5 1 v5 bn (b.map bV)) := by
          unfold Hid
          have h3 := ho5
          rw [← HLB.out] at h3; exact h3
        have HB35 : Hid (BW w3 w5) := bw_grown (BW.refl w3) hg5 (fun k e => by cases e)
        clear ho5 hg5
        obtain ⟨xo, xn, xc, rfl⟩ := row_form HO5.out
        obtain rfl : xn = bn := row_len HO5.out rfl
        obtain ⟨K, hK⟩ : ∃ K, K = min 32 (Bn - f) := ⟨_, rfl⟩
        have hK32 : K ≤ 32 := by omega
        have hKf : f + K ≤ Bn := by omega
        have HK := Lib.hid hK
        clear hK
        go_wp2
        go_loopg [16, 17] K (fun g s16 s17 wx => ∃ k : Nat, k + g = K ∧ s17 = .int .i64 k ∧ s16 = .bool (hitB burst k) ∧ wx.ownsRow w3.heap.size 5 1 (.slice xo xn xc) xn ((hitL b f burst k).map bV) ∧ BW w3 wx)
        case atStart => exact ⟨0, by omega, rfl, rfl, HO5.out, HB35.out⟩
        case round =>
          obtain ⟨k, hkg, rfl, rfl, hrow, hbx⟩ := hrel
          have HKG := Lib.hid hkg
          have HROW := Lib.hid hrow
          have HBX := Lib.hid hbx
          clear hrow hbx
          have hk0 : (0 : Int) ≤ (k : Int) := by omega
          cases gk with
          | zero =>
            have hcond : (decide (k < 32) = false ∧ decide ((k : Int) < 32) = false) ∨ ((decide (k < 32) = true ∧ decide ((k : Int) < 32) = true) ∧ decide ((f : Int) + (k : Int) < (Bn : Int)) = false ∧ decide (f + k < Bn) = false) := by
              have hK := HK.out
              by_cases h32 : k < 32
              · exact .inr ⟨⟨decide_eq_true h32, decide_eq_true (by omega)⟩, decide_eq_false (by omega), decide_eq_false (by omega)⟩
              · exact .inl ⟨decide_eq_false h32, decide_eq_false (by omega)⟩
            obtain ⟨hh, hhh⟩ : ∃ hh, hh = hitB burst k := ⟨_, rfl⟩
            rw [← hhh]
            have HHH := Lib.hid hhh
            have hkb : f + k ≤ 8 * b.length := by have := HBN.out; have := HLB.out; omega
            have HBAD : Hid (hh = true → ∀ kind', openP kind' (hitL b f burst k) = none) := fun e kind' => hit_bad HS.out hkb (by omega) (by rw [← hhh]; exact e) kind'
            have HLEN : Hid ((hitL b f burst k).length = xn) := by unfold Hid; rw [hitL_len]; exact HLB.out.symm
            have hkf : (f : Int) + (k : Int) ≤ 134217728 := by omega
            clear hhh hkb hkg
            cases hh with
            | false =>
              rcases hcond with ⟨g1, g2⟩ | ⟨⟨g1, g2⟩, g3, g4⟩
              all_goals
                go_wp2
                go_ret
                exact ⟨rfl, HW3.out.trans HBX.out⟩
            | true =>
              have HNO := Lib.hid (HBAD.out rfl)
              have HKIND := Lib.hid (kind_any (Src.of_row HROW.out) (by have := HLEN.out; omega))
              clear HBAD
              rcases hcond with ⟨g1, g2⟩ | ⟨⟨g1, g2⟩, g3, g4⟩
              all_goals
                go_wp2_with fail
                refine HKIND.out.mono ?_
                rintro e w6 ⟨hb6, ⟨x, hx, rfl⟩ | ⟨hx, rfl⟩⟩
                · have HW6 : Hid (BW w w6) := (HW3.out.trans HBX.out).trans hb6
                  have HSRC6 : Hid (Src w6 (.slice xo xn xc) ((hitL b f burst k).map bV)) := (Src.of_row HROW.out).below hb6
                  have HBY := Lib.hid (bad_yes (kind := kind) HSRC6.out (by have := HLEN.out; omega) (HNO.out kind))
                  rw [← HKV.out] at HBY
                  obtain ⟨xv, hxv⟩ : ∃ xv, xv = bV x := ⟨_, rfl⟩
                  rw [← hxv]
                  have HXV := Lib.hid hxv
                  clear hb6 hx hxv
                  go_wp2_with fail
                  refine HBY.out.mono ?_
                  rintro e w7 ⟨rfl, hb7⟩
                  have HW7 : Hid (BW w w7) := HW6.out.trans hb7
                  have HBY2 := Lib.hid (bad_yes (kind := x) (HSRC6.out.below hb7) (by have := HLEN.out; omega) (HNO.out x))
                  rw [← HXV.out] at HBY2
                  clear hb7
                  go_wp2_with fail
                  refine HBY2.out.mono ?_
                  rintro e w8 ⟨rfl, hb8⟩
                  have HW8 : Hid (BW w w8) := HW7.out.trans hb8
                  clear hb8
                  go_wp2
                  go_ret
                  exact ⟨rfl, HW8.out⟩
                · have HW6 : Hid (BW w w6) := (HW3.out.trans HBX.out).trans hb6
                  have HSRC6 : Hid (Src w6 (.slice xo xn xc) ((hitL b f burst k).map bV)) := (Src.of_row HROW.out).below hb6
                  have HBY := Lib.hid (bad_yes (kind := kind) HSRC6.out (by have := HLEN.out; omega) (HNO.out kind))
                  rw [← HKV.out] at HBY
                  clear hb6 hx
                  go_wp2_with fail
                  refine HBY.out.mono ?_
                  rintro e w7 ⟨rfl, hb7⟩
                  have HW7 : Hid (BW w w7) := HW6.out.trans hb7
                  clear hb7
                  go_wp2
                  go_ret
                  exact ⟨rfl, HW7.out⟩
          | succ g =>
            have hk : (k : Int) < 32 := by omega
            have hd32 : decide (k < 32) = true := decide_eq_true (by omega)
            have hd32' : decide ((k : Int) < 32) = true := decide_eq_true (by omega)
            have hdB : decide ((f : Int) + (k : Int) < (Bn : Int)) = true := decide_eq_true (by omega)
            have hdB' : decide (f + k < Bn) = true := decide_eq_true (by omega)
            have hkf : (f : Int) + (k : Int) ≤ 134217728 := by omega
            have hwk : IntKind.u64.wrap (k : Int) = (k : Int) := by rw [IntKind.wrap_u64]; omega
            obtain ⟨zz, hz⟩ : ∃ zz, zz = burst / 2 ^ k := ⟨_, rfl⟩
            have hzi : (burst : Int) / 2 ^ k = (zz : Int) := by rw [hz]; push_cast; rfl
            have hz32 : (zz : Int) < 4294967296 := by
              have h3 : zz < 4294967296 := by rw [hz]; exact Nat.lt_of_le_of_lt (Nat.div_le_self _ _) HBU.out
              omega
            have hz00 : 0 ≤ (zz : Int) := by omega
            have hand := and_one (x := zz) (by omega)
            obtain ⟨p, hp⟩ : ∃ p, p = zz % 2 := ⟨_, rfl⟩
            rw [← hp] at hand
            have HP : Hid (p = burst / 2 ^ k % 2) := by unfold Hid; rw [hp, hz]
            have hp2 : p < 2 := by omega
            by_cases hp1 : p = 1
            · have hpe : ((p : Int) == 1) = true := by simp [hp1]
              have HHB : Hid (hitB burst (k + 1) = true) := by
                unfold Hid
                rw [hitB_succ, ← HP.out, hp1]; simp
              have HHL : Hid (hitL b f burst (k + 1) = turnL (hitL b f burst k) (f + k)) := by
                unfold Hid
                rw [hitL, ← HP.out, if_pos hp1]
              obtain ⟨j, hj⟩ : ∃ j, j = f + k := ⟨_, rfl⟩
              obtain ⟨q, hq'⟩ : ∃ q, q = j / 8 := ⟨_, rfl⟩
              obtain ⟨r, hr'⟩ : ∃ r, r = j % 8 := ⟨_, rfl⟩
              obtain ⟨gb, c, y, hxo, hgb, hc256, hy256, hy, hcell, hfr, hrow2⟩ := row_turnB HROW.out (j := j) (q := q) (r := r) (by have := HBN.out; omega) hq' hr'
              cases hxo
              have hxor := xor_pow hc256 (by omega : r < 8) hy
              have hji : (f : Int) + (k : Int) = (j : Int) := by omega
              have hj0 : 0 ≤ (j : Int) := by omega
              have hjb : (j : Int) ≤ 134217728 := by omega
              have hq1 : (j : Int) / 8 = (q : Int) := by omega
              have hr1 : (j : Int) % 8 = (r : Int) := by omega
              have hjm : (j : Int).tmod 8 = (r : Int) := by rw [Int.tmod_eq_emod_of_nonneg hj0]; exact hr1
              have hr0 : 0 ≤ (r : Int) := by omega
              have hr8 : (r : Int) < 8 := by omega
              have hq0 : 0 ≤ (q : Int) := by omega
              have hqn : (q : Int) < (xn : Int) := by have := HBN.out; omega
              have hwq : IntKind.i64.wrap (q : Int) = (q : Int) := IntWalk.i64_in _ (by omega)
              have hwr : IntKind.i64.wrap (r : Int) = (r : Int) := IntWalk.i64_in _ (by omega)
              have hwr2 : IntKind.u64.wrap (r : Int) = (r : Int) := by rw [IntKind.wrap_u64]; omega
              have HROW2 : Hid ((wr.setCell ⟨gb, q, none⟩ (.int .u8 (y : Int))).ownsRow w3.heap.size 5 1 (.slice (some ⟨gb, 0, none⟩) xn xc) xn ((hitL b f burst (k + 1)).map bV)) := by
                unfold Hid; rw [HHL.out, ← hj]; exact hrow2
              have HBX2 : Hid (BW w3 (wr.setCell ⟨gb, q, none⟩ (.int .u8 (y : Int)))) := (HBX.out).setCell hgb _
              have hdJ : decide ((j : Int) < (Bn : Int)) = true := decide_eq_true (by omega)
              have hdJ' : decide (j < Bn) = true := decide_eq_true (by omega)
              clear hz hp hp1 hj hq' hr' hrow2 hgb hy hc256 hy256 hkg hKf hK32 hdB hdB' hp2 hfB hbl hbp hkf
              go_wp2
              go_roundg g
              case measure => omega
              case rel => exact ⟨k + 1, by have := HKG.out; omega, by first | rfl | simp, by rw [HHB.out], HROW2.out, HBX2.out⟩
            · have hpe : ((p : Int) == 1) = false := by simp; omega
              have HHB : Hid (hitB burst (k + 1) = hitB burst k) := by
                unfold Hid
                rw [hitB_succ, ← HP.out, show (p == 1) = false by simpa using hp1]; simp
              have HHL : Hid (hitL b f burst (k + 1) = hitL b f burst k) := by
                unfold Hid
                rw [hitL, ← HP.out, if_neg hp1]
              clear hz hp hp1 hkg hKf hK32
              go_wp2
              go_roundg g
              case measure => omega
              case rel => exact ⟨k + 1, by have := HKG.out; omega, by first | rfl | simp, by rw [HHB.out], by rw [HHL.out]; exact HROW.out, HBX.out⟩
      · have hdn : decide (d < 0) = false := decide_eq_false hneg
        obtain rfl : d = (f : Int) := by have := HF.out; rw [if_neg hneg] at this; omega
        clear hneg
        go_upto_region 14 with (fail)
        clear hd hdn hwd hdl hdh h8 HF
        go_wp2_with (at_builtin; refine append_bytes rfl (.tmp 69) (.tmp 70) rfl w3.heap.size (.slice none 0 0) 0 [] rfl (World.ownsRow_nil _ _ _ _) _ rfl b HO3.out ?_ ?_ ?_)
        · have := HLB.out; simp; omega
        · exact Nat.le_refl _
        intro v5 w5 ho5 hg5
        have HO5 : Hid (w5.ownsRow w3.heap.size 5 1 v5 bn (b.map bV)) := by
          unfold Hid
          have h3 := ho5
          rw [← HLB.out] at h3; exact h3
        have HB35 : Hid (BW w3 w5) := bw_grown (BW.refl w3) hg5 (fun k e => by cases e)
        clear ho5 hg5
        obtain ⟨xo, xn, xc, rfl⟩ := row_form HO5.out
        obtain rfl : xn = bn := row_len HO5.out rfl
        obtain ⟨K, hK⟩ : ∃ K, K = min 32 (Bn - f) := ⟨_, rfl⟩
        have hK32 : K ≤ 32 := by omega
        have hKf : f + K ≤ Bn := by omega
        have HK := Lib.hid hK
        clear hK
        go_wp2
        go_loopg [16, 17] K (fun g s16 s17 wx => ∃ k : Nat, k + g = K ∧ s17 = .int .i64 k ∧ s16 = .bool (hitB burst k) ∧ wx.ownsRow w3.heap.size 5 1 (.slice xo xn xc) xn ((hitL b f burst k).map bV) ∧ BW w3 wx)
        case atStart => exact ⟨0, by omega, rfl, rfl, HO5.out, HB35.out⟩
        case round =>
          obtain ⟨k, hkg, rfl, rfl, hrow, hbx⟩ := hrel
          have HKG := Lib.hid hkg
          have HROW := Lib.hid hrow
          have HBX := Lib.hid hbx
          clear hrow hbx
          have hk0 : (0 : Int) ≤ (k : Int) := by omega
          cases gk with
          | zero =>
            have hcond : (decide (k < 32) = false ∧ decide ((k : Int) < 32) = false) ∨ ((decide (k < 32) = true ∧ decide ((k : Int) < 32) = true) ∧ decide ((f : Int) + (k : Int) < (Bn : Int)) = false ∧ decide (f + k < Bn) = false) := by
              have hK := HK.out
              by_cases h32 : k < 32
              · exact .inr ⟨⟨decide_eq_true h32, decide_eq_true (by omega)⟩, decide_eq_false (by omega), decide_eq_false (by omega)⟩
              · exact .inl ⟨decide_eq_false h32, decide_eq_false (by omega)⟩
            obtain ⟨hh, hhh⟩ : ∃ hh, hh = hitB burst k := ⟨_, rfl⟩
            rw [← hhh]
            have HHH := Lib.hid hhh
            have hkb : f + k ≤ 8 * b.length := by have := HBN.out; have := HLB.out; omega
            have HBAD : Hid (hh = true → ∀ kind', openP kind' (hitL b f burst k) = none) := fun e kind' => hit_bad HS.out hkb (by omega) (by rw [← hhh]; exact e) kind'
            have HLEN : Hid ((hitL b f burst k).length = xn) := by unfold Hid; rw [hitL_len]; exact HLB.out.symm
            have hkf : (f : Int) + (k : Int) ≤ 134217728 := by omega
            clear hhh hkb hkg
            cases hh with
            | false =>
              rcases hcond with ⟨g1, g2⟩ | ⟨⟨g1, g2⟩, g3, g4⟩
              all_goals
                go_wp2
                go_ret
                exact ⟨rfl, HW3.out.trans HBX.out⟩
            | true =>
              have HNO := Lib.hid (HBAD.out rfl)
              have HKIND := Lib.hid (kind_any (Src.of_row HROW.out) (by have := HLEN.out; omega))
              clear HBAD
              rcases hcond with ⟨g1, g2⟩ | ⟨⟨g1, g2⟩, g3, g4⟩
              all_goals
                go_wp2_with fail
                refine HKIND.out.mono ?_
                rintro e w6 ⟨hb6, ⟨x, hx, rfl⟩ | ⟨hx, rfl⟩⟩
                · have HW6 : Hid (BW w w6) := (HW3.out.trans HBX.out).trans hb6
                  have HSRC6 : Hid (Src w6 (.slice xo xn xc) ((hitL b f burst k).map bV)) := (Src.of_row HROW.out).below hb6
                  have HBY := Lib.hid (bad_yes (kind := kind) HSRC6.out (by have := HLEN.out; omega) (HNO.out kind))
                  rw [← HKV.out] at HBY
                  obtain ⟨xv, hxv⟩ : ∃ xv, xv = bV x := ⟨_, rfl⟩
                  rw [← hxv]
                  have HXV := Lib.hid hxv
                  clear hb6 hx hxv
                  go_wp2_with fail
                  refine HBY.out.mono ?_
                  rintro e w7 ⟨rfl, hb7⟩
                  have HW7 : Hid (BW w w7) := HW6.out.trans hb7
                  have HBY2 := Lib.hid (bad_yes (kind := x) (HSRC6.out.below hb7) (by have := HLEN.out; omega) (HNO.out x))
                  rw [← HXV.out] at HBY2
                  clear hb7
                  go_wp2_with fail
                  refine HBY2.out.mono ?_
                  rintro e w8 ⟨rfl, hb8⟩
                  have HW8 : Hid (BW w w8) := HW7.out.trans hb8
                  clear hb8
                  go_wp2
                  go_ret
                  exact ⟨rfl, HW8.out⟩
                · have HW6 : Hid (BW w w6) := (HW3.out.trans HBX.out).trans hb6
                  have HSRC6 : Hid (Src w6 (.slice xo xn xc) ((hitL b f burst k).map bV)) := (Src.of_row HROW.out).below hb6
                  have HBY := Lib.hid (bad_yes (kind := kind) HSRC6.out (by have := HLEN.out; omega) (HNO.out kind))
                  rw [← HKV.out] at HBY
                  clear hb6 hx
                  go_wp2_with fail
                  refine HBY.out.mono ?_
                  rintro e w7 ⟨rfl, hb7⟩
                  have HW7 : Hid (BW w w7) := HW6.out.trans hb7
                  clear hb7
                  go_wp2
                  go_ret
                  exact ⟨rfl, HW7.out⟩
          | succ g =>
            have hk : (k : Int) < 32 := by omega
            have hd32 : decide (k < 32) = true := decide_eq_true (by omega)
            have hd32' : decide ((k : Int) < 32) = true := decide_eq_true (by omega)
            have hdB : decide ((f : Int) + (k : Int) < (Bn : Int)) = true := decide_eq_true (by omega)
            have hdB' : decide (f + k < Bn) = true := decide_eq_true (by omega)
            have hkf : (f : Int) + (k : Int) ≤ 134217728 := by omega
            have hwk : IntKind.u64.wrap (k : Int) = (k : Int) := by rw [IntKind.wrap_u64]; omega
            obtain ⟨zz, hz⟩ : ∃ zz, zz = burst / 2 ^ k := ⟨_, rfl⟩
            have hzi : (burst : Int) / 2 ^ k = (zz : Int) := by rw [hz]; push_cast; rfl
            have hz32 : (zz : Int) < 4294967296 := by
              have h3 : zz < 4294967296 := by rw [hz]; exact Nat.lt_of_le_of_lt (Nat.div_le_self _ _) HBU.out
              omega
            have hz00 : 0 ≤ (zz : Int) := by omega
            have hand := and_one (x := zz) (by omega)
            obtain ⟨p, hp⟩ : ∃ p, p = zz % 2 := ⟨_, rfl⟩
            rw [← hp] at hand
            have HP : Hid (p = burst / 2 ^ k % 2) := by unfold Hid; rw [hp, hz]
            have hp2 : p < 2 := by omega
            by_cases hp1 : p = 1
            · have hpe : ((p : Int) == 1) = true := by simp [hp1]
              have HHB : Hid (hitB burst (k + 1) = true) := by
                unfold Hid
                rw [hitB_succ, ← HP.out, hp1]; simp
              have HHL : Hid (hitL b f burst (k + 1) = turnL (hitL b f burst k) (f + k)) := by
                unfold Hid
                rw [hitL, ← HP.out, if_pos hp1]
              obtain ⟨j, hj⟩ : ∃ j, j = f + k := ⟨_, rfl⟩
              obtain ⟨q, hq'⟩ : ∃ q, q = j / 8 := ⟨_, rfl⟩
              obtain ⟨r, hr'⟩ : ∃ r, r = j % 8 := ⟨_, rfl⟩
              obtain ⟨gb, c, y, hxo, hgb, hc256, hy256, hy, hcell, hfr, hrow2⟩ := row_turnB HROW.out (j := j) (q := q) (r := r) (by have := HBN.out; omega) hq' hr'
              cases hxo
              have hxor := xor_pow hc256 (by omega : r < 8) hy
              have hji : (f : Int) + (k : Int) = (j : Int) := by omega
              have hj0 : 0 ≤ (j : Int) := by omega
              have hjb : (j : Int) ≤ 134217728 := by omega
              have hq1 : (j : Int) / 8 = (q : Int) := by omega
              have hr1 : (j : Int) % 8 = (r : Int) := by omega
              have hjm : (j : Int).tmod 8 = (r : Int) := by rw [Int.tmod_eq_emod_of_nonneg hj0]; exact hr1
              have hr0 : 0 ≤ (r : Int) := by omega
              have hr8 : (r : Int) < 8 := by omega
              have hq0 : 0 ≤ (q : Int) := by omega
              have hqn : (q : Int) < (xn : Int) := by have := HBN.out; omega
              have hwq : IntKind.i64.wrap (q : Int) = (q : Int) := IntWalk.i64_in _ (by omega)
              have hwr : IntKind.i64.wrap (r : Int) = (r : Int) := IntWalk.i64_in _ (by omega)
              have hwr2 : IntKind.u64.wrap (r : Int) = (r : Int) := by rw [IntKind.wrap_u64]; omega
              have HROW2 : Hid ((wr.setCell ⟨gb, q, none⟩ (.int .u8 (y : Int))).ownsRow w3.heap.size 5 1 (.slice (some ⟨gb, 0, none⟩) xn xc) xn ((hitL b f burst (k + 1)).map bV)) := by
                unfold Hid; rw [HHL.out, ← hj]; exact hrow2
              have HBX2 : Hid (BW w3 (wr.setCell ⟨gb, q, none⟩ (.int .u8 (y : Int)))) := (HBX.out).setCell hgb _
              have hdJ : decide ((j : Int) < (Bn : Int)) = true := decide_eq_true (by omega)
              have hdJ' : decide (j < Bn) = true := decide_eq_true (by omega)
              clear hz hp hp1 hj hq' hr' hrow2 hgb hy hc256 hy256 hkg hKf hK32 hdB hdB' hp2 hfB hbl hbp hkf
              go_wp2
              go_roundg g
              case measure => omega
              case rel => exact ⟨k + 1, by have := HKG.out; omega, by first | rfl | simp, by rw [HHB.out], HROW2.out, HBX2.out⟩
            · have hpe : ((p : Int) == 1) = false := by simp; omega
              have HHB : Hid (hitB burst (k + 1) = hitB burst k) := by
                unfold Hid
                rw [hitB_succ, ← HP.out, show (p == 1) = false by simpa using hp1]; simp
              have HHL : Hid (hitL b f burst (k + 1) = hitL b f burst k) := by
                unfold Hid
                rw [hitL, ← HP.out, if_neg hp1]
              clear hz hp hp1 hkg hKf hK32
              go_wp2
              go_roundg g
              case measure => omega
              case rel => exact ⟨k + 1, by have := HKG.out; omega, by first | rfl | simp, by rw [HHB.out], by rw [HHL.out]; exact HROW.out, HBX.out⟩
end Go.Proofs.Ytaaeaaahllicbaa
