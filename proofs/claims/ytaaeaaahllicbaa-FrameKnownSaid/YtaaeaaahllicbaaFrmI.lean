/- The document's Open. -/
import Derived.Test.YtaaeaaahllicbaaFrmH
namespace Go.Proofs.Ytaaeaaahllicbaa
open Go.RowKit Go.Maps Crc

def OpenPost (w : World) (kind : UInt8) (bs : List UInt8) (e : Ending) (w' : World) : Prop := ∃ (v : Value) (er : Int), e = .returned (.tuple #[v, .int .i64 er]) ∧ BW w w' ∧
  ((16777216 < bs.length ∧ er = 3 ∧ v = .slice none 0 0) ∨ (bs.length ≤ 16777216 ∧ openP kind bs = none ∧ er = 20 ∧ v = .slice none 0 0) ∨ (bs.length ≤ 16777216 ∧ ∃ ss vs, openP kind bs = some ss ∧ er = 0 ∧ Bag w' w.heap.size v vs ss))
theorem open_bad {kind : UInt8} {bs : List UInt8} (h : ¬ checkedP kind bs) : openP kind bs = none := by unfold openP; rw [if_neg h]
theorem open_short {kind : UInt8} {bs : List UInt8} (h : bs.length < 8) : openP kind bs = none := open_bad fun h2 => by have := h2.1; omega
theorem open_head {kind x0 x1 x2 x3 : UInt8} {r : List UInt8} (h : ¬ (x0 = 76 ∧ x1 = 84 ∧ x2 = 1 ∧ x3 = kind)) : openP kind (x0 :: x1 :: x2 :: x3 :: r) = none := open_bad fun h2 => h (by
  have h3 := h2.2.1
  simp only [List.take_succ_cons, List.take_zero] at h3
  injection h3 with e0 h3
  injection h3 with e1 h3
  injection h3 with e2 h3
  injection h3 with e3 _
  exact ⟨e0, e1, e2, e3⟩)
theorem last4 {bs : List UInt8} {m : Nat} (h : bs.length = m + 4) : ∃ y0 y1 y2 y3, bs.drop m = [y0, y1, y2, y3] := by
  have hl : (bs.drop m).length = 4 := by rw [List.length_drop]; omega
  generalize bs.drop m = d at hl
  match d, hl with
  | [y0, y1, y2, y3], _ => exact ⟨_, _, _, _, rfl⟩
theorem open_check {kind : UInt8} {bs : List UInt8} {m : Nat} (h : bs.length = m + 4) {y0 y1 y2 y3 : UInt8} (hy : bs.drop m = [y0, y1, y2, y3]) (hne : ¬ [y0, y1, y2, y3] = le4 (crcP (bs.take m))) : openP kind bs = none := open_bad fun h2 => hne (by
  have h3 := h2.2.2
  rw [show bs.length - 4 = m by omega, hy] at h3; exact h3)
theorem open_yes {kind : UInt8} {r : List UInt8} {m : Nat} (h : (76 :: 84 :: 1 :: kind :: r : List UInt8).length = m + 4) (hm : 4 ≤ m) {y0 y1 y2 y3 : UInt8} (hy : (76 :: 84 :: 1 :: kind :: r : List UInt8).drop m = [y0, y1, y2, y3]) (he : [y0, y1, y2, y3] = le4 (crcP ((76 :: 84 :: 1 :: kind :: r : List UInt8).take m))) :
    openP kind (76 :: 84 :: 1 :: kind :: r) = restP (((76 :: 84 :: 1 :: kind :: r : List UInt8).take m).drop 4) := by
  have e : (76 :: 84 :: 1 :: kind :: r : List UInt8).length - 4 = m := by omega
  unfold openP
  rw [e, if_pos]
  refine ⟨by omega, rfl, ?_⟩
  rw [e, hy]; exact he
theorem le4_four {c : Nat} {y0 y1 y2 y3 : UInt8} (h0 : y0.toNat = c % 256) (h1 : y1.toNat = c / 256 % 256) (h2 : y2.toNat = c / 65536 % 256) (h3 : y3.toNat = c / 16777216 % 256) : [y0, y1, y2, y3] = le4 c := by
  unfold le4
  have f (y : UInt8) (n : Nat) (h : y.toNat = n % 256) : y = UInt8.ofNat (n % 256) := by
    apply UInt8.toNat_inj.1; rw [UInt8.toNat_ofNat', h, Nat.mod_mod]
  rw [← f y0 _ h0, ← f y1 _ h1, ← f y2 _ h2, ← f y3 _ h3]
theorem le4_not {c : Nat} {y0 y1 y2 y3 : UInt8} (h : [y0, y1, y2, y3] = le4 c) : y0.toNat = c % 256 ∧ y1.toNat = c / 256 % 256 ∧ y2.toNat = c / 65536 % 256 ∧ y3.toNat = c / 16777216 % 256 := by
  unfold le4 at h
  injection h with e0 h
  injection h with e1 h
  injection h with e2 h
  injection h with e3 _
  refine ⟨?_, ?_, ?_, ?_⟩
  · rw [e0, UInt8.toNat_ofNat', Nat.mod_mod]
  · rw [e1, UInt8.toNat_ofNat', Nat.mod_mod]
  · rw [e2, UInt8.toNat_ofNat', Nat.mod_mod]
  · rw [e3, UInt8.toNat_ofNat', Nat.mod_mod]
theorem info_int : (Try.prog.info? 3).map (fun i => (i.zero, i.size, i.bytes)) = some (some (.int .i64 0), 1, 8) := by kernel_rfl
def nV (n : Nat) : Value := .int .i64 (n : Int)
theorem nV_one (l : List Nat) : ∀ u ∈ l.map nV, u.oneCell' = true := by
  intro u hu
  obtain ⟨c, _, rfl⟩ := List.mem_map.1 hu
  rfl

set_option maxHeartbeats 8000000 in
set_option maxRecDepth 100000 in
theorem refOpen_any {w : World} {kind : UInt8} {v : Value} {bs : List UInt8} (h : Src w v (bs.map bV)) (hb : (bs.length : Int) ≤ 140737488351232) : Calls Try.prog 18 #[bV kind, v] w (OpenPost w kind bs) := by
  obtain ⟨ao, cap, rfl⟩ := h.len
  rw [List.length_map] at h ⊢
  obtain ⟨n, hn⟩ : ∃ n, n = bs.length := ⟨_, rfl⟩
  rw [← hn] at h hb ⊢
  have hcap : n ≤ cap := by
    rcases h with ⟨ao', c', e, e2, h5, h6⟩ | ⟨b', off', c', hv, h1, h2, h3, h4⟩
    · injection e with _ e1 _; omega
    · injection hv with _ e1 e2; subst e2; rw [List.length_map] at h1; omega
  have hcapi : (n : Int) ≤ (cap : Int) := by omega
  obtain ⟨kv, hkv⟩ : ∃ kv, kv = kind.toNat := ⟨_, rfl⟩
  have hkv256 : kv < 256 := by rw [hkv]; exact UInt8.toNat_lt _
  unfold bV
  rw [← hkv]
  by_cases hlong : 16777216 < n
  · have hd : decide (16777216 < n) = true := decide_eq_true hlong
    have hd' : decide ((16777216 : Int) < (n : Int)) = true := decide_eq_true (by omega)
    have HL : Hid (16777216 < bs.length) := by unfold Hid; omega
    clear h hn hkv hlong hcap
    go_enter Try.func18, Try.ntmps18
    go_wp2
    go_ret2
    exact ⟨_, _, rfl, BW.refl _, .inl ⟨HL.out, rfl, rfl⟩⟩
  have hd : decide (16777216 < n) = false := decide_eq_false hlong
  have hd' : decide ((16777216 : Int) < (n : Int)) = false := decide_eq_false (by omega)
  have HLE : Hid (bs.length ≤ 16777216) := by unfold Hid; omega
  have hn24 : (n : Int) ≤ 16777216 := by omega
  by_cases hsh : n < 8
  · have hs1 : decide ((n : Int) - 4 < 4) = true := decide_eq_true (by omega)
    have HNO : Hid (openP kind bs = none) := open_short (by omega)
    clear h hn hkv hlong hsh hcap
    go_enter Try.func18, Try.ntmps18
    go_wp2
    go_ret2
    exact ⟨_, _, rfl, BW.refl _, .inr (.inl ⟨HLE.out, HNO.out, rfl, rfl⟩)⟩
  obtain ⟨m, hm⟩ : ∃ m, m = n - 4 := ⟨_, rfl⟩
  have hmi : (n : Int) - 4 = (m : Int) := by omega
  have hm4 : (4 : Int) ≤ (m : Int) := by omega
  have hmn : (m : Int) + 4 ≤ (n : Int) := by omega
  have hs1 : decide ((m : Int) < 4) = false := decide_eq_false (by omega)
  have hs2 : decide (m < 4) = false := decide_eq_false (by omega)
  have hlm : bs.length = m + 4 := by omega
  obtain ⟨x0, x1, x2, x3, r, hbs⟩ := four_of bs (by omega)
  have hg (i : Nat) (x : UInt8) (hx : bs[i]? = some x) := h.get (i := i) (u := bV x) (by rw [List.getElem?_map, hx]; rfl)
  obtain ⟨b0, o0, rfl, c0⟩ := hg 0 x0 (by rw [hbs]; rfl)
  obtain ⟨b', o', e', c1⟩ := hg 1 x1 (by rw [hbs]; rfl)
  cases e'
  obtain ⟨b', o', e', c2⟩ := hg 2 x2 (by rw [hbs]; rfl)
  cases e'
  obtain ⟨b', o', e', c3⟩ := hg 3 x3 (by rw [hbs]; rfl)
  cases e'
  rw [Nat.add_zero] at c0
  obtain ⟨y0, y1, y2, y3, hy⟩ := last4 hlm
  have hgd (i : Nat) (x : UInt8) (hx : (bs.drop m)[i]? = some x) := hg (m + i) x (by rw [← hx, List.getElem?_drop])
  obtain ⟨b', o', e', d0⟩ := hgd 0 y0 (by rw [hy]; rfl)
  cases e'
  obtain ⟨b', o', e', d1⟩ := hgd 1 y1 (by rw [hy]; rfl)
  cases e'
  obtain ⟨b', o', e', d2⟩ := hgd 2 y2 (by rw [hy]; rfl)
  cases e'
  obtain ⟨b', o', e', d3⟩ := hgd 3 y3 (by rw [hy]; rfl)
  cases e'
  rw [Nat.add_zero] at d0
  have hb0 := cell_lt c0
  unfold bV at c0 c1 c2 c3 d0 d1 d2 d3
  have HSUM := Lib.hid (refSum_any (bs := bs.take m) (by have := h.taken (m := m) (by rw [List.length_map]; omega); rw [List.map_take]; exact this) (by rw [List.length_take]; omega))
  have HMID : Hid (Src w (.slice (some ⟨b0, o0 + 4, none⟩) (m - 4) (cap - 4)) (((bs.take m).drop 4).map bV)) := by
    unfold Hid
    have h1 := h.mid (i := 4) (j := m) (by rw [List.length_map]; omega) (by omega)
    rw [List.drop_take, List.map_take, List.map_drop]; exact h1
  clear hg hgd h
  by_cases hhead : x0 = 76 ∧ x1 = 84 ∧ x2 = 1 ∧ x3 = kind
  case neg =>
    have HNO : Hid (openP kind bs = none) := by unfold Hid; rw [hbs]; exact open_head hhead
    have hq : (x0 ≠ 76) ∨ (x0 = 76 ∧ x1 ≠ 84) ∨ (x0 = 76 ∧ x1 = 84 ∧ x2 ≠ 1) ∨ (x0 = 76 ∧ x1 = 84 ∧ x2 = 1 ∧ x3 ≠ kind) := by
      by_cases e0 : x0 = 76
      · by_cases e1 : x1 = 84
        · by_cases e2 : x2 = 1
          · exact .inr (.inr (.inr ⟨e0, e1, e2, fun e3 => hhead ⟨e0, e1, e2, e3⟩⟩))
          · exact .inr (.inr (.inl ⟨e0, e1, e2⟩))
        · exact .inr (.inl ⟨e0, e1⟩)
      · exact .inl e0
    clear hn hm hlm hy hbs hhead hlong hsh hcap d0 d1 d2 d3 HSUM HMID
    rcases hq with e0 | ⟨rfl, e1⟩ | ⟨rfl, rfl, e2⟩ | ⟨rfl, rfl, rfl, e3⟩
    · have g0 := byte_ne e0
      rw [show ((76 : UInt8).toNat : Int) = 76 from rfl] at g0
      clear e0 hkv
      go_enter Try.func18, Try.ntmps18
      go_wp2
      go_ret2
      exact ⟨_, _, rfl, BW.refl _, .inr (.inl ⟨HLE.out, HNO.out, rfl, rfl⟩)⟩
    · have g1 := byte_ne e1
      rw [show ((84 : UInt8).toNat : Int) = 84 from rfl] at g1
      rw [show ((76 : UInt8).toNat : Int) = 76 from rfl] at c0
      clear e1 hkv
      go_enter Try.func18, Try.ntmps18
      go_wp2
      go_ret2
      exact ⟨_, _, rfl, BW.refl _, .inr (.inl ⟨HLE.out, HNO.out, rfl, rfl⟩)⟩
    · have g2 := byte_ne e2
      rw [show ((1 : UInt8).toNat : Int) = 1 from rfl] at g2
      rw [show ((76 : UInt8).toNat : Int) = 76 from rfl] at c0
      rw [show ((84 : UInt8).toNat : Int) = 84 from rfl] at c1
      clear e2 hkv
      go_enter Try.func18, Try.ntmps18
      go_wp2
      go_ret2
      exact ⟨_, _, rfl, BW.refl _, .inr (.inl ⟨HLE.out, HNO.out, rfl, rfl⟩)⟩
    · have g3 := byte_ne e3
      rw [← hkv] at g3
      rw [show ((76 : UInt8).toNat : Int) = 76 from rfl] at c0
      rw [show ((84 : UInt8).toNat : Int) = 84 from rfl] at c1
      rw [show ((1 : UInt8).toNat : Int) = 1 from rfl] at c2
      clear e3 hkv
      go_enter Try.func18, Try.ntmps18
      go_wp2
      go_ret2
      exact ⟨_, _, rfl, BW.refl _, .inr (.inl ⟨HLE.out, HNO.out, rfl, rfl⟩)⟩
  case pos =>
    obtain ⟨rfl, rfl, rfl, rfl⟩ := hhead
    rw [show ((76 : UInt8).toNat : Int) = 76 from rfl] at c0
    rw [show ((84 : UInt8).toNat : Int) = 84 from rfl] at c1
    rw [show ((1 : UInt8).toNat : Int) = 1 from rfl] at c2
    rw [← hkv] at c3
    obtain ⟨c, hc⟩ : ∃ c, c = crcP (bs.take m) := ⟨_, rfl⟩
    have hc32 : c < 4294967296 := by rw [hc]; exact crcP_lt _
    rw [← hc] at HSUM
    have HC := Lib.hid hc
    obtain ⟨s1, hs1v⟩ : ∃ s1, s1 = c / 256 := ⟨_, rfl⟩
    obtain ⟨s2, hs2v⟩ : ∃ s2, s2 = c / 65536 := ⟨_, rfl⟩
    obtain ⟨s3, hs3v⟩ : ∃ s3, s3 = c / 16777216 := ⟨_, rfl⟩
    have e1 : (c : Int) / 256 = (s1 : Int) := by omega
    have e2 : (c : Int) / 65536 = (s2 : Int) := by omega
    have e3 : (c : Int) / 16777216 = (s3 : Int) := by omega
    obtain ⟨v0, hv0⟩ : ∃ v0, v0 = c % 256 := ⟨_, rfl⟩
    obtain ⟨v1, hv1⟩ : ∃ v1, v1 = s1 % 256 := ⟨_, rfl⟩
    obtain ⟨v2, hv2⟩ : ∃ v2, v2 = s2 % 256 := ⟨_, rfl⟩
    obtain ⟨v3, hv3⟩ : ∃ v3, v3 = s3 % 256 := ⟨_, rfl⟩
    have f0 : IntKind.u8.wrap (c : Int) = (v0 : Int) := by rw [IntKind.wrap_u8']; omega
    have f1 : IntKind.u8.wrap (s1 : Int) = (v1 : Int) := by rw [IntKind.wrap_u8']; omega
    have f2 : IntKind.u8.wrap (s2 : Int) = (v2 : Int) := by rw [IntKind.wrap_u8']; omega
    have f3 : IntKind.u8.wrap (s3 : Int) = (v3 : Int) := by rw [IntKind.wrap_u8']; omega
    have hc0 : 0 ≤ (c : Int) := by omega
    obtain ⟨z0, hz0⟩ : ∃ z0, z0 = y0.toNat := ⟨_, rfl⟩
    obtain ⟨z1, hz1⟩ : ∃ z1, z1 = y1.toNat := ⟨_, rfl⟩
    obtain ⟨z2, hz2⟩ : ∃ z2, z2 = y2.toNat := ⟨_, rfl⟩
    obtain ⟨z3, hz3⟩ : ∃ z3, z3 = y3.toNat := ⟨_, rfl⟩
    rw [← hz0] at d0; rw [← hz1] at d1; rw [← hz2] at d2; rw [← hz3] at d3
    have HBAD : Hid (¬ (z0 = v0 ∧ z1 = v1 ∧ z2 = v2 ∧ z3 = v3) → openP x3 bs = none) := fun hne => open_check hlm hy (fun h => hne (by
      rw [← hc] at h
      obtain ⟨g0, g1, g2, g3⟩ := le4_not h
      rw [hs1v] at hv1; rw [hs2v] at hv2; rw [hs3v] at hv3
      exact ⟨by rw [hz0, g0, hv0], by rw [hz1, g1, hv1], by rw [hz2, g2, hv2], by rw [hz3, g3, hv3]⟩))
    have HGOOD : Hid ((z0 = v0 ∧ z1 = v1 ∧ z2 = v2 ∧ z3 = v3) → openP x3 bs = restP ((bs.take m).drop 4)) := fun hq => by
      have h1 : [y0, y1, y2, y3] = le4 (crcP (bs.take m)) := by
        rw [← hc]
        refine le4_four ?_ ?_ ?_ ?_
        · rw [← hz0, hq.1, hv0]
        · rw [← hz1, hq.2.1, hv1, hs1v]
        · rw [← hz2, hq.2.2.1, hv2, hs2v]
        · rw [← hz3, hq.2.2.2, hv3, hs3v]
      rw [hbs] at hlm hy h1 ⊢
      exact open_yes hlm (by omega) hy h1
    have HLM := Lib.hid hlm
    have HB0 := Lib.hid hb0
    clear hn hkv hm hy hbs hlong hsh hcap hc hs1v hs2v hs3v hv0 hv1 hv2 hv3 hz0 hz1 hz2 hz3 hlm hb0
    have hm1 : (m : Int) + 1 < (n : Int) := by omega
    have hm2 : (m : Int) + 2 < (n : Int) := by omega
    have hm3 : (m : Int) + 3 < (n : Int) := by omega
    go_enter Try.func18, Try.ntmps18
    go_wp2_with fail
    refine HSUM.out.mono ?_
    rintro e w' ⟨rfl, rfl⟩
    by_cases k0 : z0 = v0
    case neg =>
      have q0 : ((z0 : Int) != (v0 : Int)) = true := by simp; omega
      have HNO := Lib.hid (HBAD.out fun h => k0 h.1)
      clear k0 HBAD HGOOD
      go_wp2
      go_ret2
      exact ⟨_, _, rfl, BW.refl _, .inr (.inl ⟨HLE.out, HNO.out, rfl, rfl⟩)⟩
    by_cases k1 : z1 = v1
    case neg =>
      have q0 : ((z0 : Int) != (v0 : Int)) = false := by simp [k0]
      have q1 : ((z1 : Int) != (v1 : Int)) = true := by simp; omega
      have HNO := Lib.hid (HBAD.out fun h => k1 h.2.1)
      clear k0 k1 HBAD HGOOD
      go_wp2
      go_ret2
      exact ⟨_, _, rfl, BW.refl _, .inr (.inl ⟨HLE.out, HNO.out, rfl, rfl⟩)⟩
    by_cases k2 : z2 = v2
    case neg =>
      have q0 : ((z0 : Int) != (v0 : Int)) = false := by simp [k0]
      have q1 : ((z1 : Int) != (v1 : Int)) = false := by simp [k1]
      have q2 : ((z2 : Int) != (v2 : Int)) = true := by simp; omega
      have HNO := Lib.hid (HBAD.out fun h => k2 h.2.2.1)
      clear k0 k1 k2 HBAD HGOOD
      go_wp2
      go_ret2
      exact ⟨_, _, rfl, BW.refl _, .inr (.inl ⟨HLE.out, HNO.out, rfl, rfl⟩)⟩
    by_cases k3 : z3 = v3
    case neg =>
      have q0 : ((z0 : Int) != (v0 : Int)) = false := by simp [k0]
      have q1 : ((z1 : Int) != (v1 : Int)) = false := by simp [k1]
      have q2 : ((z2 : Int) != (v2 : Int)) = false := by simp [k2]
      have q3 : ((z3 : Int) != (v3 : Int)) = true := by simp; omega
      have HNO := Lib.hid (HBAD.out fun h => k3 h.2.2.2)
      clear k0 k1 k2 k3 HBAD HGOOD
      go_wp2
      go_ret2
      exact ⟨_, _, rfl, BW.refl _, .inr (.inl ⟨HLE.out, HNO.out, rfl, rfl⟩)⟩
    have q0 : ((z0 : Int) != (v0 : Int)) = false := by simp [k0]
    have q1 : ((z1 : Int) != (v1 : Int)) = false := by simp [k1]
    have q2 : ((z2 : Int) != (v2 : Int)) = false := by simp [k2]
    have q3 : ((z3 : Int) != (v3 : Int)) = false := by simp [k3]
    have HOP := Lib.hid (HGOOD.out ⟨k0, k1, k2, k3⟩)
    clear k0 k1 k2 k3 HBAD HGOOD
    have hcap4 : (4 : Int) < (cap : Int) := by omega
    have hcap5 : ¬ cap = 4 := by omega
    have hm0 : (0 : Int) ≤ (m : Int) := by omega
    have hmc : (m : Int) ≤ (cap : Int) := by omega
    obtain ⟨l, hl⟩ : ∃ l, l = (bs.take m).drop 4 := ⟨_, rfl⟩
    rw [← hl] at HMID HOP
    obtain ⟨sv, hsv⟩ : ∃ sv, sv = Value.slice (some ⟨b0, o0 + 4, none⟩) (m - 4) (cap - 4) := ⟨_, rfl⟩
    have HRF : Hid (Rf (w.alloc (.cells #[.slice (some ⟨b0, o0 + 4, none⟩) (m - 4) (cap - 4), .int .i64 0, .int .i64 0] 61)) w.heap.size sv l 0 0) := by
      unfold Hid
      rw [hsv]
      refine ⟨heap_new _ _, HMID.out.below (bw_alloc _ _), Nat.zero_le _, ?_, fun hne a n' k' e => ?_⟩
      · rw [hl, List.length_drop, List.length_take]; omega
      · cases e; exact Nat.ne_of_lt HB0.out
    have HVB : Hid (∀ a n' k', sv = .slice (some a) n' k' → a.block < w.heap.size) := fun a n' k' e => by
      rw [hsv] at e; cases e; exact HB0.out
    clear hl hsv HMID
    go_wp2_with fail
    generalize hw0 : w.alloc (.cells #[.slice (some ⟨b0, o0 + 4, none⟩) (m - 4) (cap - 4), .int .i64 0, .int .i64 0] 61) = w0 at HRF ⊢
    have HBW0 : Hid (BW w w0) := by rw [← hw0]; exact bw_alloc _ _
    obtain ⟨s, hs⟩ : ∃ s, s = w.heap.size := ⟨_, rfl⟩
    rw [← hs] at HRF ⊢
    have HS := Lib.hid hs
    have HS0 : Hid (s < w0.heap.size) := lt_of_heap HRF.out.blk
    clear hw0 hs
    refine (DocR.count_any HRF.out).mono ?_
    rintro e w1 ⟨k, hk, rfl, hm1, hst⟩
    have HBW1 : Hid (BW w w1) := bw_moves HBW0.out hm1 (Nat.le_of_eq HS.out.symm)
    have HS1 : Hid (s < w1.heap.size) := Nat.lt_of_lt_of_le HS0.out hm1.size
    have HST := Lib.hid hst
    have HVB1 : Hid (∀ a n' k', sv = .slice (some a) n' k' → a.block < w1.heap.size) := fun a n' k' e => Nat.lt_of_lt_of_le (HVB.out a n' k' e) HBW1.out.size
    have hki : (k : Int) ≤ 1024 := by omega
    clear hm1 hst
    go_wp2
    go_loopg [10, 11] k (fun g s10 s11 wx => ∃ (i : Nat) (zs : List Nat), i + g = k ∧ s11 = .int .i64 i ∧ zs.length = i ∧ (∀ z ∈ zs, z ≤ 16777216) ∧ wx.ownsRow w1.heap.size 3 1 s10 i (zs.map nV) ∧ Moves (fun b => b = s) w1 wx ∧ DocR.StS wx s sv l g zs)
    case atStart => exact ⟨0, [], by omega, rfl, rfl, (fun z h => by cases h), World.ownsRow_nil _ _ _ _, Moves.refl _ _, HST.out⟩
    case round =>
      obtain ⟨i, zs, hig, rfl, hzl, hzs, hrow, hmv, hst⟩ := hrel
      have HIG := Lib.hid hig
      have HZL := Lib.hid hzl
      have HZS := Lib.hid hzs
      have HROW := Lib.hid hrow
      have HMV := Lib.hid hmv
      have HSTX := Lib.hid hst
      clear hzl hzs hrow hmv hst
      cases gk with
      | zero =>
        have hge : (k : Int) ≤ (i : Int) := by omega
        have hdz : decide (i < k) = false := decide_eq_false (by omega)
        have HZK : Hid (zs.length = k) := by have := HZL.out; unfold Hid; omega
        have hik : i = k := by omega
        have HROWK : Hid (wr.ownsRow w1.heap.size 3 1 u10 k (zs.map nV)) := by have h1 := HROW.out; rw [hik] at h1; exact h1
        have HSTC := Lib.hid (DocR.StS.done HSTX.out)
        obtain ⟨wo, rfl⟩ : ∃ wo : World, wo = wr := ⟨_, rfl⟩
        have HBWO : Hid (BW w wo) := bw_moves HBW1.out HMV.out (Nat.le_of_eq HS.out.symm)
        have HSO : Hid (s < wo.heap.size) := Nat.lt_of_lt_of_le HS1.out HMV.out.size
        obtain ⟨ao, an, ac, rfl⟩ := row_form HROWK.out
        obtain rfl : an = k := row_len HROWK.out rfl
        clear hig HIG hik HROW
        go_wp2
        go_loopg [13, 14] an (fun g s13 s14 wx => ∃ (i : Nat) (vs : List Value) (ss : List (List UInt8)), i + g = an ∧ s14 = .int .i64 i ∧ vs.length = i ∧ Bag wx wo.heap.size s13 vs ss ∧ Moves (fun b => b = s) wo wx ∧ DocR.StC wx s sv l (zs.drop i) ss)
        case atStart => exact ⟨0, [], [], by omega, rfl, rfl, Bag.nil _ _, Moves.refl _ _, HSTC.out⟩
        case round =>
          obtain ⟨j, vs, ss, hjg, rfl, hvl, hbag, hmv, hst⟩ := hrel
          have HJG := Lib.hid hjg
          have HVL := Lib.hid hvl
          have HBAG := Lib.hid hbag
          have HMV2 := Lib.hid hmv
          have HST2 := Lib.hid hst
          clear hvl hbag hmv hst
          cases gk with
          | zero =>
            have hge2 : (an : Int) ≤ (j : Int) := by omega
            have hdz2 : decide (j < an) = false := decide_eq_false (by omega)
            have HSTE : Hid (DocR.StC wr s sv l [] ss) := by
              have h1 := HST2.out
              rw [List.drop_eq_nil_of_le (by have := HZK.out; omega)] at h1
              exact h1
            obtain ⟨vo, vn, vc, rfl⟩ := row_form HBAG.out.out
            clear hjg HJG
            go_wp2_with fail
            refine (DocR.end_any HSTE.out).mono ?_
            rintro e w5 ⟨er, rfl, hm5, hcase⟩
            have HBW5 : Hid (BW w w5) := bw_moves (bw_moves HBWO.out HMV2.out (Nat.le_of_eq HS.out.symm)) hm5 (Nat.le_of_eq HS.out.symm)
            have HBAG5 : Hid (Bag w5 w.heap.size (.slice vo vn vc) vs ss) := (HBAG.out.keep fun b h1 h2 => hm5.block b h2 (by have := HSO.out; omega)).base HBWO.out.size
            clear hm5
            rcases hcase with ⟨rfl, hr⟩ | ⟨rfl, hr⟩
            · have HR := Lib.hid (HOP.out.trans hr)
              clear hr
              go_wp2
              go_ret2
              exact ⟨_, _, rfl, HBW5.out, .inr (.inr ⟨HLE.out, ss, vs, HR.out, rfl, HBAG5.out⟩)⟩
            · have HR := Lib.hid (HOP.out.trans hr)
              clear hr
              go_wp2
              go_ret2
              exact ⟨_, _, rfl, HBW5.out, .inr (.inl ⟨HLE.out, HR.out, rfl, rfl⟩)⟩
          | succ g =>
            have hi : (j : Int) < (an : Int) := by omega
            have hi0 : (0 : Int) ≤ (j : Int) := by omega
            have hjl : j < zs.length := by have := HZK.out; omega
            obtain ⟨z, hz⟩ : ∃ z, z = zs[j] := ⟨_, rfl⟩
            have hzb : z ≤ 16777216 := by rw [hz]; exact HZS.out _ (List.getElem_mem _)
            have HDROP : Hid (zs.drop j = z :: zs.drop (j + 1)) := by unfold Hid; rw [hz]; exact List.drop_eq_getElem_cons hjl
            have HROWX : Hid (wr.ownsRow w1.heap.size 3 1 (.slice ao an ac) an (zs.map nV)) := row_keepB HROWK.out fun b e => HMV2.out.block b (row_block HROWK.out e).2 (by have := (row_block HROWK.out e).1; have := HS1.out; omega)
            obtain ⟨zb, zo, rfl, hcz⟩ := (Src.of_row HROWX.out).get (i := j) (u := nV z) (by rw [List.getElem?_map, List.getElem?_eq_getElem hjl, ← hz]; rfl)
            unfold nV at hcz
            have HCUT : Hid (DocR.StC wr s sv l (z :: zs.drop (j + 1)) ss) := by have h1 := HST2.out; rw [HDROP.out] at h1; exact h1
            have HCALL := Lib.hid (DocR.cut_any HCUT.out hzb)
            clear hjl hz hjg
            obtain ⟨vo, vn, vc, rfl⟩ := row_form HBAG.out.out
            obtain rfl : vn = j := by have h1 := row_len HBAG.out.out rfl; have := HVL.out; omega
            go_wp2_with fail
            refine HCALL.out.mono ?_
            rintro e w3 ⟨x, t, rfl, hm3, hx3, hst3⟩
            have HBK : Hid (∀ b, wo.heap.size ≤ b → b < wr.heap.size → w3.heap[b]? = wr.heap[b]?) := fun b h1 h2 => hm3.block b h2 (by have := HSO.out; omega)
            have HOUT3 : Hid (w3.ownsRow wo.heap.size 23 1 (.slice vo vn vc) vn vs) := by
              have h1 := (HBAG.out.keep HBK.out).out; rw [HVL.out] at h1; exact h1
            have HM3 := Lib.hid hm3
            have HX3 := Lib.hid hx3
            have HST3 := Lib.hid hst3
            have HSZ3 : Hid (wo.heap.size ≤ w3.heap.size) := Nat.le_trans HMV2.out.size hm3.size
            obtain ⟨xo, xn, xc, rfl⟩ := row_form hx3
            clear hm3 hx3 hst3
            go_wp2_with (at_builtin; refine append_slice_two rfl (.tmp 122) (.tmp 124) rfl wo.heap.size _ vn vs rfl (HOUT3.out.alloc _) w3.heap.size rfl xo xn xc (cell_of (heap_new _ _) rfl) ?_ ?_ ?_)
            · omega
            · have := HSZ3.out; simp; omega
            intro v4 w4 ho4 ha4
            have HBAG4 : Hid (Bag w4 wo.heap.size v4 (vs ++ [.slice xo xn xc]) (ss ++ [t])) := Bag.push HBAG.out HMV2.out.size HM3.out.size HBK.out HX3.out (by rw [HVL.out]; exact ho4) ha4
            have hvb : ∀ b, (Value.slice vo vn vc).ownBlock = some b → wo.heap.size ≤ b := fun b e => (row_block HOUT3.out e).1
            have HMV4 : Hid (Moves (fun b => b = s) wo w4) := App.moves ha4 ((HMV2.out.trans HM3.out (fun _ _ h => h)).alloc _) hvb
            have HST4 : Hid (DocR.StC w4 s sv l (zs.drop (vn + 1)) (ss ++ [t])) := by
              refine HST3.out.keep (B := wo.heap.size) HSO.out (fun a n' k' e => Nat.lt_of_lt_of_le (HVB.out a n' k' e) HBWO.out.size) (Nat.le_trans (alloc_le _ _) (App.size ha4)) fun b hb => ?_
              exact (App.low (B := wo.heap.size) ha4 (by have := HSZ3.out; simp; omega) hvb b hb).trans (Below.heap_alloc _ _ _ (Nat.lt_of_lt_of_le hb HSZ3.out))
            clear ho4 ha4 hvb
            go_wp2
            go_roundg g
            case measure => omega
            case rel => exact ⟨vn + 1, _, _, by have := HJG.out; omega, by first | rfl | simp, by rw [List.length_append, HVL.out]; rfl, HBAG4.out, HMV4.out, HST4.out⟩
      | succ g =>
        have hi : (i : Int) < (k : Int) := by omega
        have hi0 : (0 : Int) ≤ (i : Int) := by omega
        have HCALL := Lib.hid (DocR.size_any HSTX.out)
        clear hig
        go_wp2_with fail
        refine HCALL.out.mono ?_
        rintro e w2 ⟨z, hz, rfl, hm2, hst2⟩
        have HR2 : Hid (w2.ownsRow w1.heap.size 3 1 u10 i (zs.map nV)) := row_keepB HROW.out fun b e => hm2.block b (row_block HROW.out e).2 (by have := (row_block HROW.out e).1; have := HS1.out; omega)
        have HM2 : Hid (Moves (fun b => b = s) w1 w2) := HMV.out.trans hm2 (fun _ _ h => h)
        have HST2 := Lib.hid hst2
        have HZS2 : Hid (∀ y ∈ zs ++ [z], y ≤ 16777216) := fun y hy => by
          rcases List.mem_append.1 hy with h | h
          · exact HZS.out y h
          · rw [List.mem_singleton.1 h]; exact hz
        obtain ⟨ao, an, ac, rfl⟩ := row_form HR2.out
        clear hm2 hst2 hz
        go_wp2_with (at_builtin; refine append_any Try.underlying63 info_int rfl (by decide) rfl (.tmp 107) (.tmp 109) rfl w1.heap.size _ i (zs.map nV) rfl (HR2.out.alloc _) (.slice (some ⟨w2.heap.size, 0, none⟩) 1 1) rfl [nV z] (src_new w2 #[.int .i64 (z : Int)] 3 1 rfl (by decide)) (nV_one [z]) ?_ ?_ ?_)
        · simp; omega
        · have := HM2.out.size; simp; omega
        intro v4 w4 ho4 hg4
        have HO4 : Hid (w4.ownsRow w1.heap.size 3 1 v4 (i + 1) ((zs ++ [z]).map nV)) := by
          unfold Hid; rw [List.map_append]; exact ho4
        have hvb : ∀ b, (Value.slice ao an ac).ownBlock = some b → w1.heap.size ≤ b := fun b e => (row_block HR2.out e).1
        have HM4 : Hid (Moves (fun b => b = s) w1 w4) := (HM2.out.alloc _).grown hg4 fun b e hb => by have := hvb b e; omega
        have HST4 : Hid (DocR.StS w4 s sv l g (zs ++ [z])) := by
          refine HST2.out.keep (B := w1.heap.size) HS1.out HVB1.out (Nat.le_trans (alloc_le _ _) hg4.size) fun b hb => ?_
          exact (grown_low (B := w1.heap.size) hg4 (by have := HM2.out.size; simp; omega) hvb b hb).trans (Below.heap_alloc _ _ _ (Nat.lt_of_lt_of_le hb HM2.out.size))
        clear ho4 hg4 hvb
        go_wp2
        go_roundg g
        case measure => omega
        case rel => exact ⟨i + 1, zs ++ [z], by have := HIG.out; omega, by first | rfl | simp, by rw [List.length_append, HZL.out]; rfl, HZS2.out, HO4.out, HM4.out, HST4.out⟩
end Go.Proofs.Ytaaeaaahllicbaa
