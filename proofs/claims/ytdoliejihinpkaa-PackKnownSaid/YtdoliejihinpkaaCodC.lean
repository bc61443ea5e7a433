/- takeUint. -/
import Derived.Test.YtdoliejihinpkaaCodB
import Derived.Deep.CutRange
import Derived.Laws.BitsAllLaws
namespace Go.Proofs.Ytdoliejihinpkaa
open Go.RowKit Go.Maps

def TakeU (w : World) (r c : Nat) (l : List UInt8) (e : Ending) (w' : World) : Prop :=
  ∃ (n : Nat) (ok : Bool), n < 18446744073709551616 ∧ e = .returned (.tuple #[.int .u64 (n : Int), .bool ok]) ∧ Moves (fun b => b = r) w w' ∧ (ok = true → ∃ k v, deco l = some (v, k) ∧ n = v ∧ Rd w' r c (l.drop k) 0) ∧ (ok = false → deco l = none ∧ ∃ x, RdC w' r x 0)

def acc (l : List UInt8) (k : Nat) : Nat := val (l.take k) % 18446744073709551616

theorem more_ge : ∀ (l : List UInt8) (k : Nat), k ≤ l.length → (∀ j (hj : j < k) (hj' : j < l.length), 128 ≤ l[j].toNat) → k ≤ more l
  | _, 0, _, _ => Nat.zero_le _
  | [], k + 1, h, _ => by simp at h
  | c :: r, k + 1, h, hj => by
    have h0 := hj 0 (by omega) (by simp)
    simp at h0
    unfold more
    rw [if_neg (by omega)]
    have := more_ge r k (by simpa using h) (fun j h1 h2 => by have := hj (j + 1) (by omega) (by simpa using h2); simpa using this)
    omega
theorem more_at {l : List UInt8} {k : Nat} (hk : k < l.length) (hj : ∀ j (hj : j < k) (hj' : j < l.length), 128 ≤ l[j].toNat) (h : l[k].toNat < 128) : more l = k := by
  have h1 := more_ge l k (by omega) hj
  rcases Nat.lt_or_ge k (more l) with h2 | h2
  · have h3 := (more_all l).1 l[k] (by
      rw [List.mem_take_iff_getElem]
      exact ⟨k, by have := more_le l; omega, rfl⟩)
    omega
  · omega

theorem or_nat {k a d e : Nat} (ha : a < 2 ^ k) (hd : a + 2 ^ k * e < 18446744073709551616) : bits .or .u64 (a : Int) ((2 ^ k * e : Nat) : Int) = ((a + 2 ^ k * e : Nat) : Int) := by
  rw [u64_or_nat _ _ (by omega) (by omega)]
  congr 1
  rw [Nat.or_comm, ← Nat.two_pow_add_eq_or_of_lt ha e]
  omega

theorem acc_step {l : List UInt8} {k x z : Nat} {ch : UInt8} (hk : k < 10) (hc : l[k]? = some ch) (hx : ch.toNat = x) (hz : acc l k = z) : bits .or .u64 (z : Int) (IntKind.u64.wrap ((x : Int) % 128 * 2 ^ (7 * k))) = (acc l (k + 1) : Int) := by
  obtain ⟨hkl, he⟩ := List.getElem?_eq_some_iff.1 hc
  have hv := val_lt (l.take k)
  have hl : (l.take k).length = k := by rw [List.length_take]; omega
  rw [hl] at hv
  have ht : val (l.take (k + 1)) = val (l.take k) + 2 ^ (7 * k) * (x % 128) := by
    rw [List.take_succ_eq_append_getElem hkl, val_append, hl, he]
    simp [val, hx]
  have hw : ∀ n : Nat, IntKind.u64.wrap (n : Int) = ((n % 18446744073709551616 : Nat) : Int) := fun n => by
    simp [IntKind.wrap, IntKind.bits, IntKind.signed]
  have hcast : (x : Int) % 128 * 2 ^ (7 * k) = ((x % 128 * 2 ^ (7 * k) : Nat) : Int) := by simp
  rw [hcast, hw]
  unfold acc at hz ⊢
  rw [ht, ← hz]
  generalize val (l.take k) = a at hv
  generalize hd : x % 128 = d
  have hd2 : d < 128 := by omega
  have h64 : 2 ^ (7 * k) * 2 ^ (64 - 7 * k) = 18446744073709551616 := by rw [← Nat.pow_add, show 7 * k + (64 - 7 * k) = 64 by omega]
  have hp : 0 < 2 ^ (64 - 7 * k) := Nat.pow_pos (by decide)
  have ha : a < 18446744073709551616 := by rw [← h64]; exact Nat.lt_of_lt_of_le hv (Nat.le_mul_of_pos_right _ hp)
  have hr : d * 2 ^ (7 * k) % 18446744073709551616 = 2 ^ (7 * k) * (d % 2 ^ (64 - 7 * k)) := by
    rw [← h64, Nat.mul_comm d, Nat.mul_mod_mul_left]
  have hlt : a + 2 ^ (7 * k) * (d % 2 ^ (64 - 7 * k)) < 18446744073709551616 := by
    have h1 := Nat.mod_lt d hp
    have h2 : 2 ^ (7 * k) * (d % 2 ^ (64 - 7 * k) + 1) ≤ 2 ^ (7 * k) * 2 ^ (64 - 7 * k) := Nat.mul_le_mul_left _ h1
    rw [h64, Nat.mul_add] at h2
    omega
  have hs : (a + 2 ^ (7 * k) * d) % 18446744073709551616 = a + 2 ^ (7 * k) * (d % 2 ^ (64 - 7 * k)) := by
    rw [Nat.mul_comm] at hr
    rw [← Nat.mod_eq_of_lt hlt, ← hr]
    simp
  rw [Nat.mod_eq_of_lt ha, hr, hs]
  exact or_nat (d := d) hv hlt

theorem Src.dropped {w : World} {b off n cap : Nat} {xs : List Value} (h : Src w (.slice (some ⟨b, off, none⟩) n cap) xs) {m : Nat} (hm : m ≤ xs.length) {sa : Option Addr} (hs : sa = some ⟨b, off + m, none⟩ ∨ (sa = some ⟨b, off, none⟩ ∧ cap = m)) : Src w (.slice sa (n - m) (cap - m)) (xs.drop m) := by
  rcases h with ⟨ao', c', e, e2, h5, h6⟩ | ⟨b', off', c, hv, h1, h2, h3, h4⟩
  · cases e
    subst e2
    have : m = 0 := by simpa using hm
    subst this
    refine .inl ⟨sa, cap, rfl, rfl, fun e => ?_, h6⟩
    rcases hs with hs | ⟨hs, _⟩ <;> · rw [hs] at e; cases e
  · cases hv
    rcases hs with rfl | ⟨rfl, rfl⟩
    · refine .inr ⟨b, off + m, cap - m, by rw [List.length_drop], by rw [List.length_drop]; omega, by omega, h3, fun j u hu => ?_⟩
      rw [List.getElem?_drop] at hu
      rw [Nat.add_assoc]; exact h4 _ u hu
    · have he : xs.length = cap := by omega
      refine .inl ⟨_, 0, by rw [he, Nat.sub_self], List.drop_eq_nil_of_le (by omega), (fun e => by cases e), by decide⟩

theorem moves_drewN {F : Nat → Prop} {a w : World} (h : Moves F a w) (n : Nat) : Moves F a (w.drewN n) := ⟨h.os, h.tape, h.output, h.size, h.block⟩

/-- behind so many bytes -/
theorem Rd.behind {w : World} {r c off cap : Nat} {l : List UInt8} (h : Rd w r c l 0) {e : Int} (h1 : RdC w r (.slice (some ⟨c, off, none⟩) l.length cap) 0) (h2 : Src w (.slice (some ⟨c, off, none⟩) l.length cap) (l.map bV)) (hl : l ≠ []) {m : Nat} (hm : m ≤ l.length) {sa : Option Addr} (hs : sa = some ⟨c, off + m, none⟩ ∨ (sa = some ⟨c, off, none⟩ ∧ cap = m)) (nn : Nat) :
    Rd ((w.drewN nn).setCell ⟨r, 0, none⟩ (.slice sa (l.length - m) (cap - m))) r c (l.drop m) 0 ∧ Moves (fun b => b = r) w ((w.drewN nn).setCell ⟨r, 0, none⟩ (.slice sa (l.length - m) (cap - m))) := by
  have hne := h.ne hl
  have hm' : Moves (fun b => b = r) w ((w.drewN nn).setCell ⟨r, 0, none⟩ (.slice sa (l.length - m) (cap - m))) := Moves.setCell (F := fun b => b = r) (moves_drewN (Moves.refl _ _) nn) (fun _ => rfl) _
  have hd := h2.dropped (m := m) (by rw [List.length_map]; exact hm) hs
  rw [← List.map_drop] at hd
  refine ⟨⟨⟨_, heap_set (w := w.drewN nn) h1 _, hd.keep hm'.size (fun _ a n k e => ?_), fun _ a n k e => ?_⟩, fun _ => hne, by have := h.lt; simpa [World.setCell] using this, ?_⟩, hm'⟩
  · cases e
    have : a.block = c := by rcases hs with hs | ⟨hs, _⟩ <;> · injection hs with hs; rw [hs]
    exact hm'.block _ (by rw [this]; exact h.lt) (by rw [this]; exact fun e => hne e.symm)
  · cases e
    rcases hs with hs | ⟨hs, _⟩ <;> · injection hs with hs; rw [hs]
  · have := h.len; rw [List.length_drop]; omega

theorem takeU_stop {w : World} {r c off cap : Nat} {l : List UInt8} (h : Rd w r c l 0) (h1 : RdC w r (.slice (some ⟨c, off, none⟩) l.length cap) 0) (h2 : Src w (.slice (some ⟨c, off, none⟩) l.length cap) (l.map bV)) (hl : l ≠ []) {k x : Nat} {ch : UInt8} (hk : k < 10) (hc : l[k]? = some ch) (hx : ch.toNat = x) (hx8 : x < 128)
    (hj : ∀ j (hj : j < k) (hj' : j < l.length), 128 ≤ l[j].toNat) {sa : Option Addr} (hs : sa = some ⟨c, off + (k + 1), none⟩ ∨ (sa = some ⟨c, off, none⟩ ∧ cap = k + 1)) (nn : Nat) {cp : Nat} (hcp : cp = cap - (k + 1)) :
    TakeU w r c l (.returned (.tuple #[.int .u64 (acc l (k + 1) : Int), .bool (lastB k x)])) ((w.drewN nn).setCell ⟨r, 0, none⟩ (.slice sa (l.length - (k + 1)) cp)) := by
  subst hcp
  obtain ⟨hkl, he⟩ := List.getElem?_eq_some_iff.1 hc
  have hm := more_at hkl hj (by rw [he, hx]; exact hx8)
  obtain ⟨hr, hmv⟩ := h.behind (e := 0) h1 h2 hl (m := k + 1) hkl hs nn
  have hg : (l.getD k 0).toNat = x := by simp [List.getD, hc, hx]
  refine ⟨acc l (k + 1), _, Nat.mod_lt _ (by decide), rfl, hmv, (fun hok => ?_), (fun hok => ⟨?_, .slice sa (l.length - (k + 1)) (cap - (k + 1)), ?_⟩)⟩
  · have hd : deco l = some (val (l.take (k + 1)), k + 1) := by
      unfold deco
      rw [hm, if_pos ⟨hkl, by omega, by rw [hg]; exact hok⟩]
    refine ⟨k + 1, _, hd, ?_, hr⟩
    unfold acc
    rw [Nat.mod_eq_of_lt (deco_some hd).1]
  · unfold deco
    rw [hm, if_neg]
    rintro ⟨_, _, h5⟩
    rw [hg, hok] at h5; cases h5
  · exact heap_set (w := w.drewN nn) h1 _

theorem takeU_end {w : World} {r c : Nat} {l : List UInt8} {v : Value} (h1 : RdC w r v 0) {m n : Nat} (hm : min 10 n = m) (hn : l.length = n) (hj : ∀ j (hj : j < m) (hj' : j < l.length), 128 ≤ l[j].toNat) (nn : Nat) :
    TakeU w r c l (.returned (.tuple #[.int .u64 0, .bool false])) (w.drewN nn) := by
  refine ⟨0, _, by decide, rfl, moves_drewN (Moves.refl _ _) nn, (fun h => by cases h), (fun _ => ⟨?_, v, h1⟩)⟩
  have := more_ge l m (by omega) hj
  unfold deco
  rw [if_neg]
  omega

set_option maxHeartbeats 2000000 in
set_option maxRecDepth 100000 in
theorem takeU_some {w : World} {r c : Nat} {l : List UInt8} (h : Rd w r c l 0) (hl : l ≠ []) : Calls Try.prog 66 #[.pointer (some ⟨r, 0, none⟩)] w (TakeU w r c l) := by
  obtain ⟨ao, cap, h1, h2, h3⟩ := h.form
  have hlen := h.len
  have c0 : w.cell? ⟨r, 0, none⟩ = some (.slice ao l.length cap) := cell_of h1 rfl
  rcases h2 with ⟨_, _, _, hx, _⟩ | ⟨b, off, cap', hv, g1, g2, g3, g4⟩
  · exact absurd (by simpa using hx) hl
  · injection hv with e1 e2 e3
    subst e1; subst e3
    have hbc : b = c := h3 hl _ rfl
    subst hbc
    rw [List.length_map] at g1
    have H := Lib.hid h
    have G4 := Lib.hid g4
    have H1 := Lib.hid h1
    have f0 : w.frozen? ⟨r, 0, none⟩ = false := unfrozen_of h1
    have HL := Lib.hid hl
    have H2 : Hid (Src w (.slice (some ⟨b, off, none⟩) l.length cap) (l.map bV)) := .inr ⟨b, off, cap, by rw [List.length_map], by rw [List.length_map]; exact g1, g2, g3, g4⟩
    obtain ⟨n, hn⟩ : ∃ n, l.length = n := ⟨_, rfl⟩
    obtain ⟨m, hm⟩ : ∃ m, min 10 n = m := ⟨_, rfl⟩
    have hm1 : m ≤ 10 := by omega
    have hm2 : m ≤ n := by omega
    rw [hn] at c0 g1 hlen
    have HN := Lib.hid hn
    have HM := Lib.hid hm
    clear h h1 h3 g3 g4 e2 hl hn hm
    go_enter Try.func66, Try.ntmps66
    go_upto_region 2 with (fail)
    go_cut [17, 18, 19] from 7 to 20 (fun s x i wx => s = .slice (some ⟨b, off, none⟩) m cap ∧ x = .int .i64 (m : Int) ∧ i = .int .i64 0 ∧ ∃ nn, wx = w.drewN nn)
    case first =>
      by_cases h10 : 10 ≤ n
      · obtain rfl : m = 10 := by have := HM.out; omega
        clear hm1 hm2
        go_quiet (fail)
        go_wp2
        go_meet
        exact ⟨rfl, rfl, rfl, _, rfl⟩
      · obtain rfl : m = n := by have := HM.out; omega
        clear hm1 hm2
        go_quiet (fail)
        go_wp2
        go_meet
        exact ⟨rfl, rfl, rfl, _, rfl⟩
    case rest =>
      obtain ⟨rfl, rfl, rfl, nn, rfl⟩ := hcut
      go_wp2
      go_loopw [4, 19] (fun s i wr => ∃ k : Nat, k ≤ m ∧ i = .int .i64 k ∧ s = .int .u64 (acc l k : Int) ∧ (∀ j (hj : j < k) (hj' : j < l.length), 128 ≤ l[j].toNat) ∧ ∃ nn, wr = w.drewN nn) (fun _ i _ => m - (intOf i).toNat)
      case atStart => exact ⟨0, Nat.zero_le _, rfl, rfl, fun j hj => by omega, nn, rfl⟩
      case round =>
        obtain ⟨k, hk, rfl, rfl, hj, nn, rfl⟩ := hrel
        have HJ := Lib.hid hj
        clear hj
        by_cases hlt : k < m
        · have hkl : k < l.length := by have := HN.out; omega
          obtain ⟨z, hz⟩ : ∃ z, acc l k = z := ⟨_, rfl⟩
          obtain ⟨ch, hc⟩ : ∃ ch, l[k]? = some ch := ⟨_, List.getElem?_eq_getElem hkl⟩
          obtain ⟨x, hx⟩ : ∃ x, ch.toNat = x := ⟨_, rfl⟩
          have ck : w.cell? ⟨b, off + k, none⟩ = some (.int .u8 (x : Int)) := by
            have := G4.out k (bV ch) (by rw [List.getElem?_map, hc]; rfl)
            unfold bV at this
            rw [hx] at this; exact this
          have hx2 : x < 256 := by rw [← hx]; exact ch.toNat_lt
          have hz2 : z < 18446744073709551616 := by rw [← hz]; exact Nat.mod_lt _ (by decide)
          have HX := Lib.hid hx
          have HC := Lib.hid hc
          have HZ := Lib.hid hz
          rw [hz]
          clear hx hz hkl hc
          have hand : bits .and .u8 (x : Int) 127 = ((x % 128 : Nat) : Int) := by
            have := bits_mask .u8 8 (by decide) wraps_u8 7 (by decide) (x : Int) (by omega) (by omega)
            simpa using this
          obtain ⟨y, hy⟩ : ∃ y, acc l (k + 1) = y := ⟨_, rfl⟩
          have hor := acc_step (by omega) HC.out HX.out HZ.out
          rw [hy] at hor
          have HY := Lib.hid hy
          clear hy
          by_cases hx8 : x < 128
          · go_wp2_with (go_at_call 70; refine (isLast_any _ _ _).mono ?_; rintro e w' ⟨rfl, rfl⟩)
            · go_ret2
              obtain rfl := HN.out
              rw [← HY.out]
              exact takeU_stop H.out H1.out H2.out HL.out (by omega) HC.out HX.out hx8 HJ.out (.inr ⟨rfl, by assumption⟩) nn (by omega)
            · go_ret2
              obtain rfl := HN.out
              rw [← HY.out]
              exact takeU_stop H.out H1.out H2.out HL.out (by omega) HC.out HX.out hx8 HJ.out (.inl rfl) nn rfl
          · go_wp2
            go_roundw
            case rel =>
              refine ⟨k + 1, by omega, by go_num, by rw [HY.out], ?_, nn, rfl⟩
              intro j h1 h2
              by_cases e : j = k
              · subst e
                obtain ⟨_, h3⟩ := List.getElem?_eq_some_iff.1 HC.out
                rw [h3, HX.out]; omega
              · exact HJ.out j (by omega) h2
            case measure => simp [intOf]; omega
        · obtain rfl : k = m := by omega
          go_wp2
          go_ret2
          exact takeU_end H1.out HM.out HN.out HJ.out nn

set_option maxHeartbeats 2000000 in
set_option maxRecDepth 100000 in
theorem takeU_none {w : World} {r c : Nat} (h : Rd w r c [] 0) : Calls Try.prog 66 #[.pointer (some ⟨r, 0, none⟩)] w (TakeU w r c []) := by
  obtain ⟨ao, cap, h1, h2, h3⟩ := h.form
  have c0 : w.cell? ⟨r, 0, none⟩ = some (.slice ao 0 cap) := cell_of h1 rfl
  have H1 := Lib.hid h1
  clear h h1 h2 h3
  go_enter Try.func66, Try.ntmps66
  cases ao
  all_goals
    go_wp2
    go_quiet (fail)
    go_wp2
    refine wp_loop_rounds 1 ?_
    rw [rounds_succ]
    go_wp2
    go_ret2
    exact takeU_end H1.out (m := 0) (n := 0) rfl rfl (fun j hj => by omega) _
theorem takeU_any {w : World} {r c : Nat} {l : List UInt8} (h : Rd w r c l 0) : Calls Try.prog 66 #[.pointer (some ⟨r, 0, none⟩)] w (TakeU w r c l) := by
  by_cases hl : l = []
  · subst hl; exact takeU_none h
  · exact takeU_some h hl

end Go.Proofs.Ytdoliejihinpkaa
