import Derived.Test.YtaaeaaahllicbaaCodB
import Derived.Deep.CutRange
import Derived.Laws.BitsAllLaws
import Derived.Laws.BytesArg
import Derived.Laws.IdiomStrings
/- takeUint. -/
namespace Go.Proofs.Ytaaeaaahllicbaa
open Go.RowKit Go.Maps

def TakeU (w : World) (r c : Nat) (l : List UInt8) (e : Ending) (w' : World) : Prop :=
  ∃ (n : Nat) (ok : Bool), n < 18446744073709551616 ∧ e = .returned (.tuple #[.int .u64 (n : Int), .bool ok]) ∧ Moves (fun b => b = r) w w' ∧ (ok = true → ∃ k v, deco l = some (v, k) ∧ n = v ∧ Rd w' r c (l.drop k) 0) ∧ (ok = false → deco l = none ∧ ∃ x, RdC w' r x 0)

def acc (l : List UInt8) (k : Nat) : Nat := val (l.take k) % 18446744073709551616

theorem more_ge : ∀ (l : List UInt8) (k : Nat), k ≤ l.length → (∀ j (hj : j < k) (hj' : j < l.length), 128 ≤ l[j].toNat) → k ≤ more l
  | _, 0, _, _ => Nat.zero_le _
  | [], k + 1, h, _ => by simp at h
  | c :: r, k + 1, h, hj => by
    have h0 := hj 0 (by omega) (by simp)
    simp at h0
    unfold more
    rw [if_neg (by omega)]
    have := more_ge r k (by simpa using h) (fun j h1 h2 => by have := hj (j + 1) (by omega) (by simpa using h2); simpa using this)
    omega
theorem more_at {l : List UInt8} {k : Nat} (hk : k < l.length) (hj : ∀ j (hj : j < k) (hj' : j < l.length), 128 ≤ l[j].toNat) (h : l[k].toNat < 128) : more l = k := by
  have h1 := more_ge l k (by omega) hj
  rcases Nat.lt_or_ge k (more l) with h2 | h2
  · have h3 := (more_all l).1 l[k] (by
      rw [List.mem_take_iff_getElem]
      exact ⟨k, by have := more_le l; omega, rfl⟩)
    omega
  · omega

theorem or_nat {k a d e : Nat} (ha : a < 2 ^ k) (hd : a + 2 ^ k * e < 18446744073709551616) : bits .or .u64 (a : Int) ((2 ^ k * e : Nat) : Int) = ((a + 2 ^ k * e : Nat) : Int) := by
  rw [u64_or_nat _ _ (by omega) (by omega)]
  congr 1
  rw [Nat.or_comm, ← Nat.two_pow_add_eq_or_of_lt ha e]
  omega

theorem acc_step {l : List UInt8} {k x z : Nat} {ch : UInt8} (hk : k < 10) (hc : l[k]? = some ch) (hx : ch.toNat = x) (hz : acc l k = z) : bits .or .u64 (z : Int) (IntKind.u64.wrap ((x : Int) % 128 * 2 ^ (7 * k))) = (acc l (k + 1) : Int) := by
  obtain ⟨hkl, he⟩ := List.getElem?_eq_some_iff.1 hc
  have hv := val_lt (l.take k)
  have hl : (l.take k).length = k := by rw [List.length_take]; omega
  rw [hl] at hv
  have ht : val (l.take (k + 1)) = val (l.take k) + 2 ^ (7 * k) * (x % 128) := by
    rw [List.take_succ_eq_append_getElem hkl, val_append, hl, he]
    simp [val, hx]
  have hw : ∀ n : Nat, IntKind.u64.wrap (n : Int) = ((n % 18446744073709551616 : Nat) : Int) := fun n => by
    simp [IntKind.wrap, IntKind.bits, IntKind.signed]
  have hcast : (x : Int) % 128 * 2 ^ (7 * k) = ((x % 128 * 2 ^ (7 * k) : Nat) : Int) := by simp
  rw [hcast, hw]
  unfold acc at hz ⊢
  rw [ht, ← hz]
  generalize val (l.take k) = a at hv
  generalize hd : x % 128 = d
  have hd2 : d < 128 := by omega
  have h64 : 2 ^ (7 * k) * 2 ^ (64 - 7 * k) = 18446744073709551616 := by rw [← Nat.pow_add, show 7 * k + (64 - 7 * k) = 64 by omega]
  have hp : 0 < 2 ^ (64 - 7 * k) := Nat.pow_pos (by decide)
  have ha : a < 18446744073709551616 := by rw [← h64]; exact Nat.lt_of_lt_of_le hv (Nat.le_mul_of_pos_right _ hp)
  have hr : d * 2 ^ (7 * k) % 18446744073709551616 = 2 ^ (7 * k) * (d % 2 ^ (64 - 7 * k)) := by
    rw [← h64, Nat.mul_comm d, Nat.mul_mod_mul_left]
  have hlt : a + 2 ^ (7 * k) * (d % 2 ^ (64 - 7 * k)) < 18446744073709551616 := by
    have h1 := Nat.mod_lt d hp
    have h2 : 2 ^ (7 * k) * (d % 2 ^ (64 - 7 * k) + 1) ≤ 2 ^ (7 * k) * 2 ^ (64 - 7 * k) := Nat.mul_le_mul_left _ h1
    rw [h64, Nat.mul_add] at h2
    omega
  have hs : (a + 2 ^ (7 * k) * d) % 18446744073709551616 = a + 2 ^ (7 * k) * (d % 2 ^ (64 - 7 * k)) := by
    rw [Nat.mul_comm] at hr
    rw [← Nat.mod_eq_of_lt hlt, ← hr]
    simp
  rw [Nat.mod_eq_of_lt ha, hr, hs]
  exact or_nat (d := d) hv hlt

theorem Src.dropped {w : World} {b off n cap : Nat} {xs : List Value} (h : Src w (.slice (some ⟨b, off, none⟩) n cap) xs) {m : Nat} (hm : m ≤ xs.length) {sa : Option Addr} (hs : sa = some ⟨b, off + m, none⟩ ∨ (sa = some ⟨b, off, none⟩ ∧ cap = m)) : Src w (.slice sa (n - m) (cap - m)) (xs.drop m) := by
  rcases h with ⟨ao', c', e, e2, h5, h6⟩ | ⟨b', off', c, hv, h1, h2, h3, h4⟩
  · cases e
    subst e2
    have : m = 0 := by simpa using hm
    subst this
    refine .inl ⟨sa, cap, rfl, rfl, fun e => ?_, h6⟩
    rcases hs with hs | ⟨hs, _⟩ <;> · rw [hs] at e; cases e
  · cases hv
    rcases hs with rfl | ⟨rfl, rfl⟩
    · refine .inr ⟨b, off + m, cap - m, by rw [List.length_drop], by rw [List.length_drop]; omega, by omega, h3, fun j u hu => ?_⟩
      rw [List.getElem?_drop] at hu
      rw [Nat.add_assoc]; exact h4 _ u hu
    · have he : xs.length = cap := by omega
      refine .inl ⟨_, 0, by rw [he, Nat.sub_self], List.drop_eq_nil_of_le (by omega), (fun e => by cases e), by decide⟩

theorem moves_drewN {F : Nat → Prop} {a w : World} (h : Moves F a w) (n : Nat) : Moves F a (w.drewN n) := ⟨h.os, h.tape, h.output, h.size, h.block⟩

/-- behind so many bytes -/
theorem Rd.behind {w : World} {r c off cap : Nat} {l : List UInt8} (h : Rd w r c l 0) {e : Int} (h1 : RdC w r (.slice (some ⟨c, off, none⟩) l.length cap) 0) (h2 : Src w (.slice (some ⟨c, off, none⟩) l.length cap) (l.map bV)) (hl : l ≠ []) {m : Nat} (hm : m ≤ l.length) {sa : Option Addr} (hs : sa = some ⟨c, off + m, none⟩ ∨ (sa = some ⟨c, off, none⟩ ∧ cap = m)) (nn : Nat) :
    Rd ((w.drewN nn).setCell ⟨r, 0, none⟩ (.slice sa (l.length - m) (cap - m))) r c (l.drop m) 0 ∧ Moves (fun b => b = r) w ((w.drewN nn).setCell ⟨r, 0, none⟩ (.slice sa (l.length - m) (cap - m))) := by
  have hne := h.ne hl
  have hm' : Moves (fun b => b = r) w ((w.drewN nn).setCell ⟨r, 0, none⟩ (.slice sa (l.length - m) (cap - m))) := Moves.setCell (F := fun b => b = r) (moves_drewN (Moves.refl _ _) nn) (fun _ => rfl) _
  have hd := h2.dropped (m := m) (by rw [List.length_map]; exact hm) hs
  rw [← List.map_drop] at hd
  refine ⟨⟨⟨_, heap_set (w := w.drewN nn) h1 _, hd.keep hm'.size (fun _ a n k e => ?_), fun _ a n k e => ?_⟩, fun _ => hne, by have := h.lt; simpa [World.setCell] using this, ?_⟩, hm'⟩
  · cases e
    have : a.block = c := by rcases hs with hs | ⟨hs, _⟩ <;> · injection hs with hs; rw [hs]
    exact hm'.block _ (by rw [this]; exact h.lt) (by rw [this]; exact fun e => hne e.symm)
  · cases e
    rcases hs with hs | ⟨hs, _⟩ <;> · injection hs with hs; rw [hs]
  · have := h.len; rw [List.length_drop]; omega

theorem takeU_stop {w : World} {r c off cap : Nat} {l : List UInt8} (h : Rd w r c l 0) (h1 : RdC w r (.slice (some ⟨c, off, none⟩) l.length cap) 0) (h2 : Src w (.slice (some ⟨c, off, none⟩) l.length cap) (l.map bV)) (hl : l ≠ []) {k x : Nat} {ch : UInt8} (hk : k < 10) (hc : l[k]? = some ch) (hx : ch.toNat = x) (hx8 : x < 128)
    (hj : ∀ j (hj : j < k) (hj' : j < l.length), 128 ≤ l[j].toNat) {sa : Option Addr} (hs : sa = some ⟨c, off + (k + 1), none⟩ ∨ (sa = some ⟨c, off, none⟩ ∧ cap = k + 1)) (nn : Nat) {cp : Nat} (hcp : cp = cap - (k + 1)) :
    TakeU w r c l (.returned (.tuple #[.int .u64 (acc l (k + 1) : Int), .bool (lastB k x)])) ((w.drewN nn).setCell ⟨r, 0, none⟩ (.slice sa (l.length - (k + 1)) cp)) := by
  subst hcp
  obtain ⟨hkl, he⟩ := List.getElem?_eq_some_iff.1 hc
  have hm := more_at hkl hj (by rw [he, hx]; exact hx8)
  obtain ⟨hr, hmv⟩ := h.behind (e := 0) h1 h2 hl (m := k + 1) hkl hs nn
  have hg : (l.getD k 0).toNat = x := by simp [List.getD, hc, hx]
  refine ⟨acc l (k + 1), _, Nat.mod_lt _ (by decide), rfl, hmv, (fun hok => ?_), (fun hok => ⟨?_, .slice sa (l.length - (k + 1)) (cap - (k + 1)), ?_⟩)⟩
  · have hd : deco l = some (val (l.take (k + 1)), k + 1) := by
      unfold deco
      rw [hm, if_pos ⟨hkl, by omega, by rw [hg]; exact hok⟩]
    refine ⟨k + 1, _, hd, ?_, hr⟩
    unfold acc
    rw [Nat.mod_eq_of_lt (deco_some hd).1]
  · unfold deco
    rw [hm, if_neg]
    rintro ⟨_, _, h5⟩
    rw [hg, hok] at h5; cases h5
  · exact heap_set (w := w.drewN nn) h1 _

theorem takeU_end {w : World} {r c : Nat} {l : List UInt8} {v : Value} (h1 : RdC w r v 0) {m n : Nat} (hm : min 10 n = m) (hn : l.length = n) (hj : ∀ j (hj : j < m) (hj' : j < l.length), 128 ≤ l[j].toNat) (nn : Nat) :
    TakeU w r c l (.returned (.tuple #[.int .u64 0, .bool false])) (w.drewN nn) := by
  refine ⟨0, _, by decide, rfl, moves_drewN (Moves.refl _ _) nn, (fun h => by cases h), (fun _ => ⟨?_, v, h1⟩)⟩
  have := more_ge l m (by omega) hj
  unfold deco
  rw [if_neg]
  omega

set_option maxHeartbeats 2000000 in
set_option maxRecDepth 100000 in
theorem takeU_some {w : World} {r c : Nat} {l : List UInt8} (h : Rd w r c l 0) (hl : l ≠ []) : Calls Try.prog 56 #[.pointer (some ⟨r, 0, none⟩)] w (TakeU w r c l) := by
  obtain ⟨ao, cap, h1, h2, h3⟩ := h.form
  have hlen := h.len
  have c0 : w.cell? ⟨r, 0, none⟩ = some (.slice ao l.length cap) := cell_of h1 rfl
  rcases h2 with ⟨_, _, _, hx, _⟩ | ⟨b, off, cap', hv, g1, g2, g3, g4⟩
  · exact absurd (by simpa using hx) hl
  · injection hv with e1 e2 e3
    subst e1; subst e3
    have hbc : b = c := h3 hl _ rfl
    subst hbc
    rw [List.length_map] at g1
    have H := Lib.hid h
    have G4 := Lib.hid g4
    have H1 := Lib.hid h1
    have f0 : w.frozen? ⟨r, 0, none⟩ = false := unfrozen_of h1
    have HL := Lib.hid hl
    have H2 : Hid (Src w (.slice (some ⟨b, off, none⟩) l.length cap) (l.map bV)) := .inr ⟨b, off, cap, by rw [List.length_map], by rw [List.length_map]; exact g1, g2, g3, g4⟩
    obtain ⟨n, hn⟩ : ∃ n, l.length = n := ⟨_, rfl⟩
    obtain ⟨m, hm⟩ : ∃ m, min 10 n = m := ⟨_, rfl⟩
    have hm1 : m ≤ 10 := by omega
    have hm2 : m ≤ n := by omega
    rw [hn] at c0 g1 hlen
    have HN := Lib.hid hn
    have HM := Lib.hid hm
    clear h h1 h3 g3 g4 e2 hl hn hm
    go_enter Try.func56, Try.ntmps56
    go_upto_region 2 with (fail)
    go_cut [17, 18, 19] from 7 to 20 (fun s x i wx => s = .slice (some ⟨b, off, none⟩) m cap ∧ x = .int .i64 (m : Int) ∧ i = .int .i64 0 ∧ ∃ nn, wx = w.drewN nn)
    case first =>
      by_cases h10 : 10 ≤ n
      · obtain rfl : m = 10 := by have := HM.out; omega
        clear hm1 hm2
        go_quiet (fail)
        go_wp2
        go_meet
        exact ⟨rfl, rfl, rfl, _, rfl⟩
      · obtain rfl : m = n := by have := HM.out; omega
        clear hm1 hm2
        go_quiet (fail)
        go_wp2
        go_meet
        exact ⟨rfl, rfl, rfl, _, rfl⟩
    case rest =>
      obtain ⟨rfl, rfl, rfl, nn, rfl⟩ := hcut
      go_wp2
      go_loopw [4, 19] (fun s i wr => ∃ k : Nat, k ≤ m ∧ i = .int .i64 k ∧ s = .int .u64 (acc l k : Int) ∧ (∀ j (hj : j < k) (hj' : j < l.length), 128 ≤ l[j].toNat) ∧ ∃ nn, wr = w.drewN nn) (fun _ i _ => m - (intOf i).toNat)
      case atStart => exact ⟨0, Nat.zero_le _, rfl, rfl, fun j hj => by omega, nn, rfl⟩
      case round =>
        obtain ⟨k, hk, rfl, rfl, hj, nn, rfl⟩ := hrel
        have HJ := Lib.hid hj
        clear hj
        by_cases hlt : k < m
        · have hkl : k < l.length := by have := HN.out; omega
          obtain ⟨z, hz⟩ : ∃ z, acc l k = z := ⟨_, rfl⟩
          obtain ⟨ch, hc⟩ : ∃ ch, l[k]? = some ch := ⟨_, List.getElem?_eq_getElem hkl⟩
          obtain ⟨x, hx⟩ : ∃ x, ch.toNat = x := ⟨_, rfl⟩
          have ck : w.cell? ⟨b, off + k, none⟩ = some (.int .u8 (x : Int)) := by
            have := G4.out k (bV ch) (by rw [List.getElem?_map, hc]; rfl)
            unfold bV at this
            rw [hx] at this; exact this
          have hx2 : x < 256 := by rw [← hx]; exact ch.toNat_lt
          have hz2 : z < 18446744073709551616 := by rw [← hz]; exact Nat.mod_lt _ (by decide)
          have HX := Lib.hid hx
          have HC := Lib.hid hc
          have HZ := Lib.hid hz
          rw [hz]
          clear hx hz hkl hc
          have hand : bits .and .u8 (x : Int) 127 = ((x % 128 : Nat) : Int) := by
            have := bits_mask .u8 8 (by decide) wraps_u8 7 (by decide) (x : Int) (by omega) (by omega)
            simpa using this
          obtain ⟨y, hy⟩ : ∃ y, acc l (k + 1) = y := ⟨_, rfl⟩
          have hor := acc_step (by omega) HC.out HX.out HZ.out
          rw [hy] at hor
          have HY := Lib.hid hy
          clear hy
          by_cases hx8 : x < 128
          · go_wp2_with (go_at_call 59; refine (isLast_any _ _ _).mono ?_; rintro e w' ⟨rfl, rfl⟩)
            · go_ret2
              obtain rfl := HN.out
              rw [← HY.out]
              exact takeU_stop H.out H1.out H2.out HL.out (by omega) HC.out HX.out hx8 HJ.out (.inr ⟨rfl, by assumption⟩) nn (by omega)
            · go_ret2
              obtain rfl := HN.out
              rw [← HY.out]
              exact takeU_stop H.out H1.out H2.out HL.out (by omega) HC.out HX.out hx8 HJ.out (.inl rfl) nn rfl
          · go_wp2
            go_roundw
            case rel =>
              refine ⟨k + 1, by omega, by go_num, by rw [HY.out], ?_, nn, rfl⟩
              intro j h1 h2
              by_cases e : j = k
              · subst e
                obtain ⟨_, h3⟩ := List.getElem?_eq_some_iff.1 HC.out
                rw [h3, HX.out]; omega
              · exact HJ.out j (by omega) h2
            case measure => simp [intOf]; omega
        · obtain rfl : k = m := by omega
          go_wp2
          go_ret2
          exact takeU_end H1.out HM.out HN.out HJ.out nn

set_option maxHeartbeats 2000000 in
set_option maxRecDepth 100000 in
theorem takeU_none {w : World} {r c : Nat} (h : Rd w r c [] 0) : Calls Try.prog 56 #[.pointer (some ⟨r, 0, none⟩)] w (TakeU w r c []) := by
  obtain ⟨ao, cap, h1, h2, h3⟩ := h.form
  have c0 : w.cell? ⟨r, 0, none⟩ = some (.slice ao 0 cap) := cell_of h1 rfl
  have H1 := Lib.hid h1
  clear h h1 h2 h3
  go_enter Try.func56, Try.ntmps56
  cases ao
  all_goals
    go_wp2
    go_quiet (fail)
    go_wp2
    refine wp_loop_rounds 1 ?_
    rw [rounds_succ]
    go_wp2
    go_ret2
    exact takeU_end H1.out (m := 0) (n := 0) rfl rfl (fun j hj => by omega) _
theorem takeU_any {w : World} {r c : Nat} {l : List UInt8} (h : Rd w r c l 0) : Calls Try.prog 56 #[.pointer (some ⟨r, 0, none⟩)] w (TakeU w r c l) := by
  by_cases hl : l = []
  · subst hl; exact takeU_none h
  · exact takeU_some h hl

end Go.Proofs.Ytaaeaaahllicbaa

/- takeInt, takeSize, takeText, takeBytes. -/
namespace Go.Proofs.Ytaaeaaahllicbaa
open Go.RowKit Go.Maps

def TakeR (w : World) (r c : Nat) (l : List UInt8) (D : Option (Value × Nat)) (e : Ending) (w' : World) : Prop :=
  ∃ (v : Value) (ok : Bool), e = .returned (.tuple #[v, .bool ok]) ∧ Moves (fun b => b = r) w w' ∧ (ok = true → ∃ k, D = some (v, k) ∧ Rd w' r c (l.drop k) 0) ∧ (ok = false → D = none ∧ ∃ x, RdC w' r x 0)

def dU (l : List UInt8) : Option (Value × Nat) := (deco l).map fun p => (.int .u64 (p.1 : Int), p.2)
def dI (l : List UInt8) : Option (Value × Nat) := (deco l).map fun p => (.int .i64 (back p.1), p.2)
def sizeD (l : List UInt8) (most : Int) : Option (Nat × Nat) := (deco l).bind fun p => if 0 ≤ most ∧ (p.1 : Int) ≤ most then some p else none
def dS (l : List UInt8) (most : Int) : Option (Value × Nat) := (sizeD l most).map fun p => (.int .i64 (p.1 : Int), p.2)
def textD (l : List UInt8) (most : Int) : Option (List UInt8 × Nat) := (sizeD l most).bind fun p => if p.1 ≤ (l.drop p.2).length then some ((l.drop p.2).take p.1, p.2 + p.1) else none
def dT (l : List UInt8) (most : Int) : Option (Value × Nat) := (textD l most).map fun p => (.string ⟨p.1.toArray⟩, p.2)

theorem takeU_r {w : World} {r c : Nat} {l : List UInt8} (h : Rd w r c l 0) : Calls Try.prog 56 #[.pointer (some ⟨r, 0, none⟩)] w (TakeR w r c l (dU l)) := by
  refine (takeU_any h).mono ?_
  rintro e w' ⟨n, ok, hn, rfl, hm, h1, h2⟩
  refine ⟨_, _, rfl, hm, (fun hok => ?_), (fun hok => ?_)⟩
  · obtain ⟨k, v, hd, rfl, hr⟩ := h1 hok
    exact ⟨k, by unfold dU; rw [hd]; rfl, hr⟩
  · obtain ⟨hd, hx⟩ := h2 hok
    exact ⟨by unfold dU; rw [hd]; rfl, hx⟩

def SizeR (w : World) (r c : Nat) (l : List UInt8) (most : Int) (e : Ending) (w' : World) : Prop :=
  ∃ (n : Nat) (ok : Bool), (n : Int) ≤ 9223372036854775807 ∧ e = .returned (.tuple #[.int .i64 (n : Int), .bool ok]) ∧ Moves (fun b => b = r) w w' ∧ (ok = true → ∃ k, sizeD l most = some (n, k) ∧ Rd w' r c (l.drop k) 0) ∧ (ok = false → sizeD l most = none ∧ ∃ x, RdC w' r x 0)

set_option maxHeartbeats 1000000 in
theorem takeS_any {w : World} {r c : Nat} {l : List UInt8} (h : Rd w r c l 0) (most : Int) (hm1 : -9223372036854775808 ≤ most) (hm2 : most ≤ 9223372036854775807) :
    Calls Try.prog 48 #[.pointer (some ⟨r, 0, none⟩), .int .i64 most] w (SizeR w r c l most) := by
  have H := Lib.hid h
  clear h
  go_enter Try.func48, Try.ntmps48
  go_wp2_with fail
  refine (takeU_any H.out).mono ?_
  rintro e w1 ⟨n, ok, hn, rfl, hm, h1, h2⟩
  have HM := Lib.hid hm; have HH1 := Lib.hid h1; have HH2 := Lib.hid h2
  clear hm h1 h2
  have hn2 : (n : Int) ≤ 18446744073709551615 := by omega
  have hn0 : 0 ≤ (n : Int) := by omega
  cases ok with
  | false =>
    go_wp2
    go_ret2
    refine ⟨0, false, by decide, rfl, HM.out, (fun h => by cases h), (fun _ => ?_)⟩
    obtain ⟨hd, hx⟩ := HH2.out (by simp)
    exact ⟨by unfold sizeD; rw [hd]; rfl, hx⟩
  | true =>
    by_cases hc : 0 ≤ most ∧ (n : Int) ≤ most
    · obtain ⟨ha, hb⟩ := hc
      go_wp2
      go_ret2
      refine ⟨n, true, by omega, rfl, HM.out, (fun _ => ?_), (fun h => by cases h)⟩
      obtain ⟨k, v, hd, rfl, hr⟩ := HH1.out (by simp)
      exact ⟨k, by unfold sizeD; rw [hd]; simp [ha, hb], hr⟩
    · have HC := Lib.hid hc
      by_cases ha : 0 ≤ most
      · have hb : most < (n : Int) := by omega
        clear hc
        go_wp2
        go_ret2
        refine ⟨0, false, by decide, rfl, HM.out, (fun h => by cases h), (fun _ => ?_)⟩
        obtain ⟨k, v, hd, rfl, hr⟩ := HH1.out (by simp)
        obtain ⟨x, hx, _⟩ := hr.ex
        exact ⟨by unfold sizeD; rw [hd]; show (if _ then _ else _) = _; rw [if_neg HC.out], x, hx⟩
      · clear hc
        go_wp2
        go_ret2
        refine ⟨0, false, by decide, rfl, HM.out, (fun h => by cases h), (fun _ => ?_)⟩
        obtain ⟨k, v, hd, rfl, hr⟩ := HH1.out (by simp)
        obtain ⟨x, hx, _⟩ := hr.ex
        exact ⟨by unfold sizeD; rw [hd]; show (if _ then _ else _) = _; rw [if_neg HC.out], x, hx⟩

end Go.Proofs.Ytaaeaaahllicbaa

/- takeText, takeBytes. -/
namespace Go.Proofs.Ytaaeaaahllicbaa
open Go.RowKit Go.Maps

theorem Src.taken {w : World} {ao : Option Addr} {n cap : Nat} {xs : List Value} (h : Src w (.slice ao n cap) xs) {m : Nat} (hm : m ≤ xs.length) : Src w (.slice ao m cap) (xs.take m) := by
  rcases h with ⟨ao', c', e, e2, h5, h6⟩ | ⟨b', off', c, hv, h1, h2, h3, h4⟩
  · cases e
    subst e2
    have : m = 0 := by simpa using hm
    subst this
    exact .inl ⟨ao, cap, rfl, rfl, h5, h6⟩
  · cases hv
    have hl : (xs.take m).length = m := by rw [List.length_take]; omega
    refine .inr ⟨b', off', cap, by rw [hl], by rw [hl]; omega, h2, h3, fun j u hu => ?_⟩
    rw [List.getElem?_take] at hu
    split at hu
    · exact h4 _ u hu
    · cases hu

theorem src_string {w : World} {ao : Option Addr} {n cap : Nat} {bs : List UInt8} (h : Src w (.slice ao n cap) (bs.map bV)) : (convert 23 9 (.slice ao n cap)).run Try.prog w = .ok (.string ⟨bs.toArray⟩) w := by
  rcases h with ⟨ao', c', e, e2, h5, h6⟩ | ⟨b', off', c, hv, h1, h2, h3, h4⟩
  · cases e
    have hb : bs = [] := by simpa using e2
    subst hb
    cases ao with
    | none => exact run_convert_bytes_nil w 23 5 Try.underlying23 Try.underlying5 0 cap _ Try.underlying9
    | some a => exact run_convert_bytes_back w 23 9 5 a cap [] Try.underlying23 Try.underlying5 Try.underlying9 (fun j hj => by simp at hj)
  · cases hv
    rw [List.length_map]
    refine run_convert_bytes_back w 23 9 5 ⟨b', off', none⟩ cap bs Try.underlying23 Try.underlying5 Try.underlying9 (fun j hj => ?_)
    rw [addOff]
    exact h4 j _ (by rw [List.getElem?_map, List.getElem?_eq_getElem hj]; rfl)

theorem Rd.behind1 {w : World} {r c off cap : Nat} {l : List UInt8} (h : Rd w r c l 0) (h1 : RdC w r (.slice (some ⟨c, off, none⟩) l.length cap) 0) (h2 : Src w (.slice (some ⟨c, off, none⟩) l.length cap) (l.map bV)) (hl : l ≠ []) {m : Nat} (hm : m ≤ l.length) {sa : Option Addr} (hs : sa = some ⟨c, off + m, none⟩ ∨ (sa = some ⟨c, off, none⟩ ∧ cap = m)) {ln cp : Nat} (hln : ln = l.length - m) (hcp : cp = cap - m) :
    Rd (w.setCell ⟨r, 0, none⟩ (.slice sa ln cp)) r c (l.drop m) 0 ∧ Moves (fun b => b = r) w (w.setCell ⟨r, 0, none⟩ (.slice sa ln cp)) := by
  subst hln; subst hcp
  have := h.behind (e := 0) h1 h2 hl hm hs 0
  have e : w.drewN 0 = w := by unfold World.drewN; rfl
  rw [e] at this
  exact this

/-- nothing is left, as before -/
theorem Rd.behind0 {w : World} {r c : Nat} {v : Value} (h : Rd w r c [] 0) (h1 : RdC w r v 0) {sa : Option Addr} {cp : Nat} (h2 : sa = none → cp = 0) (h3 : (cp : Int) ≤ 9223372036854775807) :
    Rd (w.setCell ⟨r, 0, none⟩ (.slice sa 0 cp)) r c [] 0 ∧ Moves (fun b => b = r) w (w.setCell ⟨r, 0, none⟩ (.slice sa 0 cp)) := by
  have hm' : Moves (fun b => b = r) w (w.setCell ⟨r, 0, none⟩ (.slice sa 0 cp)) := Moves.setCell (F := fun b => b = r) (Moves.refl _ _) (fun _ => rfl) _
  exact ⟨⟨⟨_, heap_set h1 _, .inl ⟨_, _, rfl, rfl, h2, h3⟩, fun h => absurd rfl h⟩, fun h => absurd rfl h, by have := h.lt; simpa [World.setCell] using this, by simp⟩, hm'⟩

theorem sizeD_le {l : List UInt8} {most : Int} {n k : Nat} (h : sizeD l most = some (n, k)) : k ≤ l.length := by
  unfold sizeD at h
  cases hd : deco l with
  | none => rw [hd] at h; cases h
  | some p =>
    rw [hd] at h
    simp only [Option.bind_some] at h
    split at h
    · injection h with h
      subst h
      exact (deco_some hd).2.2.1
    · cases h

theorem dT_some {l : List UInt8} {most : Int} {n k : Nat} (h : sizeD l most = some (n, k)) (hn : n ≤ (l.drop k).length) : dT l most = some (.string ⟨((l.drop k).take n).toArray⟩, k + n) := by
  unfold dT textD
  rw [h]
  simp only [Option.bind_some]
  rw [if_pos hn]; rfl
theorem dT_none {l : List UInt8} {most : Int} (h : sizeD l most = none) : dT l most = none := by
  unfold dT textD; rw [h]; rfl
theorem dT_long {l : List UInt8} {most : Int} {n k : Nat} (h : sizeD l most = some (n, k)) (hn : (l.drop k).length < n) : dT l most = none := by
  unfold dT textD
  rw [h]
  simp only [Option.bind_some]
  rw [if_neg (by omega)]; rfl

end Go.Proofs.Ytaaeaaahllicbaa

/- takeBytes; what a call that takes does, in one form. -/
namespace Go.Proofs.Ytaaeaaahllicbaa
open Go.RowKit Go.Maps

def TakeG (w : World) (r c : Nat) (l : List UInt8) (Q : World → Value → Nat → Prop) (N : Prop) (e : Ending) (w' : World) : Prop :=
  ∃ (v : Value) (ok : Bool), e = .returned (.tuple #[v, .bool ok]) ∧ Moves (fun b => b = r) w w' ∧ (ok = true → ∃ k, Q w' v k ∧ Rd w' r c (l.drop k) 0) ∧ (ok = false → N ∧ ∃ x, RdC w' r x 0)
def QD (D : Option (Value × Nat)) (_ : World) (v : Value) (k : Nat) : Prop := D = some (v, k)
theorem takeG_of {w w' : World} {r c : Nat} {l : List UInt8} {D : Option (Value × Nat)} {e : Ending} (h : TakeR w r c l D e w') : TakeG w r c l (QD D) (D = none) e w' := h

def BytesOk (l : List UInt8) (n : Int) : Prop := 0 ≤ n ∧ n ≤ (l.length : Int)
def QB (w : World) (l : List UInt8) (n : Int) (w' : World) (v : Value) (k : Nat) : Prop := BytesOk l n ∧ (k : Int) = n ∧ w'.ownsRow w.heap.size 5 1 v k ((l.take k).map bV)

theorem Rd.below {w w' : World} {r c : Nat} {l : List UInt8} {e : Int} (h : Rd w r c l e) (hb : BW w w') : Rd w' r c l e :=
  h.keep hb.size (hb.block r h.ltr) (fun hc => hb.block c hc)
theorem rdc_below {w w' : World} {r : Nat} {v : Value} {e : Int} (h : RdC w r v e) (hb : BW w w') : RdC w' r v e := (hb.block r (lt_of_heap h)).trans h

theorem row_set {w w2 : World} {n r : Nat} {v u : Value} {xs : List Value} (h : w2.ownsRow w.heap.size 5 1 v n xs) (hr : r < w.heap.size) : (w2.setCell ⟨r, 0, none⟩ u).ownsRow w.heap.size 5 1 v n xs :=
  row_keep h fun a n c e => Below.heap_setCell _ _ _ _ (by have := row_base' h a n c e; intro e2; rw [e2] at this; exact absurd hr (Nat.not_lt.2 this))

set_option maxHeartbeats 2000000 in
set_option maxRecDepth 100000 in
theorem takeB_r {w : World} {r c : Nat} {l : List UInt8} (h : Rd w r c l 0) (n : Int) (hm1 : -9223372036854775808 ≤ n) (hm2 : n ≤ 9223372036854775807) :
    Calls Try.prog 50 #[.pointer (some ⟨r, 0, none⟩), .int .i64 n] w (TakeG w r c l (QB w l n) (¬ BytesOk l n)) := by
  obtain ⟨ao, cap, g1, g2, g3⟩ := h.form
  have c0 : w.cell? ⟨r, 0, none⟩ = some (.slice ao l.length cap) := cell_of g1 rfl
  have f0 : w.frozen? ⟨r, 0, none⟩ = false := unfrozen_of g1
  have hlen := h.len
  have H := Lib.hid h
  have G1 := Lib.hid g1; have G2 := Lib.hid g2; have G3 := Lib.hid g3
  have HLT := Lib.hid h.ltr
  obtain ⟨ln, hln⟩ : ∃ ln, l.length = ln := ⟨_, rfl⟩
  have HLN := Lib.hid hln
  rw [hln] at c0 hlen
  clear h g1 g2 g3 hln
  by_cases hc : 0 ≤ n ∧ n ≤ (ln : Int)
  · obtain ⟨ha, hb⟩ := hc
    obtain ⟨m, rfl⟩ := Int.eq_ofNat_of_zero_le ha
    have hml : m ≤ ln := by omega
    have HOK : Hid (BytesOk l (m : Int)) := ⟨ha, by rw [HLN.out]; exact hb⟩
    have hsrc : Src w (.slice ao m cap) ((l.take m).map bV) := by rw [List.map_take]; exact G2.out.taken (by rw [List.length_map, HLN.out]; exact hml)
    have hm64 : ((l.take m).length : Int) ≤ 140737488351232 := by rw [List.length_take, HLN.out]; omega
    have HCL := Lib.hid (cloneb_any hsrc hm64)
    have HTL : Hid ((l.take m).length = m) := by unfold Hid; rw [List.length_take, HLN.out]; omega
    clear hsrc hm64 hm1 hm2 ha hb
    by_cases hnil : l = []
    · have hz : ln = 0 := by rw [← HLN.out, hnil]; rfl
      subst hz
      obtain rfl : m = 0 := by omega
      have hcz : (ao = none → cap = 0) ∧ (cap : Int) ≤ 9223372036854775807 := by
        rcases G2.out with ⟨ao', c', e, e2, h5, h6⟩ | ⟨b', off', c', hv, h1, h2, h3, h4⟩
        · injection e with e1 _ e3; subst e1; subst e3; exact ⟨h5, h6⟩
        · injection hv with e1 _ e3; subst e1; subst e3; exact ⟨(fun e => by cases e), h2⟩
      obtain ⟨hc1, hc2⟩ := hcz
      subst hnil
      have HC1 := Lib.hid hc1
      clear hc1
      cases ao with
      | none =>
        obtain rfl := HC1.out rfl
        go_enter Try.func50, Try.ntmps50
        go_wp2_with fail
        refine HCL.out.mono ?_
        rintro e w2 ⟨v, rfl, hrow, hbl⟩
        have HROW := Lib.hid hrow; have HBL := Lib.hid hbl
        have d0 : w2.cell? ⟨r, 0, none⟩ = some (.slice none 0 0) := cell_of (rdc_below G1.out hbl) rfl
        have e0 : w2.frozen? ⟨r, 0, none⟩ = false := unfrozen_of (rdc_below G1.out hbl)
        clear hrow hbl c0 f0
        go_wp2
        go_ret2
        obtain ⟨q1, q2⟩ := (H.out.below HBL.out).behind0 (rdc_below G1.out HBL.out) (sa := none) (cp := 0) (fun _ => rfl) (by decide)
        exact ⟨_, _, rfl, (Moves.of_below HBL.out _).trans q2 (fun _ _ e => e), (fun _ => ⟨0, ⟨HOK.out, rfl, row_set HROW.out HLT.out⟩, q1⟩), (fun h => by cases h)⟩
      | some a =>
        go_enter Try.func50, Try.ntmps50
        go_wp2_with fail
        refine HCL.out.mono ?_
        rintro e w2 ⟨v, rfl, hrow, hbl⟩
        have HROW := Lib.hid hrow; have HBL := Lib.hid hbl
        have d0 : w2.cell? ⟨r, 0, none⟩ = some (.slice (some a) 0 cap) := cell_of (rdc_below G1.out hbl) rfl
        have e0 : w2.frozen? ⟨r, 0, none⟩ = false := unfrozen_of (rdc_below G1.out hbl)
        clear hrow hbl c0 f0
        go_wp2
        all_goals
          go_ret2
          have q := fun x hx => (H.out.below HBL.out).behind0 (rdc_below G1.out HBL.out) (sa := some x) (cp := cap) (fun e => by cases e) hx
          exact ⟨_, _, rfl, (Moves.of_below HBL.out _).trans (q _ (by omega)).2 (fun _ _ e => e), (fun _ => ⟨0, ⟨HOK.out, rfl, row_set HROW.out HLT.out⟩, (q _ (by omega)).1⟩), (fun h => by cases h)⟩
    · rcases G2.out with ⟨_, _, _, hx, _⟩ | ⟨b, off, cap', hv, q1, q2, q3, q4⟩
      · exact absurd (by simpa using hx) hnil
      · injection hv with e1 e2 e3
        subst e1; subst e3
        obtain rfl : b = c := G3.out hnil _ rfl
        have HNIL := Lib.hid hnil
        have hcap : ln ≤ cap := by rw [List.length_map, HLN.out] at q1; exact q1
        clear e2 q1 q3 q4 hnil
        have hnc : m ≤ cap := by omega
        go_enter Try.func50, Try.ntmps50
        go_wp2_with fail
        refine HCL.out.mono ?_
        rintro e w2 ⟨v, rfl, hrow, hbl⟩
        rw [HTL.out] at hrow
        have HROW := Lib.hid hrow; have HBL := Lib.hid hbl
        have d0 : w2.cell? ⟨r, 0, none⟩ = some (.slice (some ⟨b, off, none⟩) ln cap) := by rw [← HLN.out]; exact cell_of (rdc_below G1.out hbl) rfl
        have e0 : w2.frozen? ⟨r, 0, none⟩ = false := unfrozen_of (rdc_below G1.out hbl)
        have Q : ∀ (sa : Option Addr) (l1 cp : Nat), (sa = some ⟨b, off + m, none⟩ ∨ (sa = some ⟨b, off, none⟩ ∧ cap = m)) → l1 = ln - m → cp = cap - m → _ := fun sa l1 cp hs h1 h2 => (H.out.below hbl).behind1 (rdc_below G1.out hbl) (G2.out.below hbl) HNIL.out (m := m) (by rw [HLN.out]; exact hml) hs (ln := l1) (cp := cp) (by rw [HLN.out]; exact h1) h2
        have HQ := Lib.hid Q
        clear hrow hbl c0 f0 Q
        go_wp2
        · go_ret2
          exact ⟨_, _, rfl, (Moves.of_below HBL.out _).trans (HQ.out _ _ _ (.inr ⟨rfl, by assumption⟩) rfl (by omega)).2 (fun _ _ e => e), (fun _ => ⟨m, ⟨HOK.out, rfl, row_set HROW.out HLT.out⟩, (HQ.out _ _ _ (.inr ⟨rfl, by assumption⟩) rfl (by omega)).1⟩), (fun h => by cases h)⟩
        · go_ret2
          exact ⟨_, _, rfl, (Moves.of_below HBL.out _).trans (HQ.out _ _ _ (.inl rfl) rfl (by omega)).2 (fun _ _ e => e), (fun _ => ⟨m, ⟨HOK.out, rfl, row_set HROW.out HLT.out⟩, (HQ.out _ _ _ (.inl rfl) rfl (by omega)).1⟩), (fun h => by cases h)⟩
  · have HNO : Hid (¬ BytesOk l n) := by unfold Hid BytesOk; rw [HLN.out]; exact hc
    by_cases ha : 0 ≤ n
    · have hb : (ln : Int) < n := by omega
      clear hc
      go_enter Try.func50, Try.ntmps50
      go_wp2
      go_ret2
      exact ⟨_, _, rfl, Moves.refl _ _, (fun h => by cases h), (fun _ => ⟨HNO.out, _, G1.out⟩)⟩
    · clear hc
      go_wp2
      go_ret2
      exact ⟨_, _, rfl, Moves.refl _ _, (fun h => by cases h), (fun _ => ⟨HNO.out, _, G1.out⟩)⟩

end Go.Proofs.Ytaaeaaahllicbaa

/- read, for each kind of answer. -/
namespace Go.Proofs.Ytaaeaaahllicbaa
open Go.RowKit Go.Maps

def ReadG (w : World) (r c : Nat) (l : List UInt8) (z : Value) (Q : World → Value → Nat → Prop) (N : Prop) (e : Ending) (w' : World) : Prop :=
  ∃ v, e = .returned v ∧ Moves (fun b => b = r) w w' ∧ ((∃ k, Q w' v k ∧ Rd w' r c (l.drop k) 0) ∨ (N ∧ v = z ∧ Rd w' r c l 20))

/-- put back to where it was -/
theorem Rd.back {w w1 : World} {r c : Nat} {l : List UInt8} {x : Value} {ao : Option Addr} {cap : Nat} (h : Rd w r c l 0) (g1 : RdC w r (.slice ao l.length cap) 0) (g2 : Src w (.slice ao l.length cap) (l.map bV)) (g3 : l ≠ [] → ∀ a, ao = some a → a.block = c)
    (hm : Moves (fun b => b = r) w w1) (hx : RdC w1 r x 0) {ln : Nat} (hln : l.length = ln) :
    Rd ((w1.setCell ⟨r, 0, none⟩ (.slice ao ln cap)).setCell ⟨r, 1, none⟩ (.int .i64 20)) r c l 20 ∧ Moves (fun b => b = r) w ((w1.setCell ⟨r, 0, none⟩ (.slice ao ln cap)).setCell ⟨r, 1, none⟩ (.int .i64 20)) := by
  subst hln
  have hm' : Moves (fun b => b = r) w ((w1.setCell ⟨r, 0, none⟩ (.slice ao l.length cap)).setCell ⟨r, 1, none⟩ (.int .i64 20)) := Moves.setCell (F := fun b => b = r) (Moves.setCell (F := fun b => b = r) hm (fun _ => rfl) _) (fun _ => rfl) _
  have h1 : (w1.setCell ⟨r, 0, none⟩ (.slice ao l.length cap)).heap[r]? = some (.cells #[.slice ao l.length cap, .int .i64 0] 76 (0, 0)) := heap_set hx _
  have h2 : RdC ((w1.setCell ⟨r, 0, none⟩ (.slice ao l.length cap)).setCell ⟨r, 1, none⟩ (.int .i64 20)) r (.slice ao l.length cap) 20 := heap_set h1 _
  refine ⟨⟨⟨_, h2, g2.keep hm'.size ?_, ?_⟩, h.ne, Nat.lt_of_lt_of_le h.lt hm'.size, h.len⟩, hm'⟩
  · intro hne a n k e
    have hl : l ≠ [] := by rintro rfl; exact hne rfl
    cases e
    have hb := g3 hl a rfl
    exact hm'.block _ (by rw [hb]; exact h.lt) (by rw [hb]; exact fun e => h.ne hl e.symm)
  · intro hl a n k e
    cases e
    exact g3 hl a rfl

set_option maxHeartbeats 1000000 in
theorem read_B {w : World} {r c : Nat} {l : List UInt8} {Q : World → Value → Nat → Prop} {N : Prop} (h : Rd w r c l 0) {b4 b5 : Nat} (hc : Calls Try.prog 58 #[.pointer (some ⟨b4, 0, none⟩), .pointer (some ⟨b5, 0, none⟩)] w (TakeG w r c l Q N)) :
    Calls Try.prog 57 #[.pointer (some ⟨r, 0, none⟩), .func (.func 58) #[] #[.pointer (some ⟨b4, 0, none⟩), .pointer (some ⟨b5, 0, none⟩)]] w (ReadG w r c l (.slice none 0 0) Q N) := by
  obtain ⟨ao, cap, g1, g2, g3⟩ := h.form
  have c0 : w.cell? ⟨r, 0, none⟩ = some (.slice ao l.length cap) := cell_of g1 rfl
  have H := Lib.hid h
  have G1 := Lib.hid g1; have G2 := Lib.hid g2; have G3 := Lib.hid g3; have HC := Lib.hid hc
  obtain ⟨ln, hln⟩ : ∃ ln, l.length = ln := ⟨_, rfl⟩
  have HLN := Lib.hid hln
  rw [hln] at c0
  clear h g1 g2 g3 hc hln
  go_enter Try.func57, Try.ntmps57
  go_wp2_with fail
  refine (err_c G1.out).mono ?_
  rintro e w' ⟨rfl, rfl⟩
  go_wp2_with fail
  refine HC.out.mono ?_
  rintro e w1 ⟨v, ok, rfl, hm, h1, h2⟩
  have HM := Lib.hid hm; have HH1 := Lib.hid h1; have HH2 := Lib.hid h2
  clear hm h1 h2 HC c0
  cases ok with
  | true =>
    go_wp2
    go_ret
    exact ⟨_, rfl, HM.out, .inl (HH1.out (by simp))⟩
  | false =>
    obtain ⟨hN, x, hx⟩ := HH2.out rfl
    have HX := Lib.hid hx; have HNN := Lib.hid hN
    have d0 : w1.cell? ⟨r, 0, none⟩ = some x := cell_of hx rfl
    have d1 : w1.cell? ⟨r, 1, none⟩ = some (.int .i64 0) := cell_of hx rfl
    have f0 : w1.frozen? ⟨r, 0, none⟩ = false := unfrozen_of hx
    have f1 : w1.frozen? ⟨r, 1, none⟩ = false := unfrozen_of hx
    clear hx hN HH1 HH2
    go_wp2
    go_ret
    exact ⟨_, rfl, (H.out.back G1.out G2.out G3.out HM.out HX.out HLN.out).2, .inr ⟨HNN.out, rfl, (H.out.back G1.out G2.out G3.out HM.out HX.out HLN.out).1⟩⟩
set_option maxHeartbeats 1000000 in
theorem read_B_bad {w : World} {r : Nat} {v fv : Value} {e : Int} (h : RdC w r v e) (he : (e != 0) = true) :
    Calls Try.prog 57 #[.pointer (some ⟨r, 0, none⟩), fv] w fun en w' => en = .returned (.slice none 0 0) ∧ w = w' := by
  have H := Lib.hid h
  clear h
  go_enter Try.func57, Try.ntmps57
  go_wp2_with fail
  refine (err_c H.out).mono ?_
  rintro en w' ⟨rfl, rfl⟩
  go_wp2
  go_ret
  exact ⟨rfl, rfl⟩
set_option maxHeartbeats 1000000 in
theorem read_B_nil {w : World} {fv : Value} :
    Calls Try.prog 57 #[.pointer none, fv] w fun en w' => en = .returned (.slice none 0 0) ∧ w = w' := by
  go_enter Try.func57, Try.ntmps57
  go_wp2_with fail
  refine (err_nil _).mono ?_
  rintro en w' ⟨rfl, rfl⟩
  go_wp2
  go_ret
  exact ⟨rfl, rfl⟩

set_option maxHeartbeats 1000000 in
theorem read_S {w : World} {r c : Nat} {l : List UInt8} {Q : World → Value → Nat → Prop} {N : Prop} (h : Rd w r c l 0) {b4 b5 : Nat} (hc : Calls Try.prog 55 #[.pointer (some ⟨b4, 0, none⟩), .pointer (some ⟨b5, 0, none⟩)] w (TakeG w r c l Q N)) :
    Calls Try.prog 54 #[.pointer (some ⟨r, 0, none⟩), .func (.func 55) #[] #[.pointer (some ⟨b4, 0, none⟩), .pointer (some ⟨b5, 0, none⟩)]] w (ReadG w r c l (.int .i64 0) Q N) := by
  obtain ⟨ao, cap, g1, g2, g3⟩ := h.form
  have c0 : w.cell? ⟨r, 0, none⟩ = some (.slice ao l.length cap) := cell_of g1 rfl
  have H := Lib.hid h
  have G1 := Lib.hid g1; have G2 := Lib.hid g2; have G3 := Lib.hid g3; have HC := Lib.hid hc
  obtain ⟨ln, hln⟩ : ∃ ln, l.length = ln := ⟨_, rfl⟩
  have HLN := Lib.hid hln
  rw [hln] at c0
  clear h g1 g2 g3 hc hln
  go_enter Try.func54, Try.ntmps54
  go_wp2_with fail
  refine (err_c G1.out).mono ?_
  rintro e w' ⟨rfl, rfl⟩
  go_wp2_with fail
  refine HC.out.mono ?_
  rintro e w1 ⟨v, ok, rfl, hm, h1, h2⟩
  have HM := Lib.hid hm; have HH1 := Lib.hid h1; have HH2 := Lib.hid h2
  clear hm h1 h2 HC c0
  cases ok with
  | true =>
    go_wp2
    go_ret
    exact ⟨_, rfl, HM.out, .inl (HH1.out (by simp))⟩
  | false =>
    obtain ⟨hN, x, hx⟩ := HH2.out rfl
    have HX := Lib.hid hx; have HNN := Lib.hid hN
    have d0 : w1.cell? ⟨r, 0, none⟩ = some x := cell_of hx rfl
    have d1 : w1.cell? ⟨r, 1, none⟩ = some (.int .i64 0) := cell_of hx rfl
    have f0 : w1.frozen? ⟨r, 0, none⟩ = false := unfrozen_of hx
    have f1 : w1.frozen? ⟨r, 1, none⟩ = false := unfrozen_of hx
    clear hx hN HH1 HH2
    go_wp2
    go_ret
    exact ⟨_, rfl, (H.out.back G1.out G2.out G3.out HM.out HX.out HLN.out).2, .inr ⟨HNN.out, rfl, (H.out.back G1.out G2.out G3.out HM.out HX.out HLN.out).1⟩⟩
set_option maxHeartbeats 1000000 in
theorem read_S_bad {w : World} {r : Nat} {v fv : Value} {e : Int} (h : RdC w r v e) (he : (e != 0) = true) :
    Calls Try.prog 54 #[.pointer (some ⟨r, 0, none⟩), fv] w fun en w' => en = .returned (.int .i64 0) ∧ w = w' := by
  have H := Lib.hid h
  clear h
  go_enter Try.func54, Try.ntmps54
  go_wp2_with fail
  refine (err_c H.out).mono ?_
  rintro en w' ⟨rfl, rfl⟩
  go_wp2
  go_ret
  exact ⟨rfl, rfl⟩
set_option maxHeartbeats 1000000 in
theorem read_S_nil {w : World} {fv : Value} :
    Calls Try.prog 54 #[.pointer none, fv] w fun en w' => en = .returned (.int .i64 0) ∧ w = w' := by
  go_enter Try.func54, Try.ntmps54
  go_wp2_with fail
  refine (err_nil _).mono ?_
  rintro en w' ⟨rfl, rfl⟩
  go_wp2
  go_ret
  exact ⟨rfl, rfl⟩

end Go.Proofs.Ytaaeaaahllicbaa

/- The reader's calls. -/
namespace Go.Proofs.Ytaaeaaahllicbaa
open Go.RowKit Go.Maps

theorem ReadG.mono {w W w' : World} {r c : Nat} {l : List UInt8} {z : Value} {Q Q' : World → Value → Nat → Prop} {N : Prop} {e : Ending} (h : ReadG W r c l z Q N e w') (hb : BW w W) (hq : ∀ v k, Q w' v k → Q' w' v k) : ReadG w r c l z Q' N e w' := by
  obtain ⟨v, rfl, hm, h1⟩ := h
  refine ⟨v, rfl, (Moves.of_below hb _).trans hm (fun _ _ e => e), ?_⟩
  rcases h1 with ⟨k, h2, h3⟩ | h2
  · exact .inl ⟨k, hq v k h2, h3⟩
  · exact .inr h2
theorem takeS_r {w : World} {r c : Nat} {l : List UInt8} (h : Rd w r c l 0) (most : Int) (hm1 : -9223372036854775808 ≤ most) (hm2 : most ≤ 9223372036854775807) :
    Calls Try.prog 48 #[.pointer (some ⟨r, 0, none⟩), .int .i64 most] w (TakeG w r c l (QD (dS l most)) (dS l most = none)) := by
  refine (takeS_any h most hm1 hm2).mono ?_
  rintro e w' ⟨n, ok, _, rfl, hm, h1, h2⟩
  refine ⟨_, _, rfl, hm, (fun hok => ?_), (fun hok => ?_)⟩
  · obtain ⟨k, hd, hr⟩ := h1 hok
    exact ⟨k, by unfold QD dS; rw [hd]; rfl, hr⟩
  · obtain ⟨hd, hx⟩ := h2 hok
    exact ⟨by unfold dS; rw [hd]; rfl, hx⟩
theorem qb_mono {w W w' : World} {l : List UInt8} {n : Int} (hb : BW w W) (v : Value) (k : Nat) (h : QB W l n w' v k) : QB w l n w' v k := ⟨h.1, h.2.1, row_base h.2.2 hb.size⟩
theorem one_box (w : World) (v : Value) (t : TypeId) (o : Obj) : ((w.alloc (.cells #[v] t)).alloc o).heap[w.heap.size]? = some (.cells #[v] t (0, 0)) := by
  rw [Below.heap_alloc _ _ _ (by simp)]; exact heap_new _ _

end Go.Proofs.Ytaaeaaahllicbaa

/- The reader's calls: Text. -/
namespace Go.Proofs.Ytaaeaaahllicbaa
open Go.RowKit Go.Maps

end Go.Proofs.Ytaaeaaahllicbaa

/- The reader's calls: Bytes. -/
namespace Go.Proofs.Ytaaeaaahllicbaa
open Go.RowKit Go.Maps

set_option maxHeartbeats 1000000 in
theorem clo_B {w : World} {r c b4 b5 : Nat} {l : List UInt8} {n : Int} {t4 t5 : TypeId} {Q : World → Value → Nat → Prop} {N : Prop} (h4 : w.heap[b4]? = some (.cells #[.func (.func 50) #[.pointer (some ⟨r, 0, none⟩)] #[]] t4 (0, 0))) (h5 : w.heap[b5]? = some (.cells #[.int .i64 n] t5 (0, 0)))
    (hc : Calls Try.prog 50 #[.pointer (some ⟨r, 0, none⟩), .int .i64 n] w (TakeG w r c l Q N)) :
    Calls Try.prog 58 #[.pointer (some ⟨b4, 0, none⟩), .pointer (some ⟨b5, 0, none⟩)] w (TakeG w r c l Q N) := by
  have HC := Lib.hid hc
  have c4 : w.cell? ⟨b4, 0, none⟩ = some (.func (.func 50) #[.pointer (some ⟨r, 0, none⟩)] #[]) := cell_of h4 rfl
  have c5 : w.cell? ⟨b5, 0, none⟩ = some (.int .i64 n) := cell_of h5 rfl
  clear h4 h5 hc
  go_enter Try.func58, Try.ntmps58
  go_wp2_with fail
  refine HC.out.mono ?_
  rintro e w1 ⟨v, ok, rfl, hh⟩
  have HH := Lib.hid hh
  clear hh HC c4 c5
  go_wp2
  go_ret2
  exact ⟨v, ok, rfl, HH.out⟩
set_option maxHeartbeats 1000000 in
theorem upto_B {w : World} {r c : Nat} {l : List UInt8} (h : Rd w r c l 0) (n : Int) (hm1 : -9223372036854775808 ≤ n) (hm2 : n ≤ 9223372036854775807) :
    Calls Try.prog 49 #[.pointer (some ⟨r, 0, none⟩), .func (.func 50) #[.pointer (some ⟨r, 0, none⟩)] #[], .int .i64 n] w (ReadG w r c l (.slice none 0 0) (QB w l n) (¬ BytesOk l n)) := by
  have H := Lib.hid h
  have HM1 := Lib.hid hm1; have HM2 := Lib.hid hm2
  clear h hm1 hm2
  go_enter Try.func49, Try.ntmps49
  go_wp2_with fail
  refine (read_B ((H.out.below (bw_alloc _ _)).below (bw_alloc _ _)) (clo_B (one_box _ _ _ _) (by have := heap_new (w.alloc (.cells #[.func (.func 50) #[.pointer (some ⟨r, 0, none⟩)] #[]] 80)) (.cells #[.int .i64 n] 3); simpa using this) (takeB_r ((H.out.below (bw_alloc _ _)).below (bw_alloc _ _)) n HM1.out HM2.out))).mono ?_
  rintro e w1 hh
  have hh' := ReadG.mono (Q' := QB w l n) hh ((bw_alloc w _).alloc _) (qb_mono ((bw_alloc w _).alloc _))
  obtain ⟨v, rfl, hh2⟩ := hh'
  have HH := Lib.hid hh2
  clear hh hh2
  go_wp2
  go_ret
  exact ⟨v, rfl, HH.out⟩
set_option maxHeartbeats 1000000 in
theorem upto_B_bad {w : World} {r : Nat} {v fv : Value} {f : Nat} {e n : Int} (h : RdC w r v e) (he : (e != 0) = true) :
    Calls Try.prog 49 #[.pointer (some ⟨r, 0, none⟩), .func (.func f) #[.pointer (some ⟨r, 0, none⟩)] #[], .int .i64 n] w fun en w' => en = .returned (.slice none 0 0) ∧ BW w w' := by
  have H := Lib.hid h
  have HE := Lib.hid he
  clear h he
  go_enter Try.func49, Try.ntmps49
  go_wp2_with fail
  refine (read_B_bad (rdc_below (rdc_below H.out (bw_alloc _ _)) (bw_alloc _ _)) HE.out).mono ?_
  rintro en w' ⟨rfl, rfl⟩
  go_wp2
  go_ret
  exact ⟨rfl, (bw_alloc w _).alloc _⟩
set_option maxHeartbeats 1000000 in
theorem upto_B_nil {w : World} {fv : Value} {f : Nat} {n : Int} {a : Array Value} :
    Calls Try.prog 49 #[.pointer none, .func (.func f) a #[], .int .i64 n] w fun en w' => en = .returned (.slice none 0 0) ∧ BW w w' := by
  go_enter Try.func49, Try.ntmps49
  go_wp2_with fail
  refine (read_B_nil).mono ?_
  rintro en w' ⟨rfl, rfl⟩
  go_wp2
  go_ret
  exact ⟨rfl, (bw_alloc w _).alloc _⟩

set_option maxHeartbeats 1000000 in
theorem call_B {w : World} {r c : Nat} {l : List UInt8} (h : Rd w r c l 0) (n : Int) (hm1 : -9223372036854775808 ≤ n) (hm2 : n ≤ 9223372036854775807) :
    Calls Try.prog 41 #[.pointer (some ⟨r, 0, none⟩), .int .i64 n] w (ReadG w r c l (.slice none 0 0) (QB w l n) (¬ BytesOk l n)) := by
  have H := Lib.hid (upto_B h n hm1 hm2)
  clear h hm1 hm2
  go_enter Try.func41, Try.ntmps41
  go_wp2_with fail
  refine H.out.mono ?_
  rintro e w1 ⟨v, rfl, hh⟩
  have HH := Lib.hid hh
  clear hh
  go_wp2
  go_ret
  exact ⟨v, rfl, HH.out⟩
set_option maxHeartbeats 1000000 in
theorem call_B_bad {w : World} {r : Nat} {v : Value} {e : Int} (h : RdC w r v e) (he : (e != 0) = true) (n : Int) :
    Calls Try.prog 41 #[.pointer (some ⟨r, 0, none⟩), .int .i64 n] w fun en w' => en = .returned (.slice none 0 0) ∧ BW w w' := by
  have H := Lib.hid h
  have HE := Lib.hid he
  clear h he
  go_enter Try.func41, Try.ntmps41
  go_wp2_with fail
  refine (upto_B_bad (fv := .nilFunc) H.out HE.out).mono ?_
  rintro en w' ⟨rfl, hb⟩
  have HB := Lib.hid hb
  clear hb
  go_wp2
  go_ret
  exact ⟨rfl, HB.out⟩
set_option maxHeartbeats 1000000 in
theorem call_B_nil {w : World} (n : Int) :
    Calls Try.prog 41 #[.pointer none, .int .i64 n] w fun en w' => en = .returned (.slice none 0 0) ∧ BW w w' := by
  go_enter Try.func41, Try.ntmps41
  go_wp2_with fail
  refine (upto_B_nil (fv := .nilFunc)).mono ?_
  rintro en w' ⟨rfl, hb⟩
  have HB := Lib.hid hb
  clear hb
  go_wp2
  go_ret
  exact ⟨rfl, HB.out⟩

end Go.Proofs.Ytaaeaaahllicbaa

/- The reader's calls: Size. -/
namespace Go.Proofs.Ytaaeaaahllicbaa
open Go.RowKit Go.Maps

set_option maxHeartbeats 1000000 in
theorem clo_S {w : World} {r c b4 b5 : Nat} {l : List UInt8} {n : Int} {t4 t5 : TypeId} {Q : World → Value → Nat → Prop} {N : Prop} (h4 : w.heap[b4]? = some (.cells #[.func (.func 48) #[.pointer (some ⟨r, 0, none⟩)] #[]] t4 (0, 0))) (h5 : w.heap[b5]? = some (.cells #[.int .i64 n] t5 (0, 0)))
    (hc : Calls Try.prog 48 #[.pointer (some ⟨r, 0, none⟩), .int .i64 n] w (TakeG w r c l Q N)) :
    Calls Try.prog 55 #[.pointer (some ⟨b4, 0, none⟩), .pointer (some ⟨b5, 0, none⟩)] w (TakeG w r c l Q N) := by
  have HC := Lib.hid hc
  have c4 : w.cell? ⟨b4, 0, none⟩ = some (.func (.func 48) #[.pointer (some ⟨r, 0, none⟩)] #[]) := cell_of h4 rfl
  have c5 : w.cell? ⟨b5, 0, none⟩ = some (.int .i64 n) := cell_of h5 rfl
  clear h4 h5 hc
  go_enter Try.func55, Try.ntmps55
  go_wp2_with fail
  refine HC.out.mono ?_
  rintro e w1 ⟨v, ok, rfl, hh⟩
  have HH := Lib.hid hh
  clear hh HC c4 c5
  go_wp2
  go_ret2
  exact ⟨v, ok, rfl, HH.out⟩
set_option maxHeartbeats 1000000 in
theorem upto_S {w : World} {r c : Nat} {l : List UInt8} (h : Rd w r c l 0) (n : Int) (hm1 : -9223372036854775808 ≤ n) (hm2 : n ≤ 9223372036854775807) :
    Calls Try.prog 47 #[.pointer (some ⟨r, 0, none⟩), .func (.func 48) #[.pointer (some ⟨r, 0, none⟩)] #[], .int .i64 n] w (ReadG w r c l (.int .i64 0) (QD (dS l n)) (dS l n = none)) := by
  have H := Lib.hid h
  have HM1 := Lib.hid hm1; have HM2 := Lib.hid hm2
  clear h hm1 hm2
  go_enter Try.func47, Try.ntmps47
  go_wp2_with fail
  refine (read_S ((H.out.below (bw_alloc _ _)).below (bw_alloc _ _)) (clo_S (one_box _ _ _ _) (by have := heap_new (w.alloc (.cells #[.func (.func 48) #[.pointer (some ⟨r, 0, none⟩)] #[]] 78)) (.cells #[.int .i64 n] 3); simpa using this) (takeS_r ((H.out.below (bw_alloc _ _)).below (bw_alloc _ _)) n HM1.out HM2.out))).mono ?_
  rintro e w1 hh
  have hh' := ReadG.mono (Q' := QD (dS l n)) hh ((bw_alloc w _).alloc _) (fun _ _ h => h)
  obtain ⟨v, rfl, hh2⟩ := hh'
  have HH := Lib.hid hh2
  clear hh hh2
  go_wp2
  go_ret
  exact ⟨v, rfl, HH.out⟩
set_option maxHeartbeats 1000000 in
theorem upto_S_bad {w : World} {r : Nat} {v fv : Value} {f : Nat} {e n : Int} (h : RdC w r v e) (he : (e != 0) = true) :
    Calls Try.prog 47 #[.pointer (some ⟨r, 0, none⟩), .func (.func f) #[.pointer (some ⟨r, 0, none⟩)] #[], .int .i64 n] w fun en w' => en = .returned (.int .i64 0) ∧ BW w w' := by
  have H := Lib.hid h
  have HE := Lib.hid he
  clear h he
  go_enter Try.func47, Try.ntmps47
  go_wp2_with fail
  refine (read_S_bad (rdc_below (rdc_below H.out (bw_alloc _ _)) (bw_alloc _ _)) HE.out).mono ?_
  rintro en w' ⟨rfl, rfl⟩
  go_wp2
  go_ret
  exact ⟨rfl, (bw_alloc w _).alloc _⟩
set_option maxHeartbeats 1000000 in
theorem upto_S_nil {w : World} {fv : Value} {f : Nat} {n : Int} {a : Array Value} :
    Calls Try.prog 47 #[.pointer none, .func (.func f) a #[], .int .i64 n] w fun en w' => en = .returned (.int .i64 0) ∧ BW w w' := by
  go_enter Try.func47, Try.ntmps47
  go_wp2_with fail
  refine (read_S_nil).mono ?_
  rintro en w' ⟨rfl, rfl⟩
  go_wp2
  go_ret
  exact ⟨rfl, (bw_alloc w _).alloc _⟩

set_option maxHeartbeats 1000000 in
theorem call_S {w : World} {r c : Nat} {l : List UInt8} (h : Rd w r c l 0) (n : Int) (hm1 : -9223372036854775808 ≤ n) (hm2 : n ≤ 9223372036854775807) :
    Calls Try.prog 40 #[.pointer (some ⟨r, 0, none⟩), .int .i64 n] w (ReadG w r c l (.int .i64 0) (QD (dS l n)) (dS l n = none)) := by
  have H := Lib.hid (upto_S h n hm1 hm2)
  clear h hm1 hm2
  go_enter Try.func40, Try.ntmps40
  go_wp2_with fail
  refine H.out.mono ?_
  rintro e w1 ⟨v, rfl, hh⟩
  have HH := Lib.hid hh
  clear hh
  go_wp2
  go_ret
  exact ⟨v, rfl, HH.out⟩
set_option maxHeartbeats 1000000 in
theorem call_S_bad {w : World} {r : Nat} {v : Value} {e : Int} (h : RdC w r v e) (he : (e != 0) = true) (n : Int) :
    Calls Try.prog 40 #[.pointer (some ⟨r, 0, none⟩), .int .i64 n] w fun en w' => en = .returned (.int .i64 0) ∧ BW w w' := by
  have H := Lib.hid h
  have HE := Lib.hid he
  clear h he
  go_enter Try.func40, Try.ntmps40
  go_wp2_with fail
  refine (upto_S_bad (fv := .nilFunc) H.out HE.out).mono ?_
  rintro en w' ⟨rfl, hb⟩
  have HB := Lib.hid hb
  clear hb
  go_wp2
  go_ret
  exact ⟨rfl, HB.out⟩
set_option maxHeartbeats 1000000 in
theorem call_S_nil {w : World} (n : Int) :
    Calls Try.prog 40 #[.pointer none, .int .i64 n] w fun en w' => en = .returned (.int .i64 0) ∧ BW w w' := by
  go_enter Try.func40, Try.ntmps40
  go_wp2_with fail
  refine (upto_S_nil (fv := .nilFunc)).mono ?_
  rintro en w' ⟨rfl, hb⟩
  have HB := Lib.hid hb
  clear hb
  go_wp2
  go_ret
  exact ⟨rfl, HB.out⟩

end Go.Proofs.Ytaaeaaahllicbaa
