/- takeInt, takeSize, takeText, takeBytes. -/
import Derived.Test.YthepoplekabcoaaCodC
import Derived.Laws.BytesArg
import Derived.Laws.IdiomStrings
namespace Go.Proofs.Ythepoplekabcoaa
open Go.RowKit Go.Maps

def TakeR (w : World) (r c : Nat) (l : List UInt8) (D : Option (Value × Nat)) (e : Ending) (w' : World) : Prop :=
  ∃ (v : Value) (ok : Bool), e = .returned (.tuple #[v, .bool ok]) ∧ Moves (fun b => b = r) w w' ∧ (ok = true → ∃ k, D = some (v, k) ∧ Rd w' r c (l.drop k) 0) ∧ (ok = false → D = none ∧ ∃ x, RdC w' r x 0)

def dU (l : List UInt8) : Option (Value × Nat) := (deco l).map fun p => (.int .u64 (p.1 : Int), p.2)
def dI (l : List UInt8) : Option (Value × Nat) := (deco l).map fun p => (.int .i64 (back p.1), p.2)
def sizeD (l : List UInt8) (most : Int) : Option (Nat × Nat) := (deco l).bind fun p => if 0 ≤ most ∧ (p.1 : Int) ≤ most then some p else none
def dS (l : List UInt8) (most : Int) : Option (Value × Nat) := (sizeD l most).map fun p => (.int .i64 (p.1 : Int), p.2)
def textD (l : List UInt8) (most : Int) : Option (List UInt8 × Nat) := (sizeD l most).bind fun p => if p.1 ≤ (l.drop p.2).length then some ((l.drop p.2).take p.1, p.2 + p.1) else none
def dT (l : List UInt8) (most : Int) : Option (Value × Nat) := (textD l most).map fun p => (.string ⟨p.1.toArray⟩, p.2)

theorem takeU_r {w : World} {r c : Nat} {l : List UInt8} (h : Rd w r c l 0) : Calls Try.prog 51 #[.pointer (some ⟨r, 0, none⟩)] w (TakeR w r c l (dU l)) := by
  refine (takeU_any h).mono ?_
  rintro e w' ⟨n, ok, hn, rfl, hm, h1, h2⟩
  refine ⟨_, _, rfl, hm, (fun hok => ?_), (fun hok => ?_)⟩
  · obtain ⟨k, v, hd, rfl, hr⟩ := h1 hok
    exact ⟨k, by unfold dU; rw [hd]; rfl, hr⟩
  · obtain ⟨hd, hx⟩ := h2 hok
    exact ⟨by unfold dU; rw [hd]; rfl, hx⟩

set_option maxHeartbeats 1000000 in
theorem takeI_r {w : World} {r c : Nat} {l : List UInt8} (h : Rd w r c l 0) : Calls Try.prog 53 #[.pointer (some ⟨r, 0, none⟩)] w (TakeR w r c l (dI l)) := by
  have H := Lib.hid h
  clear h
  go_enter Try.func53, Try.ntmps53
  go_wp2_with fail
  refine (takeU_any H.out).mono ?_
  rintro e w1 ⟨n, ok, hn, rfl, hm, h1, h2⟩
  have HM := Lib.hid hm; have HH1 := Lib.hid h1; have HH2 := Lib.hid h2; have HN := Lib.hid hn
  clear hm h1 h2 hn
  go_wp2_with (go_at_call 65; refine (signed_any n HN.out _).mono ?_; rintro e w' ⟨rfl, rfl⟩)
  go_ret2
  refine ⟨_, _, rfl, HM.out, (fun hok => ?_), (fun hok => ?_)⟩
  · obtain ⟨k, v, hd, rfl, hr⟩ := HH1.out hok
    exact ⟨k, by unfold dI; rw [hd]; rfl, hr⟩
  · obtain ⟨hd, hx⟩ := HH2.out hok
    exact ⟨by unfold dI; rw [hd]; rfl, hx⟩

def SizeR (w : World) (r c : Nat) (l : List UInt8) (most : Int) (e : Ending) (w' : World) : Prop :=
  ∃ (n : Nat) (ok : Bool), (n : Int) ≤ 9223372036854775807 ∧ e = .returned (.tuple #[.int .i64 (n : Int), .bool ok]) ∧ Moves (fun b => b = r) w w' ∧ (ok = true → ∃ k, sizeD l most = some (n, k) ∧ Rd w' r c (l.drop k) 0) ∧ (ok = false → sizeD l most = none ∧ ∃ x, RdC w' r x 0)

set_option maxHeartbeats 1000000 in
theorem takeS_any {w : World} {r c : Nat} {l : List UInt8} (h : Rd w r c l 0) (most : Int) (hm1 : -9223372036854775808 ≤ most) (hm2 : most ≤ 9223372036854775807) :
    Calls Try.prog 49 #[.pointer (some ⟨r, 0, none⟩), .int .i64 most] w (SizeR w r c l most) := by
  have H := Lib.hid h
  clear h
  go_enter Try.func49, Try.ntmps49
  go_wp2_with fail
  refine (takeU_any H.out).mono ?_
  rintro e w1 ⟨n, ok, hn, rfl, hm, h1, h2⟩
  have HM := Lib.hid hm; have HH1 := Lib.hid h1; have HH2 := Lib.hid h2
  clear hm h1 h2
  have hn2 : (n : Int) ≤ 18446744073709551615 := by omega
  have hn0 : 0 ≤ (n : Int) := by omega
  cases ok with
  | false =>
    go_wp2
    go_ret2
    refine ⟨0, false, by decide, rfl, HM.out, (fun h => by cases h), (fun _ => ?_)⟩
    obtain ⟨hd, hx⟩ := HH2.out (by simp)
    exact ⟨by unfold sizeD; rw [hd]; rfl, hx⟩
  | true =>
    by_cases hc : 0 ≤ most ∧ (n : Int) ≤ most
    · obtain ⟨ha, hb⟩ := hc
      go_wp2
      go_ret2
      refine ⟨n, true, by omega, rfl, HM.out, (fun _ => ?_), (fun h => by cases h)⟩
      obtain ⟨k, v, hd, rfl, hr⟩ := HH1.out (by simp)
      exact ⟨k, by unfold sizeD; rw [hd]; simp [ha, hb], hr⟩
    · have HC := Lib.hid hc
      by_cases ha : 0 ≤ most
      · have hb : most < (n : Int) := by omega
        clear hc
        go_wp2
        go_ret2
        refine ⟨0, false, by decide, rfl, HM.out, (fun h => by cases h), (fun _ => ?_)⟩
        obtain ⟨k, v, hd, rfl, hr⟩ := HH1.out (by simp)
        obtain ⟨x, hx, _⟩ := hr.ex
        exact ⟨by unfold sizeD; rw [hd]; show (if _ then _ else _) = _; rw [if_neg HC.out], x, hx⟩
      · clear hc
        go_wp2
        go_ret2
        refine ⟨0, false, by decide, rfl, HM.out, (fun h => by cases h), (fun _ => ?_)⟩
        obtain ⟨k, v, hd, rfl, hr⟩ := HH1.out (by simp)
        obtain ⟨x, hx, _⟩ := hr.ex
        exact ⟨by unfold sizeD; rw [hd]; show (if _ then _ else _) = _; rw [if_neg HC.out], x, hx⟩

end Go.Proofs.Ythepoplekabcoaa
