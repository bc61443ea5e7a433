/- takeInt, takeSize, takeText, takeBytes. -/
import Derived.Test.YtdoliejihinpkaaCodC
import Derived.Laws.BytesArg
import Derived.Laws.IdiomStrings
namespace Go.Proofs.Ytdoliejihinpkaa
open Go.RowKit Go.Maps

def TakeR (w : World) (r c : Nat) (l : List UInt8) (D : Option (Value × Nat)) (e : Ending) (w' : World) : Prop :=
  ∃ (v : Value) (ok : Bool), e = .returned (.tuple #[v, .bool ok]) ∧ Moves (fun b => b = r) w w' ∧ (ok = true → ∃ k, D = some (v, k) ∧ Rd w' r c (l.drop k) 0) ∧ (ok = false → D = none ∧ ∃ x, RdC w' r x 0)

def dU (l : List UInt8) : Option (Value × Nat) := (deco l).map fun p => (.int .u64 (p.1 : Int), p.2)
def dI (l : List UInt8) : Option (Value × Nat) := (deco l).map fun p => (.int .i64 (back p.1), p.2)
def sizeD (l : List UInt8) (most : Int) : Option (Nat × Nat) := (deco l).bind fun p => if 0 ≤ most ∧ (p.1 : Int) ≤ most then some p else none
def dS (l : List UInt8) (most : Int) : Option (Value × Nat) := (sizeD l most).map fun p => (.int .i64 (p.1 : Int), p.2)
def textD (l : List UInt8) (most : Int) : Option (List UInt8 × Nat) := (sizeD l most).bind fun p => if p.1 ≤ (l.drop p.2).length then some ((l.drop p.2).take p.1, p.2 + p.1) else none
def dT (l : List UInt8) (most : Int) : Option (Value × Nat) := (textD l most).map fun p => (.string ⟨p.1.toArray⟩, p.2)

theorem takeU_r {w : World} {r c : Nat} {l : List UInt8} (h : Rd w r c l 0) : Calls Try.prog 66 #[.pointer (some ⟨r, 0, none⟩)] w (TakeR w r c l (dU l)) := by
  refine (takeU_any h).mono ?_
  rintro e w' ⟨n, ok, hn, rfl, hm, h1, h2⟩
  refine ⟨_, _, rfl, hm, (fun hok => ?_), (fun hok => ?_)⟩
  · obtain ⟨k, v, hd, rfl, hr⟩ := h1 hok
    exact ⟨k, by unfold dU; rw [hd]; rfl, hr⟩
  · obtain ⟨hd, hx⟩ := h2 hok
    exact ⟨by unfold dU; rw [hd]; rfl, hx⟩

set_option maxHeartbeats 1000000 in
theorem takeI_r {w : World} {r c : Nat} {l : List UInt8} (h : Rd w r c l 0) : Calls Try.prog 61 #[.pointer (some ⟨r, 0, none⟩)] w (TakeR w r c l (dI l)) := by
  have H := Lib.hid h
  clear h
  go_enter Try.func61, Try.ntmps61
  go_wp2_with fail
  refine (takeU_any H.out).mono ?_
  rintro e w1 ⟨n, ok, hn, rfl, hm, h1, h2⟩
  have HM := Lib.hid hm; have HH1 := Lib.hid h1; have HH2 := Lib.hid h2; have HN := Lib.hid hn
  clear hm h1 h2 hn
  go_wp2_with (go_at_call 67; refine (signed_any n HN.out _).mono ?_; rintro e w' ⟨rfl, rfl⟩)
  go_ret2
  refine ⟨_, _, rfl, HM.out, (fun hok => ?_), (fun hok => ?_)⟩
  · obtain ⟨k, v, hd, rfl, hr⟩ := HH1.out hok
    exact ⟨k, by unfold dI; rw [hd]; rfl, hr⟩
  · obtain ⟨hd, hx⟩ := HH2.out hok
    exact ⟨by unfold dI; rw [hd]; rfl, hx⟩

def SizeR (w : World) (r c : Nat) (l : List UInt8) (most : Int) (e : Ending) (w' : World) : Prop :=
  ∃ (n : Nat) (ok : Bool), (n : Int) ≤ 9223372036854775807 ∧ e = .returned (.tuple #[.int .i64 (n : Int), .bool ok]) ∧ Moves (fun b => b = r) w w' ∧ (ok = true → ∃ k, sizeD l most = some (n, k) ∧ Rd w' r c (l.drop k) 0) ∧ (ok = false → sizeD l most = none ∧ ∃ x, RdC w' r x 0)

end Go.Proofs.Ytdoliejihinpkaa
