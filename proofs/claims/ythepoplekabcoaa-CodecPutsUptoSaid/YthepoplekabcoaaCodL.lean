/- The reader's calls: Size. -/
import Derived.Test.YthepoplekabcoaaCodH
namespace Go.Proofs.Ythepoplekabcoaa
open Go.RowKit Go.Maps

set_option maxHeartbeats 1000000 in
theorem clo_S {w : World} {r c b4 b5 : Nat} {l : List UInt8} {n : Int} {t4 t5 : TypeId} {Q : World → Value → Nat → Prop} {N : Prop} (h4 : w.heap[b4]? = some (.cells #[.func (.func 49) #[.pointer (some ⟨r, 0, none⟩)] #[]] t4 (0, 0))) (h5 : w.heap[b5]? = some (.cells #[.int .i64 n] t5 (0, 0)))
    (hc : Calls Try.prog 49 #[.pointer (some ⟨r, 0, none⟩), .int .i64 n] w (TakeG w r c l Q N)) :
    Calls Try.prog 63 #[.pointer (some ⟨b4, 0, none⟩), .pointer (some ⟨b5, 0, none⟩)] w (TakeG w r c l Q N) := by
  have HC := Lib.hid hc
  have c4 : w.cell? ⟨b4, 0, none⟩ = some (.func (.func 49) #[.pointer (some ⟨r, 0, none⟩)] #[]) := cell_of h4 rfl
  have c5 : w.cell? ⟨b5, 0, none⟩ = some (.int .i64 n) := cell_of h5 rfl
  clear h4 h5 hc
  go_enter Try.func63, Try.ntmps63
  go_wp2_with fail
  refine HC.out.mono ?_
  rintro e w1 ⟨v, ok, rfl, hh⟩
  have HH := Lib.hid hh
  clear hh HC c4 c5
  go_wp2
  go_ret2
  exact ⟨v, ok, rfl, HH.out⟩
set_option maxHeartbeats 1000000 in
theorem upto_S {w : World} {r c : Nat} {l : List UInt8} (h : Rd w r c l 0) (n : Int) (hm1 : -9223372036854775808 ≤ n) (hm2 : n ≤ 9223372036854775807) :
    Calls Try.prog 48 #[.pointer (some ⟨r, 0, none⟩), .func (.func 49) #[.pointer (some ⟨r, 0, none⟩)] #[], .int .i64 n] w (ReadG w r c l (.int .i64 0) (QD (dS l n)) (dS l n = none)) := by
  have H := Lib.hid h
  have HM1 := Lib.hid hm1; have HM2 := Lib.hid hm2
  clear h hm1 hm2
  go_enter Try.func48, Try.ntmps48
  go_wp2_with fail
  refine (read_S ((H.out.below (bw_alloc _ _)).below (bw_alloc _ _)) (clo_S (one_box _ _ _ _) (by have := heap_new (w.alloc (.cells #[.func (.func 49) #[.pointer (some ⟨r, 0, none⟩)] #[]] 73)) (.cells #[.int .i64 n] 3); simpa using this) (takeS_r ((H.out.below (bw_alloc _ _)).below (bw_alloc _ _)) n HM1.out HM2.out))).mono ?_
  rintro e w1 hh
  have hh' := ReadG.mono (Q' := QD (dS l n)) hh ((bw_alloc w _).alloc _) (fun _ _ h => h)
  obtain ⟨v, rfl, hh2⟩ := hh'
  have HH := Lib.hid hh2
  clear hh hh2
  go_wp2
  go_ret
  exact ⟨v, rfl, HH.out⟩
set_option maxHeartbeats 1000000 in
theorem upto_S_bad {w : World} {r : Nat} {v fv : Value} {f : Nat} {e n : Int} (h : RdC w r v e) (he : (e != 0) = true) :
    Calls Try.prog 48 #[.pointer (some ⟨r, 0, none⟩), .func (.func f) #[.pointer (some ⟨r, 0, none⟩)] #[], .int .i64 n] w fun en w' => en = .returned (.int .i64 0) ∧ BW w w' := by
  have H := Lib.hid h
  have HE := Lib.hid he
  clear h he
  go_enter Try.func48, Try.ntmps48
  go_wp2_with fail
  refine (read_S_bad (rdc_below (rdc_below H.out (bw_alloc _ _)) (bw_alloc _ _)) HE.out).mono ?_
  rintro en w' ⟨rfl, rfl⟩
  go_wp2
  go_ret
  exact ⟨rfl, (bw_alloc w _).alloc _⟩
set_option maxHeartbeats 1000000 in
theorem upto_S_nil {w : World} {fv : Value} {f : Nat} {n : Int} {a : Array Value} :
    Calls Try.prog 48 #[.pointer none, .func (.func f) a #[], .int .i64 n] w fun en w' => en = .returned (.int .i64 0) ∧ BW w w' := by
  go_enter Try.func48, Try.ntmps48
  go_wp2_with fail
  refine (read_S_nil).mono ?_
  rintro en w' ⟨rfl, rfl⟩
  go_wp2
  go_ret
  exact ⟨rfl, (bw_alloc w _).alloc _⟩

set_option maxHeartbeats 1000000 in
theorem call_S {w : World} {r c : Nat} {l : List UInt8} (h : Rd w r c l 0) (n : Int) (hm1 : -9223372036854775808 ≤ n) (hm2 : n ≤ 9223372036854775807) :
    Calls Try.prog 30 #[.pointer (some ⟨r, 0, none⟩), .int .i64 n] w (ReadG w r c l (.int .i64 0) (QD (dS l n)) (dS l n = none)) := by
  have H := Lib.hid (upto_S h n hm1 hm2)
  clear h hm1 hm2
  go_enter Try.func30, Try.ntmps30
  go_wp2_with fail
  refine H.out.mono ?_
  rintro e w1 ⟨v, rfl, hh⟩
  have HH := Lib.hid hh
  clear hh
  go_wp2
  go_ret
  exact ⟨v, rfl, HH.out⟩
set_option maxHeartbeats 1000000 in
theorem call_S_bad {w : World} {r : Nat} {v : Value} {e : Int} (h : RdC w r v e) (he : (e != 0) = true) (n : Int) :
    Calls Try.prog 30 #[.pointer (some ⟨r, 0, none⟩), .int .i64 n] w fun en w' => en = .returned (.int .i64 0) ∧ BW w w' := by
  have H := Lib.hid h
  have HE := Lib.hid he
  clear h he
  go_enter Try.func30, Try.ntmps30
  go_wp2_with fail
  refine (upto_S_bad (fv := .nilFunc) H.out HE.out).mono ?_
  rintro en w' ⟨rfl, hb⟩
  have HB := Lib.hid hb
  clear hb
  go_wp2
  go_ret
  exact ⟨rfl, HB.out⟩
set_option maxHeartbeats 1000000 in
theorem call_S_nil {w : World} (n : Int) :
    Calls Try.prog 30 #[.pointer none, .int .i64 n] w fun en w' => en = .returned (.int .i64 0) ∧ BW w w' := by
  go_enter Try.func30, Try.ntmps30
  go_wp2_with fail
  refine (upto_S_nil (fv := .nilFunc)).mono ?_
  rintro en w' ⟨rfl, hb⟩
  have HB := Lib.hid hb
  clear hb
  go_wp2
  go_ret
  exact ⟨rfl, HB.out⟩

end Go.Proofs.Ythepoplekabcoaa
