/- The reader's calls: Bytes. -/
import Derived.Test.YtdoliejihinpkaaCodH
namespace Go.Proofs.Ytdoliejihinpkaa
open Go.RowKit Go.Maps

set_option maxHeartbeats 1000000 in
theorem clo_B {w : World} {r c b4 b5 : Nat} {l : List UInt8} {n : Int} {t4 t5 : TypeId} {Q : World → Value → Nat → Prop} {N : Prop} (h4 : w.heap[b4]? = some (.cells #[.func (.func 63) #[.pointer (some ⟨r, 0, none⟩)] #[]] t4 (0, 0))) (h5 : w.heap[b5]? = some (.cells #[.int .i64 n] t5 (0, 0)))
    (hc : Calls Try.prog 63 #[.pointer (some ⟨r, 0, none⟩), .int .i64 n] w (TakeG w r c l Q N)) :
    Calls Try.prog 69 #[.pointer (some ⟨b4, 0, none⟩), .pointer (some ⟨b5, 0, none⟩)] w (TakeG w r c l Q N) := by
  have HC := Lib.hid hc
  have c4 : w.cell? ⟨b4, 0, none⟩ = some (.func (.func 63) #[.pointer (some ⟨r, 0, none⟩)] #[]) := cell_of h4 rfl
  have c5 : w.cell? ⟨b5, 0, none⟩ = some (.int .i64 n) := cell_of h5 rfl
  clear h4 h5 hc
  go_enter Try.func69, Try.ntmps69
  go_wp2_with fail
  refine HC.out.mono ?_
  rintro e w1 ⟨v, ok, rfl, hh⟩
  have HH := Lib.hid hh
  clear hh HC c4 c5
  go_wp2
  go_ret2
  exact ⟨v, ok, rfl, HH.out⟩
set_option maxHeartbeats 1000000 in
theorem upto_B {w : World} {r c : Nat} {l : List UInt8} (h : Rd w r c l 0) (n : Int) (hm1 : -9223372036854775808 ≤ n) (hm2 : n ≤ 9223372036854775807) :
    Calls Try.prog 62 #[.pointer (some ⟨r, 0, none⟩), .func (.func 63) #[.pointer (some ⟨r, 0, none⟩)] #[], .int .i64 n] w (ReadG w r c l (.slice none 0 0) (QB w l n) (¬ BytesOk l n)) := by
  have H := Lib.hid h
  have HM1 := Lib.hid hm1; have HM2 := Lib.hid hm2
  clear h hm1 hm2
  go_enter Try.func62, Try.ntmps62
  go_wp2_with fail
  refine (read_B ((H.out.below (bw_alloc _ _)).below (bw_alloc _ _)) (clo_B (one_box _ _ _ _) (by have := heap_new (w.alloc (.cells #[.func (.func 63) #[.pointer (some ⟨r, 0, none⟩)] #[]] 91)) (.cells #[.int .i64 n] 3); simpa using this) (takeB_r ((H.out.below (bw_alloc _ _)).below (bw_alloc _ _)) n HM1.out HM2.out))).mono ?_
  rintro e w1 hh
  have hh' := ReadG.mono (Q' := QB w l n) hh ((bw_alloc w _).alloc _) (qb_mono ((bw_alloc w _).alloc _))
  obtain ⟨v, rfl, hh2⟩ := hh'
  have HH := Lib.hid hh2
  clear hh hh2
  go_wp2
  go_ret
  exact ⟨v, rfl, HH.out⟩
set_option maxHeartbeats 1000000 in
theorem upto_B_bad {w : World} {r : Nat} {v fv : Value} {f : Nat} {e n : Int} (h : RdC w r v e) (he : (e != 0) = true) :
    Calls Try.prog 62 #[.pointer (some ⟨r, 0, none⟩), .func (.func f) #[.pointer (some ⟨r, 0, none⟩)] #[], .int .i64 n] w fun en w' => en = .returned (.slice none 0 0) ∧ BW w w' := by
  have H := Lib.hid h
  have HE := Lib.hid he
  clear h he
  go_enter Try.func62, Try.ntmps62
  go_wp2_with fail
  refine (read_B_bad (rdc_below (rdc_below H.out (bw_alloc _ _)) (bw_alloc _ _)) HE.out).mono ?_
  rintro en w' ⟨rfl, rfl⟩
  go_wp2
  go_ret
  exact ⟨rfl, (bw_alloc w _).alloc _⟩
set_option maxHeartbeats 1000000 in
theorem upto_B_nil {w : World} {fv : Value} {f : Nat} {n : Int} {a : Array Value} :
    Calls Try.prog 62 #[.pointer none, .func (.func f) a #[], .int .i64 n] w fun en w' => en = .returned (.slice none 0 0) ∧ BW w w' := by
  go_enter Try.func62, Try.ntmps62
  go_wp2_with fail
  refine (read_B_nil).mono ?_
  rintro en w' ⟨rfl, rfl⟩
  go_wp2
  go_ret
  exact ⟨rfl, (bw_alloc w _).alloc _⟩

set_option maxHeartbeats 1000000 in
theorem call_B {w : World} {r c : Nat} {l : List UInt8} (h : Rd w r c l 0) (n : Int) (hm1 : -9223372036854775808 ≤ n) (hm2 : n ≤ 9223372036854775807) :
    Calls Try.prog 55 #[.pointer (some ⟨r, 0, none⟩), .int .i64 n] w (ReadG w r c l (.slice none 0 0) (QB w l n) (¬ BytesOk l n)) := by
  have H := Lib.hid (upto_B h n hm1 hm2)
  clear h hm1 hm2
  go_enter Try.func55, Try.ntmps55
  go_wp2_with fail
  refine H.out.mono ?_
  rintro e w1 ⟨v, rfl, hh⟩
  have HH := Lib.hid hh
  clear hh
  go_wp2
  go_ret
  exact ⟨v, rfl, HH.out⟩
set_option maxHeartbeats 1000000 in
theorem call_B_bad {w : World} {r : Nat} {v : Value} {e : Int} (h : RdC w r v e) (he : (e != 0) = true) (n : Int) :
    Calls Try.prog 55 #[.pointer (some ⟨r, 0, none⟩), .int .i64 n] w fun en w' => en = .returned (.slice none 0 0) ∧ BW w w' := by
  have H := Lib.hid h
  have HE := Lib.hid he
  clear h he
  go_enter Try.func55, Try.ntmps55
  go_wp2_with fail
  refine (upto_B_bad (fv := .nilFunc) H.out HE.out).mono ?_
  rintro en w' ⟨rfl, hb⟩
  have HB := Lib.hid hb
  clear hb
  go_wp2
  go_ret
  exact ⟨rfl, HB.out⟩
set_option maxHeartbeats 1000000 in
theorem call_B_nil {w : World} (n : Int) :
    Calls Try.prog 55 #[.pointer none, .int .i64 n] w fun en w' => en = .returned (.slice none 0 0) ∧ BW w w' := by
  go_enter Try.func55, Try.ntmps55
  go_wp2_with fail
  refine (upto_B_nil (fv := .nilFunc)).mono ?_
  rintro en w' ⟨rfl, hb⟩
  have HB := Lib.hid hb
  clear hb
  go_wp2
  go_ret
  exact ⟨rfl, HB.out⟩

end Go.Proofs.Ytdoliejihinpkaa
