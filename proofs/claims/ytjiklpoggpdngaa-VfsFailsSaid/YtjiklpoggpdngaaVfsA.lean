/- Small functions of vfs: what each answers, and that it leaves the world alone or turns just its own cells. -/
import Derived.Test.YtjiklpoggpdngaaRows
import Derived.WalkKit
import Derived.WalkSpells
import Derived.WalkLawsBesides
import Derived.Lib.Hide
namespace Go.Proofs.Ytjiklpoggpdngaa
open Go.RowKit

set_option maxHeartbeats 400000 in
theorem come_any (b o : Nat) (asked : Bool) (left : Int) (w : World) (c0 : w.cell? ⟨b, o, none⟩ = some (.bool asked)) (c1 : w.cell? ⟨b, o + 1, none⟩ = some (.int .i64 left)) :
    Calls Try.prog 39 #[.pointer (some ⟨b, o, none⟩)] w fun e w' => e = .returned (.bool (asked && left == 0)) ∧ w = w' := by
  cases asked
  · go_enter Try.func39, Try.ntmps39
    go_wp2
    go_ret
    exact ⟨rfl, rfl⟩
  · go_enter Try.func39, Try.ntmps39
    go_wp2
    go_ret
    exact ⟨rfl, rfl⟩

set_option maxHeartbeats 400000 in
theorem haltnext_pos (b o : Nat) (left : Int) (w : World) (h : 0 < left) (h2 : left ≤ 9223372036854775807) (c1 : w.cell? ⟨b, o + 1, none⟩ = some (.int .i64 left)) (f1 : w.frozen? ⟨b, o + 1, none⟩ = false) :
    Calls Try.prog 85 #[.pointer (some ⟨b, o, none⟩)] w fun e w' => e = .returned (.tuple #[]) ∧ w' = w.setCell ⟨b, o + 1, none⟩ (.int .i64 (left - 1)) := by
  go_enter Try.func85, Try.ntmps85
  go_wp2
  go_end0
  exact ⟨rfl, rfl⟩

set_option maxHeartbeats 400000 in
theorem haltnext_no (b o : Nat) (left : Int) (w : World) (h : ¬ 0 < left) (c1 : w.cell? ⟨b, o + 1, none⟩ = some (.int .i64 left)) :
    Calls Try.prog 85 #[.pointer (some ⟨b, o, none⟩)] w fun e w' => e = .returned (.tuple #[]) ∧ w' = w := by
  go_enter Try.func85, Try.ntmps85
  go_wp2
  go_end0
  exact ⟨rfl, rfl⟩

set_option maxHeartbeats 400000 in
theorem failnext_no (b o : Nat) (w : World) (c1 : w.cell? ⟨b, o, none⟩ = some (.int .i64 0)) :
    Calls Try.prog 86 #[.pointer (some ⟨b, o, none⟩)] w fun e w' => e = .returned (.int .i64 0) ∧ w' = w := by
  go_enter Try.func86, Try.ntmps86
  go_wp2
  go_ret
  exact ⟨rfl, rfl⟩

set_option maxHeartbeats 400000 in
theorem failnext_one (b o : Nat) (w : World) (er : Int) (c1 : w.cell? ⟨b, o, none⟩ = some (.int .i64 1)) (c2 : w.cell? ⟨b, o + 1, none⟩ = some (.int .i64 er)) (f1 : w.frozen? ⟨b, o, none⟩ = false) :
    Calls Try.prog 86 #[.pointer (some ⟨b, o, none⟩)] w fun e w' => e = .returned (.int .i64 er) ∧ w' = w.setCell ⟨b, o, none⟩ (.int .i64 0) := by
  go_enter Try.func86, Try.ntmps86
  go_wp2
  go_ret
  exact ⟨rfl, rfl⟩

set_option maxHeartbeats 400000 in
theorem failnext_more (b o : Nat) (w : World) (n : Int) (h : 1 < n) (h2 : n ≤ 9223372036854775807) (c1 : w.cell? ⟨b, o, none⟩ = some (.int .i64 n)) (f1 : w.frozen? ⟨b, o, none⟩ = false) :
    Calls Try.prog 86 #[.pointer (some ⟨b, o, none⟩)] w fun e w' => e = .returned (.int .i64 0) ∧ w' = w.setCell ⟨b, o, none⟩ (.int .i64 (n - 1)) := by
  have e1 : (n == 0) = false := by simp; omega
  go_enter Try.func86, Try.ntmps86
  go_wp2
  go_ret
  exact ⟨rfl, rfl⟩

end Go.Proofs.Ytjiklpoggpdngaa
