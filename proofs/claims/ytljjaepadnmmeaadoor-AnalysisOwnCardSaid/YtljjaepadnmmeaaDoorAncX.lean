/- Stage 6, the cards: the rows' list (the library's two tables), a world that holds them, and the arguments opened. -/
import Derived.Test.YtljjaepadnmmeaaDoorAncB
import Derived.Test.YtljjaepadnmmeaaDoorFldW
import Derived.Test.YtljjaepadnmmeaaDoorFlpH
import Derived.Test.YtljjaepadnmmeaaDoorRows
import Derived.PinnedBridge
import Derived.Lib.LaidIn
import Derived.Lib.LaidU8T
import Derived.Deep.DeepHandedRow
import Derived.Deep.DeepWitnessRowRef
import Derived.ProofKit
namespace Go.Proofs.YtljjaepadnmmeaaDoor
open Go.Shelf Go.ChangeShapes Go.WideShapes Go.ChangeAt Go.RowKit Fld Ana
def tabList : List (String × DataW Unit) := [("unicode/utf8.acceptRanges", Lib.acceptData), ("unicode/utf8.first", Lib.firstData)]
theorem accept_is : (Rows.laid_unicode_utf8_acceptRanges : DataW Unit) = Lib.acceptData := by kernel_rfl
theorem first_is : Rows.laid_unicode_utf8_first = Lib.firstData := Pinned.utf8First_eq
theorem list_is : [("unicode/utf8.acceptRanges", Rows.laid_unicode_utf8_acceptRanges), ("unicode/utf8.first", Rows.laid_unicode_utf8_first)] = tabList := by
  rw [accept_is, first_is]; rfl
/-- the settled world, the two tables holding what their texts lay -/
noncomputable def laidWorld (os : Os) : World :=
  let w0 := World.holding Tryd.prog os ⟨#[], #[], []⟩
  let put (h : Array Obj) (g : Nat) (cs : Array Value) : Array Obj := h.modify g fun
    | .cells _ t frozen => .cells cs t frozen
    | o => o
  let h1 := put w0.heap 1 (Lib.firstTab.map fun z => Value.int .u8 z).toArray
  let h2 := put h1 2 ((List.range 16).flatMap fun i => [Value.int .u8 (Lib.accLo i), Value.int .u8 (Lib.accHi i)]).toArray
  { w0 with heap := h2 }
theorem laid_met (os : Os) (args : Array Value) : laidMet Tryd.prog tabList ((laidWorld os).forCall (fun _ _ => 0) ⟨#[], args, []⟩).memory :=
  (LaidIn.of_run (l := tabList) [2, 1] 8 (by kernel_rfl) (by kernel_rfl) (by kernel_rfl) (by kernel_rfl)).met
def u8Ren : Go.Shelf.Ren := ⟨fun n => n, fun | 5 => 5 | 119 => 108 | 138 => 110 | 139 => 111 | n => n, fun | 3 => 1 | 4 => 2 | n => n⟩
theorem tabs_of {W : World} (hL : laidMetH Tryd.prog tabList W) : Tabs W :=
  utf8Tabs_of_readsT (P := Tryd.prog) (ρ := u8Ren) ⟨Tryd.underlying5, Tryd.underlying108, Tryd.underlying110, Tryd.underlying111⟩ ⟨by kernel_rfl, by kernel_rfl, by kernel_rfl, by kernel_rfl, by kernel_rfl, by kernel_rfl, by kernel_rfl⟩ (Lib.laidMet.reads hL (.tail _ (.head _))) (Lib.laidMet.reads hL (.head _))
theorem next_of {W : World} (hL : laidMetH Tryd.prog tabList W) : NextOk W := fun W' hb l at' h0 h1 h2 => next_any (l := l) (at' := at') h0 h1 h2 W' ((tabs_of hL).bw hb)
section
variable {H : Type} {enc : TypeId × Value → H}
theorem text_is (s : ByteArray) : (Value.string s) = textV s.data.toList := by unfold textV; simp
/-- a row of whole numbers, opened as an argument -/
theorem arg_int {W : World} {ao : Option Addr} {ln cp : Nat} {d : DataW H} {p : List MemPlace} {b0 : Nat} {sp : Nat → Bool} {hd : Bool} (h : DataW.Trod enc Tryd.prog W b0 sp hd 22 (.slice ao ln cp) d p) :
    ∃ zs : List Int, ISrc W ao cp zs ∧ zs.length = ln := by
  obtain ⟨f, hf⟩ := h
  obtain ⟨zs, h2, h1, h3⟩ := src_ints (x := (d, p)) Tryd.underlying22 Tryd.underlying3 (by kernel_rfl) hf
  refine ⟨zs, ?_, h2⟩
  rcases h1 with ⟨ao', cp', e, hn, _, hc⟩ | ⟨b, off, cp', e, hcap, hlim, hlt, hcell⟩
  · injection e with e1 e2 e3
    have hz : zs = [] := by simpa using hn
    subst hz
    exact ⟨by simp, by omega, fun j x hx => by simp at hx⟩
  · injection e with e1 e2 e3
    subst e1; subst e3
    refine ⟨by simpa using hcap, hlim, fun j x hx => ⟨b, off, rfl, hcell j _ (by simp [hx])⟩⟩
end
end Go.Proofs.YtljjaepadnmmeaaDoor
