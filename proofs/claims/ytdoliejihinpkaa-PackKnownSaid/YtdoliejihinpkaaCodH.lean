/- The reader's calls. -/
import Derived.Test.YtdoliejihinpkaaCodG
namespace Go.Proofs.Ytdoliejihinpkaa
open Go.RowKit Go.Maps

theorem ReadG.mono {w W w' : World} {r c : Nat} {l : List UInt8} {z : Value} {Q Q' : World → Value → Nat → Prop} {N : Prop} {e : Ending} (h : ReadG W r c l z Q N e w') (hb : BW w W) (hq : ∀ v k, Q w' v k → Q' w' v k) : ReadG w r c l z Q' N e w' := by
  obtain ⟨v, rfl, hm, h1⟩ := h
  refine ⟨v, rfl, (Moves.of_below hb _).trans hm (fun _ _ e => e), ?_⟩
  rcases h1 with ⟨k, h2, h3⟩ | h2
  · exact .inl ⟨k, hq v k h2, h3⟩
  · exact .inr h2
theorem qb_mono {w W w' : World} {l : List UInt8} {n : Int} (hb : BW w W) (v : Value) (k : Nat) (h : QB W l n w' v k) : QB w l n w' v k := ⟨h.1, h.2.1, row_base h.2.2 hb.size⟩
theorem one_box (w : World) (v : Value) (t : TypeId) (o : Obj) : ((w.alloc (.cells #[v] t)).alloc o).heap[w.heap.size]? = some (.cells #[v] t (0, 0)) := by
  rw [Below.heap_alloc _ _ _ (by simp)]; exact heap_new _ _

set_option maxHeartbeats 1000000 in
theorem call_I {w : World} {r c : Nat} {l : List UInt8} (h : Rd w r c l 0) :
    Calls Try.prog 54 #[.pointer (some ⟨r, 0, none⟩)] w (ReadG w r c l (.int .i64 0) (QD (dI l)) (dI l = none)) := by
  have H := Lib.hid (read_I h (takeI_r h))
  clear h
  go_enter Try.func54, Try.ntmps54
  go_wp2_with fail
  refine H.out.mono ?_
  rintro e w1 ⟨v, rfl, hh⟩
  have HH := Lib.hid hh
  clear hh
  go_wp2
  go_ret
  exact ⟨v, rfl, HH.out⟩
set_option maxHeartbeats 1000000 in
theorem call_I_bad {w : World} {r : Nat} {v : Value} {e : Int} (h : RdC w r v e) (he : (e != 0) = true) :
    Calls Try.prog 54 #[.pointer (some ⟨r, 0, none⟩)] w fun en w' => en = .returned (.int .i64 0) ∧ w = w' := by
  have H := Lib.hid h
  have HE := Lib.hid he
  clear h he
  go_enter Try.func54, Try.ntmps54
  go_wp2_with fail
  refine (read_I_bad H.out HE.out).mono ?_
  rintro en w' ⟨rfl, rfl⟩
  go_wp2
  go_ret
  exact ⟨rfl, rfl⟩
set_option maxHeartbeats 1000000 in
theorem call_I_nil {w : World} :
    Calls Try.prog 54 #[.pointer none] w fun en w' => en = .returned (.int .i64 0) ∧ w = w' := by
  go_enter Try.func54, Try.ntmps54
  go_wp2_with fail
  refine (read_I_nil).mono ?_
  rintro en w' ⟨rfl, rfl⟩
  go_wp2
  go_ret
  exact ⟨rfl, rfl⟩

end Go.Proofs.Ytdoliejihinpkaa
