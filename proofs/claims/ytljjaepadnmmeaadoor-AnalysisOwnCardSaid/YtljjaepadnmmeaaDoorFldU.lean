/- FoldBack: the walk. -/
import Derived.Test.YtljjaepadnmmeaaDoorFldT
import Derived.Deep.RegionLaw
import Derived.Deep.AppendLies
import Derived.Deep.RegionHeld3
namespace Go.Proofs.YtljjaepadnmmeaaDoor
open Go.RowKit Go.Maps Fld Go.Shelf
attribute [local go_sem] Oper.semAt_some

def zV (z : Int) : Value := .int .i32 z
def sel (l : List Int) : List Nat := (l.filter isRune).map Int.toNat
theorem sel_yes {l : List Int} {z : Int} (h : isRune z = true) : sel (l ++ [z]) = sel l ++ [z.toNat] := by
  unfold sel; rw [List.filter_append, List.map_append]; simp [h]
theorem sel_no {l : List Int} {z : Int} (h : isRune z = false) : sel (l ++ [z]) = sel l := by
  unfold sel; rw [List.filter_append, List.map_append]; simp [h]
theorem sel_len (l : List Int) : (sel l).length ≤ l.length := by unfold sel; rw [List.length_map]; exact List.length_filter_le _ _
theorem sel_rune {l : List Int} : ∀ r ∈ sel l, isRune (r : Int) = true := by
  intro r hr
  obtain ⟨z, hz, rfl⟩ := List.mem_map.1 hr
  have h := (List.mem_filter.1 hz).2
  have h0 : 0 ≤ z := by unfold isRune at h; rw [decide_eq_true_eq] at h; exact h.1
  rw [Int.toNat_of_nonneg h0]; exact h
theorem forms_len : ∀ (rs : List Nat), (rs.flatMap formP).length ≤ 4 * rs.length
  | [] => by simp
  | r :: rs => by
    rw [List.flatMap_cons, List.length_append, List.length_cons]
    have h1 := forms_len rs
    have h2 : (formP r).length ≤ 4 := by rw [form_len]; split <;> (try split) <;> (try split) <;> omega
    omega
theorem places_forms : ∀ (rs : List Nat) (k : Nat), (placesC k (rs.map fun r => (r, formP r))).map (·.2) = rs
  | [], _ => rfl
  | r :: rs, k => by rw [List.map_cons, placesC, List.map_cons, places_forms rs]
theorem places_of {rs : List Nat} (h : ∀ r ∈ rs, isRune (r : Int) = true) : (placesL (rs.flatMap formP)).map (·.2) = rs := by
  unfold placesL; rw [cuts_forms rs h, places_forms]
theorem src_blk {w : World} {a : Addr} {n cap : Nat} {xs : List Value} (h : Src w (.slice (some a) n cap) xs) {i : Nat} {u : Value} (hu : xs[i]? = some u) : a.block < w.heap.size := by
  obtain ⟨b, off, e, hc⟩ := src_get h hu
  cases e
  exact World.block_lt_of_cell? w ⟨b, off + i, none⟩ hc
theorem boxed_drew {W : World} {B : Nat} {t : TypeId} {v : Value} (h : Boxed W B t v) : Boxed W.drew B t v := h
theorem back_end {w1 Wx w3 : World} {D m : Nat} {vw v6 : Value} {rs : List Nat} (hD : D = w1.heap.size) (hb : Boxed Wx D 64 vw) (hr : Wx.ownsRow D 21 1 vw rs.length (rs.map rV)) (hbw : BW w1 Wx)
    (hown : w3.ownsRow D 21 1 v6 (rs.length + 1) (rs.map rV ++ [Value.int .i32 (m : Int)])) (hg : Wx.grownBy w3 vw.ownBlock) :
    Boxed w3 D 64 vw ∧ Boxed (w3.setCell ⟨D, 0, none⟩ v6) D 64 v6 ∧ (w3.setCell ⟨D, 0, none⟩ v6).ownsRow D 21 1 v6 (rs ++ [m]).length ((rs ++ [m]).map rV) ∧ BW w1 (w3.setCell ⟨D, 0, none⟩ v6) := by
  have b1 : Boxed w3 D 64 vw := hb.kept hg (hb.not_row (by decide) hr)
  refine ⟨b1, b1.set v6, ?_, ?_⟩
  · rw [List.map_append, List.length_append]
    exact hown.kept (grownBy_setCell' w3 _ v6) (.inr (b1.not_row (by decide) hown).symm)
  · exact (bw_grown hbw hg (fun j e => by have := row_own hr j e; omega)).setCell (p := ⟨D, 0, none⟩) (by show w1.heap.size ≤ D; omega) _
end Go.Proofs.YtljjaepadnmmeaaDoor
