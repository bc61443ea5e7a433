/- The program's reader, step by step, over a reading of a sealed file. -/
import Derived.Test.YtaaeaaahllicbaaFrmK
import Derived.Test.YtaaeaaahllicbaaCodL
import Derived.Test.YtaaeaaahllicbaaCodQ
namespace Go.Proofs.Ytaaeaaahllicbaa
open Go.RowKit Go.Maps Crc
namespace PrgR
def StS (w : World) (r c : Nat) (l : List UInt8) (g : Nat) (zs : List Nat) : Prop :=
  (∃ p, Rd w r c (l.drop p) 0 ∧ restP l = ((sizesP g (l.drop p)).map fun q => (zs ++ q.1, q.2)).bind finP) ∨ (∃ p, Rd w r c (l.drop p) 20 ∧ restP l = none)
def StC (w : World) (r c : Nat) (l : List UInt8) (ns : List Nat) (ss : List (List UInt8)) : Prop :=
  (∃ p, Rd w r c (l.drop p) 0 ∧ restP l = ((cutP ns (l.drop p)).map fun q => (ss ++ q.1, q.2)).bind finQ) ∨ (∃ p, Rd w r c (l.drop p) 20 ∧ restP l = none)
theorem StS.keep {w w' : World} {r c : Nat} {l : List UInt8} {g : Nat} {zs : List Nat} (h : StS w r c l g zs) {B : Nat} (hr : r < B) (hc : c < B) (hs : w.heap.size ≤ w'.heap.size) (hk : ∀ b, b < B → w'.heap[b]? = w.heap[b]?) : StS w' r c l g zs := by
  rcases h with ⟨p, h, h2⟩ | ⟨p, h, h2⟩
  · exact .inl ⟨p, h.keep hs (hk r hr) (fun _ => hk c hc), h2⟩
  · exact .inr ⟨p, h.keep hs (hk r hr) (fun _ => hk c hc), h2⟩
theorem StC.keep {w w' : World} {r c : Nat} {l : List UInt8} {ns : List Nat} {ss : List (List UInt8)} (h : StC w r c l ns ss) {B : Nat} (hr : r < B) (hc : c < B) (hs : w.heap.size ≤ w'.heap.size) (hk : ∀ b, b < B → w'.heap[b]? = w.heap[b]?) : StC w' r c l ns ss := by
  rcases h with ⟨p, h, h2⟩ | ⟨p, h, h2⟩
  · exact .inl ⟨p, h.keep hs (hk r hr) (fun _ => hk c hc), h2⟩
  · exact .inr ⟨p, h.keep hs (hk r hr) (fun _ => hk c hc), h2⟩
theorem StS.done {w : World} {r c : Nat} {l : List UInt8} {zs : List Nat} (h : StS w r c l 0 zs) : StC w r c l zs [] := by
  rcases h with ⟨p, h, h2⟩ | h
  · exact .inl ⟨p, h, by rw [h2, sizes_end]⟩
  · exact .inr h
def CountPost (w : World) (r c : Nat) (l : List UInt8) (e : Ending) (w' : World) : Prop := ∃ k : Nat, k ≤ 1024 ∧ e = .returned (.int .i64 (k : Int)) ∧ Moves (fun b => b = r) w w' ∧ StS w' r c l k []
def SizePost (w : World) (r c : Nat) (l : List UInt8) (g : Nat) (zs : List Nat) (e : Ending) (w' : World) : Prop := ∃ z : Nat, z ≤ 16777216 ∧ e = .returned (.int .i64 (z : Int)) ∧ Moves (fun b => b = r) w w' ∧ StS w' r c l g (zs ++ [z])
def CutPost (w : World) (r c : Nat) (l : List UInt8) (ns : List Nat) (ss : List (List UInt8)) (e : Ending) (w' : World) : Prop := ∃ (x : Value) (t : List UInt8), e = .returned x ∧ Moves (fun b => b = r) w w' ∧ w'.ownsRow w.heap.size 5 1 x t.length (t.map bV) ∧ StC w' r c l ns (ss ++ [t])
def EndR (w : World) (r : Nat) (l : List UInt8) (ss : List (List UInt8)) (e : Ending) (w' : World) : Prop := ∃ er : Int, e = .returned (.int .i64 er) ∧ Moves (fun b => b = r) w w' ∧ ((er = 0 ∧ restP l = some ss) ∨ (er = 20 ∧ restP l = none))
theorem count_any {w : World} {r c : Nat} {l : List UInt8} (h : Rd w r c l 0) : Calls Try.prog 40 #[.pointer (some ⟨r, 0, none⟩), .int .i64 1024] w (CountPost w r c l) := by
  refine (call_S h 1024 (by decide) (by decide)).mono ?_
  rintro e w' ⟨x, rfl, hm, ⟨k, hd, hr⟩ | ⟨hd, rfl, hr⟩⟩
  · obtain ⟨u, hs, rfl⟩ := DocR.dS_some hd
    obtain ⟨h1, h2⟩ := rest_yes hs
    exact ⟨u, h1, rfl, hm, .inl ⟨k, hr, h2⟩⟩
  · exact ⟨0, by decide, rfl, hm, .inr ⟨0, by rw [List.drop_zero]; exact hr, rest_none (DocR.dS_none hd)⟩⟩
theorem size_any {w : World} {r c : Nat} {l : List UInt8} {g : Nat} {zs : List Nat} (h : StS w r c l (g + 1) zs) : Calls Try.prog 40 #[.pointer (some ⟨r, 0, none⟩), .int .i64 16777216] w (SizePost w r c l g zs) := by
  rcases h with ⟨p, h, h2⟩ | ⟨p, h, h2⟩
  · refine (call_S h 16777216 (by decide) (by decide)).mono ?_
    rintro e w' ⟨x, rfl, hm, ⟨k, hd, hr⟩ | ⟨hd, rfl, hr⟩⟩
    · obtain ⟨u, hs, rfl⟩ := DocR.dS_some hd
      obtain ⟨h1, h3⟩ := sizes_go (j := g) (zs := zs) hs
      refine ⟨u, h1, rfl, hm, .inl ⟨p + k, by rw [← List.drop_drop]; exact hr, ?_⟩⟩
      rw [h2, h3, List.drop_drop]
    · refine ⟨0, by decide, rfl, hm, .inr ⟨p, hr, ?_⟩⟩
      rw [h2, sizes_bad (DocR.dS_none hd)]; rfl
  · obtain ⟨v, hx, _⟩ := h.ex
    refine (call_S_bad hx (by decide) 16777216).mono ?_
    rintro e w' ⟨rfl, hb⟩
    exact ⟨0, by decide, rfl, Moves.of_below hb _, .inr ⟨p, h.below hb, h2⟩⟩
theorem cut_any {w : World} {r c : Nat} {l : List UInt8} {n : Nat} {ns : List Nat} {ss : List (List UInt8)} (h : StC w r c l (n :: ns) ss) (hn : n ≤ 16777216) : Calls Try.prog 41 #[.pointer (some ⟨r, 0, none⟩), .int .i64 (n : Int)] w (CutPost w r c l ns ss) := by
  rcases h with ⟨p, h, h2⟩ | ⟨p, h, h2⟩
  · refine (call_B h (n : Int) (by omega) (by omega)).mono ?_
    rintro e w' ⟨x, rfl, hm, ⟨m, ⟨hok, hmn, ho⟩, hr⟩ | ⟨hno, rfl, hr⟩⟩
    · obtain rfl : m = n := by omega
      have hle : m ≤ (l.drop p).length := by unfold BytesOk at hok; omega
      refine ⟨x, (l.drop p).take m, rfl, hm, ?_, .inl ⟨p + m, by rw [← List.drop_drop]; exact hr, ?_⟩⟩
      · rw [List.length_take, Nat.min_eq_left hle]; exact ho
      · rw [h2, cut_go hle, List.drop_drop]
    · refine ⟨_, [], rfl, hm, World.ownsRow_nil _ _ _ _, .inr ⟨p, hr, ?_⟩⟩
      rw [h2, cut_bad (by unfold BytesOk at hno; omega)]; rfl
  · obtain ⟨v, hx, _⟩ := h.ex
    refine (call_B_bad hx (by decide) (n : Int)).mono ?_
    rintro e w' ⟨rfl, hb⟩
    exact ⟨_, [], rfl, Moves.of_below hb _, World.ownsRow_nil _ _ _ _, .inr ⟨p, h.below hb, h2⟩⟩
theorem end_rest {w : World} {r c : Nat} {l : List UInt8} {ss : List (List UInt8)} (h : StC w r c l [] ss) : Calls Try.prog 42 #[.pointer (some ⟨r, 0, none⟩)] w (EndR w r l ss) := by
  rcases h with ⟨p, h, h2⟩ | ⟨p, h, h2⟩
  · refine (end_any h).mono ?_
    rintro e w' ⟨rfl, hm, _⟩
    rw [cut_end] at h2
    by_cases hp : l.drop p = []
    · exact ⟨0, by rw [if_pos hp], hm, .inl ⟨rfl, by rw [h2, if_pos hp]⟩⟩
    · exact ⟨20, by rw [if_neg hp], hm, .inr ⟨rfl, by rw [h2, if_neg hp]⟩⟩
  · refine (end_any h).mono ?_
    rintro e w' ⟨rfl, hm, _⟩
    exact ⟨20, by split <;> rfl, hm, .inr ⟨rfl, h2⟩⟩
end PrgR
end Go.Proofs.Ytaaeaaahllicbaa
