/- ApartBytes: the plain steps. -/
import Derived.Test.YtaaeaaahllicbaaKitD
namespace Go.Proofs.Ytaaeaaahllicbaa
open Go.RowKit Go.Maps

/-- how V j looks -/
def VForm (v : Value) (n : Nat) : Prop := (v = .slice none 0 0 ∧ n = 0) ∨ ∃ g c, v = .slice (some ⟨g, 0, none⟩) n c
theorem vform_row {w : World} {B : Nat} {e : TypeId} {v : Value} {n : Nat} {xs : List Value} (h : w.ownsRow B e 1 v n xs) : VForm v n := by
  obtain ⟨_, h2 | ⟨g, cap, cur, hv, _⟩⟩ := h
  · exact .inl h2
  · exact .inr ⟨g, cap, hv⟩

theorem Ap1.done {w : World} {B N : Nat} {V : Nat → Value} {n : Nat → Nat} {role : Nat → Option Nat} (h : Ap1 w B N V n role N 0) (hN : ∀ b, role b ≠ some N) : Ap2 w B N V n role (fun _ => .slice none 0 0) (.slice none 0 0) 0 := by
  have h1 : ∀ j, j < N → w.ownsRow B 5 1 (V j) (n j) ((full1 j (n j)).map bV) := fun j hj => by
    obtain ⟨C, g1, g2, _⟩ := h.row j hj
    rw [← g2 hj]; exact g1
  exact ⟨fun j hj => Src.of_row (h1 j hj), fun j _ hj => h1 j hj, fun j hj => by omega, h.rol, fun j hj => by omega, ⟨rfl, .inl ⟨rfl, rfl⟩⟩, (fun a m c e => by cases e), h.roles, h.rb⟩

structure Ap3 (w : World) (B N : Nat) (V : Nat → Value) (n : Nat → Nat) (role : Nat → Option Nat) (M : Nat → Value) (mv : Value) (i : Nat) (L : Value) (k : Nat) : Prop where
  src : ∀ j, j < N → Src w (V j) ((full1 j (n j)).map bV)
  own : ∀ j, i < j → j < N → w.ownsRow B 5 1 (V j) (n j) ((full1 j (n j)).map bV)
  done : ∀ j, j < i → w.ownsRow B 5 1 (M j) (n j + 70) ((full1 j (n j) ++ full2 j 70).map bV)
  rol : ∀ j, j < N → Rol role j (V j)
  mrol : ∀ j, j < i → Rol role j (M j)
  more : w.ownsRow B 23 1 mv i ((List.range i).map M)
  morol : Rol role N mv
  roles : Roles w role
  rb : ∀ b, role b ≠ none → B ≤ b
  row : w.ownsRow B 5 1 L (n i + k) ((full1 i (n i) ++ full2 i k).map bV)
  lrol : Rol role i L

theorem Ap2.enter {w : World} {B N : Nat} {V : Nat → Value} {n : Nat → Nat} {role : Nat → Option Nat} {M : Nat → Value} {mv : Value} {i : Nat} (h : Ap2 w B N V n role M mv i) (hi : i < N) : Ap3 w B N V n role M mv i (V i) 0 :=
  ⟨h.src, fun j hj hN => h.own j (by omega) hN, h.done, h.rol, h.mrol, h.more, h.morol, h.roles, h.rb, by have := h.own i (Nat.le_refl _) hi; simpa [full2] using this, h.rol i hi⟩

theorem Ap3.step {w w' : World} {B N : Nat} {V : Nat → Value} {n : Nat → Nat} {role : Nat → Option Nat} {M : Nat → Value} {mv : Value} {i : Nat} {L L' : Value} {k : Nat} (h : Ap3 w B N V n role M mv i L k) (hi : i < N) (hB : B ≤ w.heap.size) (hf : VForm (V i) (n i)) {o : Obj} (ha : App L L' (w.alloc o) w')
    (hr : w'.ownsRow B 5 1 L' (n i + k + 1) ((full1 i (n i) ++ full2 i k ++ [mk2 i k]).map bV)) : ∃ role', Ap3 w' B N V n role' M mv i L' (k + 1) ∧ Turn i role role' w w' := by
  obtain ⟨role', t, hr', hl', hnew⟩ := ha.turn h.lrol (h.roles.alloc o) (fun a n c e => row_lt hr e)
  have t' : Turn i role role' w w' := ((Turn.refl i role w).alloc o).trans t
  refine ⟨role', ⟨fun j hj => ?_, fun j hj hN => t'.row (h.own j hj hN) (h.rol j hN) (by omega), fun j hj => t'.row (h.done j hj) (h.mrol j hj) (by omega), fun j hj => t'.rol h.roles (h.rol j hj), fun j hj => t'.rol h.roles (h.mrol j hj), t'.row h.more h.morol (by omega), t'.rol h.roles h.morol, hr', fun b hb => ?_, ?_, hl'⟩, t'⟩
  · by_cases e : j = i
    · subst e
      have hs := h.src j hj
      rcases hf with ⟨hv, hz⟩ | ⟨g, c, hv⟩
      · rw [hv]; rw [hz]; exact Src.nil _
      · rcases ha with ⟨g', n1, c1, n2, c2, rfl, rfl, hgr⟩ | ⟨hgr, _⟩
        · by_cases e2 : g = g'
          · subst e2
            rw [hv] at hs ⊢
            rcases hs with ⟨ao, cp, e3, e4, e5, e6⟩ | ⟨b, off, cp, e3, e4, e5, _, _⟩
            · exact .inl ⟨ao, cp, e3, e4, e5, e6⟩
            · injection e3 with e7 _ e8
              cases e7; subst e8
              refine .inr ⟨g, 0, c, by rw [List.length_map, full1_len], e4, e5, row_lt hr rfl, fun m u hu => ?_⟩
              obtain ⟨hm, he⟩ := List.getElem?_eq_some_iff.1 hu
              have hm' : m < ((full1 j (n j) ++ full2 j k ++ [mk2 j k]).map bV).length := by
                rw [List.length_map] at hm ⊢; rw [List.length_append, List.length_append]; omega
              have hc := (row_cell hr rfl hm').1
              simp only [Nat.zero_add] at hc ⊢
              rw [hc, ← he]
              congr 1
              simp only [List.map_append, List.append_assoc]
              rw [List.getElem_append_left hm]
          · refine hs.keep (Nat.le_trans (by simp) hgr.size) fun hne a n3 c3 e3 => ?_
            rw [hv] at e3; cases e3
            have hlt : g < w.heap.size := h.roles.lt g (by rw [h.rol j hj _ _ _ hv]; simp)
            exact (hgr.block g (by simp; omega) (by intro e4; injection e4 with e4; exact e2 e4)).trans (Below.heap_alloc _ _ _ hlt)
        · refine hs.keep (Nat.le_trans (by simp) hgr.size) fun hne a n3 c3 e3 => ?_
          rw [hv] at e3; cases e3
          have hlt : g < w.heap.size := h.roles.lt g (by rw [h.rol j hj _ _ _ hv]; simp)
          exact (hgr.block g (by simp; omega) (by simp)).trans (Below.heap_alloc _ _ _ hlt)
    · exact t'.src (h.src j hj) (h.rol j hj) h.roles e
  · rcases hnew b hb with h1 | h1
    · exact h.rb b h1
    · simp at h1; omega
  · rw [full2_succ, ← List.append_assoc, ← Nat.add_assoc]; exact hr

theorem Ap3.leave {w w' : World} {B N : Nat} {V : Nat → Value} {n : Nat → Nat} {role : Nat → Option Nat} {M : Nat → Value} {mv mv' : Value} {i : Nat} {L : Value} (h : Ap3 w B N V n role M mv i L 70) (hi : i < N) (hB : B ≤ w.heap.size) {o : Obj} (ha : App mv mv' (w.alloc o) w')
    (hr : w'.ownsRow B 23 1 mv' (i + 1) ((List.range i).map M ++ [L])) : ∃ role' M', Ap2 w' B N V n role' M' mv' (i + 1) ∧ Turn N role role' w w' := by
  obtain ⟨role', t, hr', hl', hnew⟩ := ha.turn h.morol (h.roles.alloc o) (fun a n c e => row_lt hr e)
  have t' : Turn N role role' w w' := ((Turn.refl N role w).alloc o).trans t
  refine ⟨role', fun j => if j = i then L else M j, ⟨fun j hj => t'.src (h.src j hj) (h.rol j hj) h.roles (by omega), fun j hj hN => t'.row (h.own j hj hN) (h.rol j hN) (by omega), fun j hj => ?_, fun j hj => t'.rol h.roles (h.rol j hj), fun j hj => ?_, ?_, hl', hr', fun b hb => ?_⟩, t'⟩
  · by_cases e : j = i
    · subst e; simp only [if_true]; exact t'.row h.row h.lrol (by omega)
    · simp only [if_neg e]; exact t'.row (h.done j (by omega)) (h.mrol j (by omega)) (by omega)
  · by_cases e : j = i
    · subst e; simp only [if_true]; exact t'.rol h.roles h.lrol
    · simp only [if_neg e]; exact t'.rol h.roles (h.mrol j (by omega))
  · have e : (List.range (i + 1)).map (fun j => if j = i then L else M j) = (List.range i).map M ++ [L] := by
      rw [List.range_succ, List.map_append]
      congr 1
      · refine List.map_congr_left fun j hj => ?_
        rw [if_neg (by have := List.mem_range.1 hj; omega)]
      · simp
    rw [e]; exact hr
  · rcases hnew b hb with h1 | h1
    · exact h.rb b h1
    · simp at h1; omega

end Go.Proofs.Ytaaeaaahllicbaa
