/- FrameOpens: the walk. -/
import Derived.Test.YtaaeaaahllicbaaFrmR
namespace Go.Proofs.Ytaaeaaahllicbaa
open Go.RowKit Go.Maps Crc

/-- what Open answers, in one -/
def erO (kind : UInt8) (bs : List UInt8) : Int := if 16777216 < bs.length then 3 else match openP kind bs with | none => 20 | some _ => 0
def ssO (kind : UInt8) (bs : List UInt8) : List (List UInt8) := if 16777216 < bs.length then [] else (openP kind bs).getD []
def OpenRes (w : World) (kind : UInt8) (bs : List UInt8) (e : Ending) (w' : World) : Prop := ∃ (v : Value) (vs : List Value), e = .returned (.tuple #[v, .int .i64 (erO kind bs)]) ∧ BW w w' ∧ Bag w' w.heap.size v vs (ssO kind bs)
theorem open_res {w w' : World} {kind : UInt8} {bs : List UInt8} {e : Ending} (h : OpenPost w kind bs e w') : OpenRes w kind bs e w' := by
  obtain ⟨v, er, rfl, hb, ⟨h1, rfl, rfl⟩ | ⟨h1, h2, rfl, rfl⟩ | ⟨h1, ss, vs, h2, rfl, hbag⟩⟩ := h
  · refine ⟨.slice none 0 0, [], ?_, hb, ?_⟩
    · unfold erO; rw [if_pos h1]
    · unfold ssO; rw [if_pos h1]; exact Bag.nil _ _
  · refine ⟨.slice none 0 0, [], ?_, hb, ?_⟩
    · unfold erO; rw [if_neg (by omega), h2]
    · unfold ssO; rw [if_neg (by omega), h2]; exact Bag.nil _ _
  · refine ⟨v, vs, ?_, hb, ?_⟩
    · unfold erO; rw [if_neg (by omega), h2]
    · unfold ssO; rw [if_neg (by omega), h2]; exact hbag
theorem ssO_len (kind : UInt8) (bs : List UInt8) : (ssO kind bs).length ≤ 1024 ∧ ∀ s ∈ ssO kind bs, s.length ≤ 16777216 := by
  unfold ssO
  by_cases h : 16777216 < bs.length
  · rw [if_pos h]; exact ⟨by decide, fun s hs => by cases hs⟩
  · rw [if_neg h]
    cases ho : openP kind bs with
    | none => exact ⟨by decide, fun s hs => by cases hs⟩
    | some ss =>
      obtain ⟨h1, h2⟩ := open_some ho (by omega)
      unfold sealP at h2
      split at h2
      · cases h2
      · rename_i hn
        refine ⟨by show ss.length ≤ 1024; omega, fun s hs => ?_⟩
        have h3 := sealF_len kind ss
        have hs' : s ∈ ss := hs
        have h4 : s.length ≤ ss.flatten.length := by
          obtain ⟨a, b, rfl⟩ := List.append_of_mem hs'
          simp; omega
        omega
theorem Bag.cells {w : World} {B : Nat} {v : Value} {vs : List Value} {ss : List (List UInt8)} (h : Bag w B v vs ss) : ∀ u ∈ vs, u.oneCell' = true := fun u hu => by
  obtain ⟨j, hj⟩ := List.getElem?_of_mem hu
  obtain ⟨s, _, hr⟩ := h.elem hj
  obtain ⟨a, n, c, rfl⟩ := row_form hr
  rfl

/-- rows whose blocks are all different have roles -/
theorem ap_of {W : World} {B N : Nat} {V : Nat → Value} {n : Nat → Nat} (hrow : ∀ j, j < N → ∃ C : List UInt8, W.ownsRow B 5 1 (V j) (n j) (C.map bV)) (hd : ∀ i j b, i < N → j < N → (V i).ownBlock = some b → (V j).ownBlock = some b → i = j) :
    ∃ role : Nat → Option Nat, Ap1 W B N V n role 0 0 ∧ (∀ x, role x ≠ some N) ∧ ∀ b, role b ≠ none → ∃ j, j < N ∧ (V j).ownBlock = some b := by
  have hfind (b j : Nat) (h : (List.range N).find? (fun j => (V j).ownBlock == some b) = some j) : j < N ∧ (V j).ownBlock = some b := by
    have h1 := List.mem_of_find?_eq_some h
    have h2 := List.find?_some h
    exact ⟨List.mem_range.1 h1, by simpa using h2⟩
  refine ⟨fun b => (List.range N).find? fun j => (V j).ownBlock == some b, ⟨fun j hj => ?_, fun j hj a m c e => ?_, ⟨fun b hb => ?_⟩, fun b hb => ?_⟩, fun x h => ?_, fun b hb => ?_⟩
  · obtain ⟨C, hC⟩ := hrow j hj
    exact ⟨C, hC, fun h => by omega, fun _ => by simp [full1]⟩
  · have hV : (V j).ownBlock = some a.block := by rw [e]; rfl
    cases hf : (List.range N).find? fun j => (V j).ownBlock == some a.block with
    | none =>
      have := List.find?_eq_none.1 hf j (List.mem_range.2 hj)
      simp [hV] at this
    | some k =>
      obtain ⟨hk, hk2⟩ := hfind _ _ hf
      exact congrArg some (hd k j _ hk hj hk2 hV)
  · cases hf : (List.range N).find? fun j => (V j).ownBlock == some b with
    | none => exact absurd hf hb
    | some k =>
      obtain ⟨hk, hk2⟩ := hfind _ _ hf
      obtain ⟨C, hC⟩ := hrow k hk
      exact (row_block hC hk2).2
  · cases hf : (List.range N).find? fun j => (V j).ownBlock == some b with
    | none => exact absurd hf hb
    | some k =>
      obtain ⟨hk, hk2⟩ := hfind _ _ hf
      obtain ⟨C, hC⟩ := hrow k hk
      exact (row_block hC hk2).1
  · exact absurd (hfind _ _ h).1 (Nat.lt_irrefl N)
  · cases hf : (List.range N).find? fun j => (V j).ownBlock == some b with
    | none => exact absurd hf hb
    | some k => exact ⟨k, hfind _ _ hf⟩

set_option maxHeartbeats 2000000 in
set_option maxRecDepth 100000 in
theorem apart_nil (w : World) : Calls Try.prog 16 #[.slice none 0 0] w fun e w' => e = .returned (.bool true) ∧ w = w' := by
  go_enter Try.func16, Try.ntmps16
  go_wp2
  go_loopg [3] 0 (fun g s3 wx => s3 = .int .i64 0 ∧ w = wx)
  case atStart => exact ⟨rfl, rfl⟩
  case round =>
    obtain ⟨rfl, rfl⟩ := hrel
    go_wp2
    go_loopg [6] 0 (fun g s6 wx => s6 = .int .i64 0 ∧ w = wx)
    case atStart => exact ⟨rfl, rfl⟩
    case round =>
      obtain ⟨rfl, rfl⟩ := hrel
      go_wp2
      go_loopg [9] 0 (fun g s9 wx => s9 = .int .i64 0 ∧ w = wx)
      case atStart => exact ⟨rfl, rfl⟩
      case round =>
        obtain ⟨rfl, rfl⟩ := hrel
        go_wp2
        go_ret
        exact ⟨rfl, rfl⟩

/-- two bags, one behind the other, side by side -/
theorem bags_apart {w1 w2 w3 W : World} {va vb : List Value} {v1 v2 : Value} {sa sb : List (List UInt8)} (ha : Bag w2 w1.heap.size v1 va sa) (hb : Bag w3 w2.heap.size v2 vb sb) (h12 : w1.heap.size ≤ w2.heap.size) (h23 : w2.heap.size ≤ w3.heap.size) (hk2 : ∀ b, w1.heap.size ≤ b → b < w2.heap.size → W.heap[b]? = w2.heap[b]?) (hk3 : ∀ b, w2.heap.size ≤ b → b < w3.heap.size → W.heap[b]? = w3.heap[b]?) :
    ∃ (V : Nat → Value) (n : Nat → Nat) (role : Nat → Option Nat), (List.range (va ++ vb).length).map V = va ++ vb ∧ Ap1 W w1.heap.size (va ++ vb).length V n role 0 0 ∧ (∀ x, role x ≠ some (va ++ vb).length) ∧ (∀ b, role b ≠ none → w1.heap.size ≤ b ∧ b < w3.heap.size) ∧ ∀ j, j < (va ++ vb).length → ∃ s, (s ∈ sa ∨ s ∈ sb) ∧ n j = s.length := by
  have hla := ha.len
  have hlb := hb.len
  have hV : (List.range (va ++ vb).length).map (fun j => ((va ++ vb)[j]?).getD (.slice none 0 0)) = va ++ vb := by
    apply List.ext_getElem?
    intro i
    rw [List.getElem?_map]
    rcases Nat.lt_or_ge i (va ++ vb).length with h | h
    · rw [List.getElem?_range h]
      show some (((va ++ vb)[i]?).getD _) = _
      rw [List.getElem?_eq_getElem h]; rfl
    · rw [List.getElem?_eq_none (by simpa using h), List.getElem?_eq_none h]; rfl
  have hget : ∀ j, j < (va ++ vb).length → (j < va.length ∧ ∃ x s, va[j]? = some x ∧ sa[j]? = some s ∧ ((va ++ vb)[j]?).getD (.slice none 0 0) = x ∧ ((sa ++ sb)[j]?).getD [] = s) ∨ (va.length ≤ j ∧ ∃ x s, vb[j - va.length]? = some x ∧ sb[j - va.length]? = some s ∧ ((va ++ vb)[j]?).getD (.slice none 0 0) = x ∧ ((sa ++ sb)[j]?).getD [] = s) := fun j hj => by
    rcases Nat.lt_or_ge j va.length with h | h
    · refine .inl ⟨h, _, _, List.getElem?_eq_getElem h, List.getElem?_eq_getElem (by omega), ?_, ?_⟩
      · rw [List.getElem?_append_left h, List.getElem?_eq_getElem h]; rfl
      · rw [List.getElem?_append_left (by omega), List.getElem?_eq_getElem (by omega)]; rfl
    · have hj' : j - va.length < vb.length := by rw [List.length_append] at hj; omega
      refine .inr ⟨h, _, _, List.getElem?_eq_getElem hj', List.getElem?_eq_getElem (by omega), ?_, ?_⟩
      · rw [List.getElem?_append_right h, List.getElem?_eq_getElem hj']; rfl
      · rw [List.getElem?_append_right (by omega), ← hla, List.getElem?_eq_getElem (by omega)]; rfl
  have hrow : ∀ j, j < (va ++ vb).length → ∃ C : List UInt8, W.ownsRow w1.heap.size 5 1 (((va ++ vb)[j]?).getD (.slice none 0 0)) (((sa ++ sb)[j]?).getD []).length (C.map bV) := fun j hj => by
    rcases hget j hj with ⟨_, x, s, h1, h2, h3, h4⟩ | ⟨_, x, s, h1, h2, h3, h4⟩
    · rw [h3, h4]
      have hr := ha.row _ x s h1 h2
      exact ⟨s, row_keepB hr fun b e => hk2 b (row_block hr e).1 (row_block hr e).2⟩
    · rw [h3, h4]
      have hr := hb.row _ x s h1 h2
      exact ⟨s, row_base (row_keepB hr fun b e => hk3 b (row_block hr e).1 (row_block hr e).2) h12⟩
  have hblk : ∀ j b, j < (va ++ vb).length → (((va ++ vb)[j]?).getD (.slice none 0 0)).ownBlock = some b → (j < va.length → w1.heap.size ≤ b ∧ b < w2.heap.size) ∧ (va.length ≤ j → w2.heap.size ≤ b ∧ b < w3.heap.size) := fun j b hj e => by
    rcases hget j hj with ⟨hlt, x, s, h1, h2, h3, h4⟩ | ⟨hge, x, s, h1, h2, h3, h4⟩
    · rw [h3] at e
      exact ⟨fun _ => row_block (ha.row _ x s h1 h2) e, fun h => by omega⟩
    · rw [h3] at e
      exact ⟨fun h => by omega, fun _ => row_block (hb.row _ x s h1 h2) e⟩
  have hd : ∀ i j b, i < (va ++ vb).length → j < (va ++ vb).length → (((va ++ vb)[i]?).getD (.slice none 0 0)).ownBlock = some b → (((va ++ vb)[j]?).getD (.slice none 0 0)).ownBlock = some b → i = j := fun i j b hi hj ei ej => by
    have bi := hblk i b hi ei
    have bj := hblk j b hj ej
    rcases hget i hi with ⟨hlt, x, s, h1, h2, h3, h4⟩ | ⟨hge, x, s, h1, h2, h3, h4⟩ <;> rcases hget j hj with ⟨glt, y, t, g1, g2, g3, g4⟩ | ⟨gge, y, t, g1, g2, g3, g4⟩
    · rw [h3] at ei; rw [g3] at ej
      exact ha.apart i j x y b h1 g1 ei ej
    · have := (bi.1 hlt).2; have := (bj.2 gge).1; omega
    · have := (bj.1 glt).2; have := (bi.2 hge).1; omega
    · rw [h3] at ei; rw [g3] at ej
      have := hb.apart _ _ x y b h1 g1 ei ej
      omega
  obtain ⟨role, h1, h2, h3⟩ := ap_of hrow hd
  refine ⟨_, _, role, hV, h1, h2, fun b hb' => ?_, fun j hj => ?_⟩
  · obtain ⟨j, hj, e⟩ := h3 b hb'
    have hbj := hblk j b hj e
    rcases Nat.lt_or_ge j va.length with h | h
    · have h4 := hbj.1 h
      exact ⟨h4.1, by omega⟩
    · have h4 := hbj.2 h
      exact ⟨by omega, h4.2⟩
  · rcases hget j hj with ⟨_, x, s, g1, g2, g3, g4⟩ | ⟨_, x, s, g1, g2, g3, g4⟩
    · exact ⟨s, .inl (List.mem_of_getElem? g2), by show (((sa ++ sb)[j]?).getD []).length = _; rw [g4]⟩
    · exact ⟨s, .inr (List.mem_of_getElem? g2), by show (((sa ++ sb)[j]?).getD []).length = _; rw [g4]⟩
end Go.Proofs.Ytaaeaaahllicbaa
