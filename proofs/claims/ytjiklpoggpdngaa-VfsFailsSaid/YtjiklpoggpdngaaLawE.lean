/- VfsDurable: the calls of it in the words of Holds. -/
import Derived.Test.YtjiklpoggpdngaaLawD
import Derived.Test.YtjiklpoggpdngaaLawO
namespace Go.Proofs.Ytjiklpoggpdngaa
open Go.RowKit Go.Maps Go.Sort

/-- what is new is as little the directory's as what was known -/
theorem Holds.again {PB : Nat → Prop} {wP w w' : World} {d : Nat} {S : DS} (h : Holds PB wP w d S) (hb : BW w w') :
    ∃ PB' : Nat → Prop, (∀ b, PB b → PB' b) ∧ (∀ b, w.heap.size ≤ b → b < w'.heap.size → PB' b) ∧ Holds PB' w' w' d S := by
  obtain ⟨g, hr, hg⟩ := h.ex
  refine ⟨fun b => b < w'.heap.size ∧ g.role b = .no, fun b e => ⟨?_, hg b e⟩, fun b h1 h2 => ⟨h2, ?_⟩, ⟨⟨g, hr.frame hb.size (fun b e => hb.block b (hr.lt b e)), fun b e => e.2⟩, rfl, rfl, rfl, Nat.le_refl _, fun b e => e.1, fun b _ => rfl⟩⟩
  · have h1 := h.lt b e; have h2 := h.size; have h3 := hb.size; omega
  · apply Classical.byContradiction
    intro e
    have := hr.lt b e
    omega

theorem list_h {PB : Nat → Prop} {wP w : World} {d : Nat} {S : DS} (h : Holds PB wP w d S) (hc : Calm S) (hs : S.bd ≤ 1000000) : Calls Try.prog 35 #[.pointer (some ⟨d, 0, none⟩)] w (ListPost w S.now) := by
  obtain ⟨g, hr, _⟩ := h.ex
  exact list_any hr (Nat.le_trans hr.bnow hs) (calm_not_halted hc)
theorem read_h {PB : Nat → Prop} {wP w : World} {d : Nat} {S : DS} (h : Holds PB wP w d S) (s : ByteArray) (hs : s.size ≤ maxLen) : Calls Try.prog 11 #[.pointer (some ⟨d, 0, none⟩), .string s] w (ReadPost w S s.data.toList) := by
  obtain ⟨g, hr, _⟩ := h.ex
  exact read_any hr s hs
theorem Holds.asc {PB : Nat → Prop} {wP w : World} {d : Nat} {S : DS} (h : Holds PB wP w d S) : Asc S.now := by
  obtain ⟨g, hr, _⟩ := h.ex
  exact isdir_asc hr.now
theorem Holds.nl {PB : Nat → Prop} {wP w : World} {d : Nat} {S : DS} (h : Holds PB wP w d S) : ∀ p ∈ S.now, p.1.length ≤ maxLen := by
  obtain ⟨g, hr, _⟩ := h.ex
  exact isdir_names hr.now
theorem Holds.nowle {PB : Nat → Prop} {wP w : World} {d : Nat} {S : DS} (h : Holds PB wP w d S) : S.now.length ≤ S.bd := by
  obtain ⟨g, hr, _⟩ := h.ex
  exact hr.bnow

/-- a place of a source -/
theorem Src.at {w : World} {v : Value} {xs : List Value} (h : Src w v xs) {k : Nat} {u : Value} (hk : xs[k]? = some u) : ∃ b off c, v = .slice (some ⟨b, off, none⟩) xs.length c ∧ w.cell? ⟨b, off + k, none⟩ = some u := by
  rcases h with ⟨_, _, _, e2, _⟩ | ⟨b, off, c, hv, _, _, _, h4⟩
  · rw [e2] at hk; simp at hk
  · exact ⟨b, off, c, hv, h4 k u hk⟩
theorem row_base' {w : World} {base : Nat} {e : TypeId} {n : Nat} {v : Value} {xs : List Value} (h : w.ownsRow base e 1 v n xs) : ∀ a k c, v = .slice (some a) k c → base ≤ a.block := by
  intro a k c hv
  obtain ⟨_, h2 | ⟨g, cap, cur, hv', hb, _⟩⟩ := h
  · rw [h2.1] at hv; cases hv
  · rw [hv'] at hv; cases hv; exact hb

/-- a place of the names -/
theorem names_at {w : World} {v : Value} {S0 : DS} (h : Src w v ((S0.now.map (·.1)).map encStr)) {k : Nat} (hk : k < S0.now.length) : ∃ b off c, v = .slice (some ⟨b, off, none⟩) S0.now.length c ∧ w.cell? ⟨b, off + k, none⟩ = some (.string ⟨S0.now[k].1.toArray⟩) := by
  obtain ⟨b, off, c, h1, h2⟩ := h.at (k := k) (u := .string ⟨S0.now[k].1.toArray⟩) (by rw [List.getElem?_map, List.getElem?_map, List.getElem?_eq_getElem hk]; rfl)
  rw [List.length_map, List.length_map] at h1
  exact ⟨b, off, c, h1, h2⟩

theorem Coll.keepB {B : Nat} {w w' : World} {S : DS} {v : Value} {k : Nat} (h : Coll B w S v k) (hb : ∀ b, B ≤ b → b < w.heap.size → w'.heap[b]? = w.heap[b]?) : Coll B w' S v k := by
  obtain ⟨vs, h1, h2, h3⟩ := h
  exact ⟨vs, h1, row_keep h2 (fun a n c e => hb _ (row_base' h2 a n c e) (row_lt h2 e)), fun i hi hi' => row_keep (h3 i hi hi') (fun a n c e => hb _ (row_base' (h3 i hi hi') a n c e) (row_lt (h3 i hi hi') e))⟩

/-- held, of a directory with the names and the bytes of S0 -/
theorem held_same {PB : Nat → Prop} {wP w : World} {d : Nat} {S S0 S5 : DS} (h : Holds PB wP w d S) (hc : Calm S) (hgn : ∀ p ∈ S0.now, goodNm p.1 = true) (hN : S0.now.length ≤ 1000000) (hnm : S.now.map (·.1) = S0.now.map (·.1))
    (hfs : ∀ i (h1 : i < S.now.length) (h2 : i < S0.now.length), (S.fs S.now[i].2).1 = (S0.fs S0.now[i].2).1) {vn v : Value} (hn : Src w vn ((S0.now.map (·.1)).map encStr)) {B : Nat} (hv : Coll B w S5 v S0.now.length) (h5n : S5.now = S0.now)
    (h5r : ∀ i (h1 : i < S5.now.length) (h2 : i < S0.now.length), readR S5 S5.now[i].1 = ((S0.fs S0.now[i].2).1, 0)) :
    Calls Try.prog 26 #[.pointer (some ⟨d, 0, none⟩), vn, v] w (HeldPost w) := by
  obtain ⟨vs, g1, g2, g3⟩ := hv
  have hlen : S.now.length = S0.now.length := by have := congrArg List.length hnm; simpa using this
  have hgn' : ∀ p ∈ S.now, goodNm p.1 = true := by
    intro p hp
    have : p.1 ∈ S.now.map (·.1) := List.mem_map_of_mem hp
    rw [hnm] at this
    obtain ⟨q, hq, e⟩ := List.mem_map.1 this
    rw [← e]; exact hgn q hq
  have h5l : S5.now.length = S0.now.length := by rw [h5n]
  refine held_h (vs := vs) (bss := S0.now.map fun p => (S0.fs p.2).1) h (calm_not_halted hc) (by omega) (by rw [hnm]; exact hn) (Src.of_row g2) (by omega) (by simp [hlen]) ?_ ?_
  · intro i h1 h2
    rw [List.length_map] at h2
    have h3 := Src.of_row (g3 i h1 (by omega))
    rw [h5r i (by omega) h2] at h3
    rw [List.getElem_map]
    exact h3
  · intro i h1 h2
    rw [List.length_map] at h2
    rw [List.getElem_map, read_good hc hgn' h.asc h1, hfs i h1 h2]

theorem alldur_read {PB : Nat → Prop} {wP w : World} {d : Nat} {S0 S : DS} (h : Holds PB wP w d S) (ha : AllDur S0 S) (hgn : ∀ p ∈ S0.now, goodNm p.1 = true) : ∀ i (h1 : i < S.now.length) (h2 : i < S0.now.length), readR S S.now[i].1 = ((S0.fs S0.now[i].2).1, 0) := by
  intro i h1 h2
  rw [read_good ha.calm (by rw [ha.now]; exact hgn) h.asc h1, ha.bytes]
  simp only [ha.now]

end Go.Proofs.Ytjiklpoggpdngaa
