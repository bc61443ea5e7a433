/- takeText, takeBytes. -/
import Derived.Test.YtdoliejihinpkaaCodD
namespace Go.Proofs.Ytdoliejihinpkaa
open Go.RowKit Go.Maps

theorem Src.taken {w : World} {ao : Option Addr} {n cap : Nat} {xs : List Value} (h : Src w (.slice ao n cap) xs) {m : Nat} (hm : m ≤ xs.length) : Src w (.slice ao m cap) (xs.take m) := by
  rcases h with ⟨ao', c', e, e2, h5, h6⟩ | ⟨b', off', c, hv, h1, h2, h3, h4⟩
  · cases e
    subst e2
    have : m = 0 := by simpa using hm
    subst this
    exact .inl ⟨ao, cap, rfl, rfl, h5, h6⟩
  · cases hv
    have hl : (xs.take m).length = m := by rw [List.length_take]; omega
    refine .inr ⟨b', off', cap, by rw [hl], by rw [hl]; omega, h2, h3, fun j u hu => ?_⟩
    rw [List.getElem?_take] at hu
    split at hu
    · exact h4 _ u hu
    · cases hu

theorem src_string {w : World} {ao : Option Addr} {n cap : Nat} {bs : List UInt8} (h : Src w (.slice ao n cap) (bs.map bV)) : (convert 23 9 (.slice ao n cap)).run Try.prog w = .ok (.string ⟨bs.toArray⟩) w := by
  rcases h with ⟨ao', c', e, e2, h5, h6⟩ | ⟨b', off', c, hv, h1, h2, h3, h4⟩
  · cases e
    have hb : bs = [] := by simpa using e2
    subst hb
    cases ao with
    | none => exact run_convert_bytes_nil w 23 5 Try.underlying23 Try.underlying5 0 cap _ Try.underlying9
    | some a => exact run_convert_bytes_back w 23 9 5 a cap [] Try.underlying23 Try.underlying5 Try.underlying9 (fun j hj => by simp at hj)
  · cases hv
    rw [List.length_map]
    refine run_convert_bytes_back w 23 9 5 ⟨b', off', none⟩ cap bs Try.underlying23 Try.underlying5 Try.underlying9 (fun j hj => ?_)
    rw [addOff]
    exact h4 j _ (by rw [List.getElem?_map, List.getElem?_eq_getElem hj]; rfl)

theorem Rd.behind1 {w : World} {r c off cap : Nat} {l : List UInt8} (h : Rd w r c l 0) (h1 : RdC w r (.slice (some ⟨c, off, none⟩) l.length cap) 0) (h2 : Src w (.slice (some ⟨c, off, none⟩) l.length cap) (l.map bV)) (hl : l ≠ []) {m : Nat} (hm : m ≤ l.length) {sa : Option Addr} (hs : sa = some ⟨c, off + m, none⟩ ∨ (sa = some ⟨c, off, none⟩ ∧ cap = m)) {ln cp : Nat} (hln : ln = l.length - m) (hcp : cp = cap - m) :
    Rd (w.setCell ⟨r, 0, none⟩ (.slice sa ln cp)) r c (l.drop m) 0 ∧ Moves (fun b => b = r) w (w.setCell ⟨r, 0, none⟩ (.slice sa ln cp)) := by
  subst hln; subst hcp
  have := h.behind (e := 0) h1 h2 hl hm hs 0
  have e : w.drewN 0 = w := by unfold World.drewN; rfl
  rw [e] at this
  exact this

/-- nothing is left, as before -/
theorem Rd.behind0 {w : World} {r c : Nat} {v : Value} (h : Rd w r c [] 0) (h1 : RdC w r v 0) {sa : Option Addr} {cp : Nat} (h2 : sa = none → cp = 0) (h3 : (cp : Int) ≤ 9223372036854775807) :
    Rd (w.setCell ⟨r, 0, none⟩ (.slice sa 0 cp)) r c [] 0 ∧ Moves (fun b => b = r) w (w.setCell ⟨r, 0, none⟩ (.slice sa 0 cp)) := by
  have hm' : Moves (fun b => b = r) w (w.setCell ⟨r, 0, none⟩ (.slice sa 0 cp)) := Moves.setCell (F := fun b => b = r) (Moves.refl _ _) (fun _ => rfl) _
  exact ⟨⟨⟨_, heap_set h1 _, .inl ⟨_, _, rfl, rfl, h2, h3⟩, fun h => absurd rfl h⟩, fun h => absurd rfl h, by have := h.lt; simpa [World.setCell] using this, by simp⟩, hm'⟩

theorem sizeD_le {l : List UInt8} {most : Int} {n k : Nat} (h : sizeD l most = some (n, k)) : k ≤ l.length := by
  unfold sizeD at h
  cases hd : deco l with
  | none => rw [hd] at h; cases h
  | some p =>
    rw [hd] at h
    simp only [Option.bind_some] at h
    split at h
    · injection h with h
      subst h
      exact (deco_some hd).2.2.1
    · cases h

theorem dT_some {l : List UInt8} {most : Int} {n k : Nat} (h : sizeD l most = some (n, k)) (hn : n ≤ (l.drop k).length) : dT l most = some (.string ⟨((l.drop k).take n).toArray⟩, k + n) := by
  unfold dT textD
  rw [h]
  simp only [Option.bind_some]
  rw [if_pos hn]; rfl
theorem dT_none {l : List UInt8} {most : Int} (h : sizeD l most = none) : dT l most = none := by
  unfold dT textD; rw [h]; rfl
theorem dT_long {l : List UInt8} {most : Int} {n k : Nat} (h : sizeD l most = some (n, k)) (hn : (l.drop k).length < n) : dT l most = none := by
  unfold dT textD
  rw [h]
  simp only [Option.bind_some]
  rw [if_neg (by omega)]; rfl

end Go.Proofs.Ytdoliejihinpkaa
