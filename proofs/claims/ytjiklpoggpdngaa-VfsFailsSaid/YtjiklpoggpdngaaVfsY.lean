/- begins and held, where they answer true. -/
import Derived.Test.YtjiklpoggpdngaaVfsX
namespace Go.Proofs.Ytjiklpoggpdngaa
open Go.RowKit Go.Maps Go.Sort

theorem Src.take {w : World} {ao : Option Addr} {n cap : Nat} {xs : List Value} (h : Src w (.slice ao n cap) xs) {m : Nat} (hm : m ≤ xs.length) : Src w (.slice ao m cap) (xs.take m) := by
  rcases h with ⟨ao', c', e, e2, h5, h6⟩ | ⟨b, off, c, hv, h1, h2, h3, h4⟩
  · cases e
    subst e2
    have : m = 0 := by simpa using hm
    subst this
    exact .inl ⟨ao, cap, rfl, rfl, h5, h6⟩
  · cases hv
    have hl : (xs.take m).length = m := by rw [List.length_take]; omega
    refine .inr ⟨b, off, cap, by rw [hl], by rw [hl]; omega, h2, h3, fun j u hu => h4 j u ?_⟩
    rw [List.getElem?_take] at hu
    split at hu
    · exact hu
    · cases hu

set_option maxHeartbeats 1000000 in
set_option maxRecDepth 100000 in
theorem begins_true {w : World} {v1 v2 : Value} {l1 l2 : List UInt8} (h1 : Src w v1 (l1.map bV)) (h2 : Src w v2 (l2.map bV)) (hb : l1 = l2.take l1.length) :
    Calls Try.prog 37 #[v1, v2] w (DrewTrue w) := by
  have hle : l1.length ≤ l2.length := by rw [hb, List.length_take]; omega
  obtain ⟨ao, cap, rfl⟩ := h1.len
  obtain ⟨bo, bcap, rfl⟩ := h2.len
  have h3 : Src w (.slice bo l1.length bcap) (l1.map bV) := by
    have := h2.take (m := l1.length) (by rw [List.length_map]; exact hle)
    rw [← List.map_take, ← hb] at this
    exact this
  have hcap : l2.length ≤ bcap ∧ (bcap : Int) ≤ 9223372036854775807 := by
    rcases h2 with ⟨ao', c', e, e2, h5, h6⟩ | ⟨b, off, c, hv, h4, h5, _⟩
    · injection e with e1 e3 e4
      have : l2 = [] := by simpa using e2
      subst this; subst e4; exact ⟨Nat.zero_le _, h6⟩
    · injection hv with e1 e3 e4
      subst e4; rw [List.length_map] at h4; exact ⟨h4, h5⟩
  have HB := Lib.hid (bytes_true h1 h3)
  have hcc : l1.length ≤ bcap := by omega
  have hlei : (l1.length : Int) ≤ (l2.length : Int) := by omega
  have hc2 := hcap.2
  clear h1 h2 h3 hb hcap hle
  rw [List.length_map] at HB ⊢
  rw [List.length_map]
  generalize l1.length = n1 at *
  generalize l2.length = n2 at *
  cases bo
  all_goals
    go_enter Try.func37, Try.ntmps37
    go_wp2_with (go_at_call 13; refine HB.out.mono ?_; rintro e w' ⟨rfl, n, rfl⟩)
    go_ret
    exact ⟨rfl, n, rfl⟩

def HeldPost (w : World) (e : Ending) (w' : World) : Prop := e = .returned (.bool true) ∧ RowKit.Below w.heap.size w w'

set_option maxHeartbeats 2000000 in
set_option maxRecDepth 100000 in
theorem held_true {w : World} {d : Nat} {g : Gh} {S : DS} (h : Rep w d g S) (hh : halted S = false) (hsm : S.now.length ≤ 1000000) {vn vr : Value} {vs : List Value} {bss : List (List UInt8)} (hn : Src w vn ((S.now.map (·.1)).map encStr)) (hr : Src w vr vs) (hl : vs.length = S.now.length) (hl2 : bss.length = S.now.length)
    (hv : ∀ i (h1 : i < vs.length) (h2 : i < bss.length), Src w vs[i] (bss[i].map bV)) (hrd : ∀ i (h1 : i < S.now.length) (h2 : i < bss.length), readR S S.now[i].1 = (bss[i], 0)) (hnl : ∀ p ∈ S.now, p.1.length ≤ maxLen) :
    Calls Try.prog 26 #[ptr d, vn, vr] w (HeldPost w) := by
  have HL := Lib.hid (list_any h hsm hh)
  have HH := Lib.hid h; have HN := Lib.hid hn; have HR := Lib.hid hr; have HLL := Lib.hid hl; have HL2 := Lib.hid hl2; have HV := Lib.hid hv; have HRD := Lib.hid hrd; have HNL := Lib.hid hnl
  obtain ⟨no, nc, rfl⟩ := hn.len
  obtain ⟨ro, rc, rfl⟩ := hr.len
  rw [List.length_map, List.length_map] at HN
  rw [List.length_map, List.length_map, hl]
  rw [hl] at HR
  have hlenI : (S.now.length : Int) ≤ 1000000 := by omega
  obtain ⟨N, hN⟩ : ∃ N, S.now.length = N := ⟨_, rfl⟩
  have HEN := Lib.hid hN
  rw [hN] at HN HR HL2 HLL hlenI ⊢
  clear h hh hsm hn hr hl hl2 hv hrd hnl hN
  unfold ptr
  go_enter Try.func26, Try.ntmps26
  go_wp2_with fail
  refine HL.out.mono ?_
  rintro e w1 ⟨v, rfl, hrow, hbl⟩
  have HS1 : Hid (Src w1 v ((S.now.map (·.1)).map encStr)) := Src.of_row hrow
  have HB1 := Lib.hid hbl
  clear hrow hbl
  go_wp2_with fail
  refine (strings_true HS1.out (HN.out.below HB1.out)).mono ?_
  rintro e w2 ⟨rfl, n2, rfl⟩
  have HB2 : Hid (RowKit.Below w.heap.size w (w1.drewN n2)) := ⟨HB1.out.os, HB1.out.tape, HB1.out.output, HB1.out.size, HB1.out.block⟩
  go_wp2
  go_loopw [7, 8, 9] (fun i _ _ wr => ∃ k : Nat, k ≤ N ∧ i = .int .i64 k ∧ RowKit.Below w.heap.size w wr) (fun i _ _ _ => N - (intOf i).toNat)
  case atStart => exact ⟨0, Nat.zero_le _, rfl, HB2.out⟩
  case round =>
    obtain ⟨k, hk, rfl, hB⟩ := hrel
    by_cases hlt : k < N
    · have hkn : k < S.now.length := by rw [HEN.out]; exact hlt
      have hrk : Rep wr d g S := HH.out.frame hB.size (fun b hb => hB.block b (HH.out.lt b hb))
      have hnr : Src wr (.slice no N nc) ((S.now.map (·.1)).map encStr) := HN.out.below hB
      have hrr : Src wr (.slice ro N rc) vs := HR.out.below hB
      have hvk : k < vs.length := by have := HLL.out; omega
      have hbk : k < bss.length := by have := HL2.out; omega
      have hvr : Src wr vs[k] (bss[k].map bV) := (HV.out k hvk hbk).below hB
      obtain ⟨nb, noff, rfl, hcn⟩ : ∃ nb noff, no = some ⟨nb, noff, none⟩ ∧ wr.cell? ⟨nb, noff + k, none⟩ = some (.string ⟨S.now[k].1.toArray⟩) := by
        rcases hnr with ⟨_, _, e, e2, _⟩ | ⟨b, off, c, hv, _, _, _, h4⟩
        · have h0 := congrArg List.length e2
          rw [List.length_map, List.length_map] at h0
          simp only [List.length_nil] at h0
          omega
        · injection hv with e1 e2 e3
          refine ⟨b, off, e1, h4 k _ ?_⟩
          rw [List.getElem?_map, List.getElem?_map, List.getElem?_eq_getElem hkn]; rfl
      obtain ⟨rb, roff, rfl, hcr⟩ : ∃ rb roff, ro = some ⟨rb, roff, none⟩ ∧ wr.cell? ⟨rb, roff + k, none⟩ = some vs[k] := by
        rcases hrr with ⟨_, _, e, e2, _⟩ | ⟨b, off, c, hv, _, _, _, h4⟩
        · have h0 := congrArg List.length e2
          simp only [List.length_nil] at h0
          omega
        · injection hv with e1 e2 e3
          exact ⟨b, off, e1, h4 k _ (List.getElem?_eq_getElem hvk)⟩
      have hs : (⟨S.now[k].1.toArray⟩ : ByteArray).size ≤ maxLen := by
        rw [← ByteArray.size_data, ← Array.length_toList]; exact HNL.out _ (List.getElem_mem hkn)
      have hread := read_any hrk ⟨S.now[k].1.toArray⟩ hs
      rw [show (⟨S.now[k].1.toArray⟩ : ByteArray).data.toList = S.now[k].1 from rfl] at hread
      unfold ReadPost at hread
      rw [HRD.out k hkn hbk] at hread
      obtain ⟨nm, hnm⟩ : ∃ nm : ByteArray, nm = ⟨S.now[k].1.toArray⟩ := ⟨_, rfl⟩
      rw [← hnm] at hread hcn
      obtain ⟨vk, hvkk⟩ : ∃ vk, vk = vs[k] := ⟨_, rfl⟩
      rw [← hvkk] at hcr hvr
      have hcrl : rb < wr.heap.size := cell_lt hcr
      have HRE := Lib.hid hread; have HVR := Lib.hid hvr; have HBB := Lib.hid hB; have HCR := Lib.hid hcr
      clear hrk hnr hrr hvr hs hread hnm hvkk hB hkn hvk
      go_wp2_with fail
      refine HRE.out.mono ?_
      rintro e w3 ⟨v3, rfl, hrow3, hbl3⟩
      have hcr3 : w3.cell? ⟨rb, roff + k, none⟩ = some vk := (World.cell?_of_block (w := wr) (a := ⟨rb, roff + k, none⟩) (hbl3.block rb hcrl)).trans HCR.out
      have HS3 := Lib.hid (Src.of_row hrow3)
      have HB3 := Lib.hid hbl3
      clear hrow3 hbl3
      go_wp2_with fail
      refine (bytes_true HS3.out (HVR.out.below HB3.out)).mono ?_
      rintro e w4 ⟨rfl, n4, rfl⟩
      go_wp2
      go_roundw
      case rel => exact ⟨k + 1, by omega, by go_num, HBB.out.trans (RowKit.Below.mono (B := wr.heap.size) ⟨HB3.out.os, HB3.out.tape, HB3.out.output, HB3.out.size, HB3.out.block⟩ HBB.out.size)⟩
      case measure => simp [intOf]; omega
    · have HBB := Lib.hid hB
      clear hB
      go_wp2
      go_ret
      exact ⟨rfl, HBB.out⟩

end Go.Proofs.Ytjiklpoggpdngaa
