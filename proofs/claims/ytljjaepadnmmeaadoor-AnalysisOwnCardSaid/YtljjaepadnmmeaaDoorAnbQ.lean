/- Stage 6, the program: a copy of a text; the tokenizer of a number; numbers looked for. -/
import Derived.Test.YtljjaepadnmmeaaDoorAnbF
import Derived.Test.YtljjaepadnmmeaaDoorAnbN
import Derived.Shelf.Strconv.Clone
namespace Go.Proofs.YtljjaepadnmmeaaDoor
open Go.RowKit Go.Maps Fld Ana Go.Shelf
attribute [local go_sem] Oper.semAt_some

def lays316_ren : Go.Shelf.Ren := ⟨fun | 316 => 41 | n => n, fun | 0 => 0 | 3 => 3 | 4 => 4 | 5 => 5 | 9 => 9 | 37 => 71 | 127 => 78 | n => n, fun | n => n⟩
theorem lays316 : Go.Proofs.LaysM.n316 Tryd.prog lays316_ren := {
  mixed := by kernel_rfl
  f316 := Tryd.func41.trans (congrArg some (by kernel_rfl))
  t0 := Tryd.underlying0
  a0 := Tryd.isAgg0
  z0 := Tryd.sizeOf0
  v0 := Tryd.zeroValue0
  t3 := Tryd.underlying3
  a3 := Tryd.isAgg3
  z3 := Tryd.sizeOf3
  v3 := Tryd.zeroValue3
  t4 := Tryd.underlying4
  a4 := Tryd.isAgg4
  z4 := Tryd.sizeOf4
  v4 := Tryd.zeroValue4
  t9 := Tryd.underlying9
  a9 := Tryd.isAgg9
  z9 := Tryd.sizeOf9
  v9 := Tryd.zeroValue9
  t37 := Tryd.underlying71
  a37 := Tryd.isAgg71
  z37 := Tryd.sizeOf71
  v37 := Tryd.zeroValue71
  t127 := Tryd.underlying78
  a127 := Tryd.isAgg78
  z127 := Tryd.sizeOf78
  v127 := Tryd.zeroValue78
  t5 := Tryd.underlying5
  a5 := Tryd.isAgg5
  z5 := Tryd.sizeOf5
  v5 := Tryd.zeroValue5
  i0 := by kernel_rfl
  i3 := by kernel_rfl
  i4 := by kernel_rfl
  i5 := by kernel_rfl
  i9 := by kernel_rfl
  i37 := by kernel_rfl
  i127 := by kernel_rfl }
set_option maxHeartbeats 1000000 in
theorem clone_any (s : ByteArray) (hs : (s.size : Int) ≤ 1000000000000) (w : World) : Calls Tryd.prog 27 #[.string s] w fun e w' => e = .returned (.string s) ∧ BW w w' := by
  have HC := Lib.hid (fun W => Any.stringslite_Clone lays316 s W (by omega))
  clear hs
  go_enter Tryd.func27, Tryd.ntmps27
  go_wp2_with fail
  refine (HC.out _).mono ?_
  rintro e X ⟨rfl, hq⟩
  go_wp2
  go_ret
  exact ⟨rfl, hq⟩
/-- what a tokenizer's number finds -/
def CutterPost (w : World) (n : Int) (e : Ending) (w' : World) : Prop := BW w w' ∧
  ((1 ≤ n ∧ n ≤ 4 ∧ ∃ cf lbc, e = .returned (.func (.func cf) #[] lbc) ∧ (∀ args w, (callFunc cf args).run Tryd.prog w = .ok (.enter cf args) w) ∧ CutOk w' cf lbc n.toNat) ∨ ((n < 1 ∨ 4 < n) ∧ e = .returned .nilFunc))
set_option maxRecDepth 100000 in
set_option maxHeartbeats 2000000 in
theorem cutterOf_any (n : Int) (w : World) (hN : NextOk w) : Calls Tryd.prog 26 #[.int .i64 n] w (CutterPost w n) := by
  have HNX := Lib.hid hN
  have er := enters_of Tryd.func57 (by kernel_rfl) rfl
  have HER := Lib.hid er
  clear hN er
  by_cases h : 1 ≤ n ∧ n ≤ 4
  · have h4 : n = 1 ∨ n = 2 ∨ n = 3 ∨ n = 4 := by omega
    clear h
    rcases h4 with rfl | rfl | rfl | rfl
    · have HL := Lib.hid (letters_any w)
      go_enter Tryd.func26, Tryd.ntmps26
      go_wp2_with fail
      refine HL.out.mono ?_
      rintro e X ⟨B1, B2, rfl, hq, hb⟩
      go_wp2
      go_ret
      exact ⟨hq, .inl ⟨by decide, by decide, _, _, rfl, HER.out, cutOk_letters hb⟩⟩
    · have HL := Lib.hid (runs_any 37 37 #[] #[] w)
      go_enter Tryd.func26, Tryd.ntmps26
      go_wp2_with fail
      refine HL.out.mono ?_
      rintro e X ⟨rfl, hq, h1, h2⟩
      go_wp2
      go_ret
      exact ⟨hq, .inl ⟨by decide, by decide, _, _, rfl, HER.out, cutOk_solid ⟨h1, h2⟩⟩⟩
    · go_enter Tryd.func26, Tryd.ntmps26
      go_wp2
      go_ret
      exact ⟨BW.refl w, .inl ⟨by decide, by decide, _, _, rfl, enters_of Tryd.func39 (by kernel_rfl) rfl, cutOk_whole w⟩⟩
    · go_enter Tryd.func26, Tryd.ntmps26
      go_wp2
      go_ret
      exact ⟨BW.refl w, .inl ⟨by decide, by decide, _, _, rfl, enters_of Tryd.func40 (by kernel_rfl) rfl, cutOk_pairs HNX.out⟩⟩
  · have e1 : (n == 1) = false := by simp; omega
    have e2 : (n == 2) = false := by simp; omega
    have e3 : (n == 3) = false := by simp; omega
    have e4 : (n == 4) = false := by simp; omega
    have HO : Hid (n < 1 ∨ 4 < n) := by unfold Hid; omega
    clear h
    go_enter Tryd.func26, Tryd.ntmps26
    go_wp2
    go_ret
    exact ⟨BW.refl w, .inr ⟨HO.out, rfl⟩⟩
/-- a slice that reads numbers -/
def ISrc (w : World) (ao : Option Addr) (cap : Nat) (c : List Int) : Prop := c.length ≤ cap ∧ (cap : Int) ≤ 9223372036854775807 ∧ ∀ j x, c[j]? = some x → ∃ b off, ao = some ⟨b, off, none⟩ ∧ w.cell? ⟨b, off + j, none⟩ = some (.int .i64 x)
theorem ISrc.bw {w W : World} {ao : Option Addr} {cap : Nat} {c : List Int} (h : ISrc w ao cap c) (hb : BW w W) : ISrc W ao cap c :=
  ⟨h.1, h.2.1, fun j x hx => by obtain ⟨b, off, e, h1⟩ := h.2.2 j x hx; exact ⟨b, off, e, (hb.cell (p := ⟨b, off + j, none⟩) (cell_lt h1)).trans h1⟩⟩
set_option maxRecDepth 100000 in
set_option maxHeartbeats 1000000 in
theorem index_any (w : World) (ao : Option Addr) (cap : Nat) (c : List Int) (h : ISrc w ao cap c) (x : Int) : Calls Tryd.prog 49 #[.slice ao c.length cap, .int .i64 x] w fun e w' => (∃ k : Int, e = .returned (.int .i64 k) ∧ (0 ≤ k ↔ x ∈ c)) ∧ w' = w := by
  obtain ⟨n, hn⟩ : ∃ n, n = c.length := ⟨_, rfl⟩
  have hbig : (n : Int) ≤ 9223372036854775807 := by have := h.1; have := h.2.1; omega
  have H := Lib.hid h.2.2; have HN := Lib.hid hn
  rw [← hn]
  clear h hn
  go_enter Tryd.func49, Tryd.ntmps49
  go_wp2
  go_loopw [5, 8] (fun _ s8 wr => wr = w ∧ ∃ k : Nat, k ≤ n ∧ s8 = .int .i64 (k : Int) ∧ ∀ j y, j < k → c[j]? = some y → y ≠ x) (fun _ s8 _ => n - (intOf s8).toNat)
  case atStart => exact ⟨by first | rfl | trivial, 0, Nat.zero_le _, rfl, fun j y h => by omega⟩
  case round =>
    obtain ⟨rfl, k, hk, rfl, hall⟩ := hrel
    by_cases hlt : k < n
    · have hlti : (k : Int) < (n : Int) := by omega
      have hkl : k < c.length := by rw [← HN.out]; exact hlt
      obtain ⟨y, hy⟩ : ∃ y, y = c[k] := ⟨_, rfl⟩
      have hget : c[k]? = some y := by rw [List.getElem?_eq_getElem hkl, hy]
      obtain ⟨b, off, rfl, hc⟩ := H.out k y hget
      have HLT := Lib.hid hlt
      have hk0 : 0 ≤ (k : Int) := by omega
      by_cases he : x = y
      · subst he
        have t1 : (x == x) = true := by simp
        have HM : Hid (x ∈ c) := by unfold Hid; exact List.mem_of_getElem? hget
        clear hall hy hget hlt hkl
        go_wp2
        go_ret
        exact ⟨⟨_, rfl, iff_of_true hk0 HM.out⟩, rfl⟩
      · have t1 : (x == y) = false := by simpa using he
        have HALL : Hid (∀ j z, j < k + 1 → c[j]? = some z → z ≠ x) := fun j z hj hz => by
          by_cases e : j < k
          · exact hall j z e hz
          · obtain rfl : j = k := by omega
            rw [hget] at hz; rw [← Option.some.inj hz]; exact Ne.symm he
        clear hall hy hget hlt hkl he
        go_wp2
        go_roundw
        case rel => exact ⟨by first | rfl | trivial, k + 1, HLT.out, by first | rfl | go_num, HALL.out⟩
        case measure => simp [intOf]; have := HLT.out; omega
    · have hlti : (n : Int) ≤ (k : Int) := by omega
      have HM : Hid (¬ x ∈ c) := by
        unfold Hid; intro hm
        obtain ⟨j, hj, he⟩ := List.getElem_of_mem hm
        exact hall j x (by have := HN.out; omega) (by rw [List.getElem?_eq_getElem hj, he]) rfl
      clear hall hlt hk
      go_wp2
      go_ret
      exact ⟨⟨_, rfl, iff_of_false (by decide) HM.out⟩, rfl⟩
set_option maxHeartbeats 1000000 in
theorem contains_any (w : World) (ao : Option Addr) (cap : Nat) (c : List Int) (h : ISrc w ao cap c) (x : Int) : Calls Tryd.prog 31 #[.slice ao c.length cap, .int .i64 x] w fun e w' => e = .returned (.bool (decide (x ∈ c))) ∧ w' = w := by
  have HI := Lib.hid (index_any w ao cap c h x)
  obtain ⟨n, hn⟩ : ∃ n, n = c.length := ⟨_, rfl⟩
  rw [← hn] at HI ⊢
  clear h hn
  go_enter Tryd.func31, Tryd.ntmps31
  go_wp2_with fail
  refine HI.out.mono ?_
  rintro e X ⟨⟨k, rfl, hk⟩, rfl⟩
  have HK := Lib.hid hk
  clear hk
  go_wp2
  go_ret
  exact ⟨ret_bool (by rw [decide_eq_decide]; exact HK.out), rfl⟩
end Go.Proofs.YtljjaepadnmmeaaDoor
