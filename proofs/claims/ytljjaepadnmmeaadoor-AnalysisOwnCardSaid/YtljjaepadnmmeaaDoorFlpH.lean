/- The program's Next and Valid, by the library's decoder over its two tables. The layings by wip/mkFlpL.py. -/
import Derived.Test.YtljjaepadnmmeaaDoorFlpA
import Derived.Test.YtljjaepadnmmeaaDoorFldE
import Derived.Shelf.Unicode.DecodeAny
namespace Go.Proofs.YtljjaepadnmmeaaDoor
open Go.RowKit Go.Maps Fld Go.Shelf
attribute [local go_sem] Oper.semAt_some
def lays197_ren : Go.Shelf.Ren := ⟨fun | 197 => 92 | 260 => 96 | n => n, fun | 0 => 0 | 3 => 3 | 4 => 4 | 5 => 5 | 9 => 9 | 21 => 21 | 46 => 107 | 105 => 81 | 119 => 108 | 138 => 110 | 139 => 111 | n => n, fun | 3 => 1 | 4 => 2 | n => n⟩
theorem lays197 : Go.Proofs.Lays.n197 Tryd.prog lays197_ren := {
  mixed := by kernel_rfl
  f197 := Tryd.func92.trans (congrArg some (by kernel_rfl))
  f260 := Tryd.func96.trans (congrArg some (by kernel_rfl))
  t0 := Tryd.underlying0
  a0 := Tryd.isAgg0
  z0 := Tryd.sizeOf0
  v0 := Tryd.zeroValue0
  t3 := Tryd.underlying3
  a3 := Tryd.isAgg3
  z3 := Tryd.sizeOf3
  v3 := Tryd.zeroValue3
  t4 := Tryd.underlying4
  a4 := Tryd.isAgg4
  z4 := Tryd.sizeOf4
  v4 := Tryd.zeroValue4
  t5 := Tryd.underlying5
  a5 := Tryd.isAgg5
  z5 := Tryd.sizeOf5
  v5 := Tryd.zeroValue5
  t9 := Tryd.underlying9
  a9 := Tryd.isAgg9
  z9 := Tryd.sizeOf9
  v9 := Tryd.zeroValue9
  t21 := Tryd.underlying21
  a21 := Tryd.isAgg21
  z21 := Tryd.sizeOf21
  v21 := Tryd.zeroValue21
  t46 := Tryd.underlying107
  a46 := Tryd.isAgg107
  z46 := Tryd.sizeOf107
  v46 := Tryd.zeroValue107
  t105 := Tryd.underlying81
  a105 := Tryd.isAgg81
  z105 := Tryd.sizeOf81
  v105 := Tryd.zeroValue81
  t119 := Tryd.underlying108
  a119 := Tryd.isAgg108
  z119 := Tryd.sizeOf108
  t138 := Tryd.underlying110
  a138 := Tryd.isAgg110
  z138 := Tryd.sizeOf110
  v138 := Tryd.zeroValue110
  t139 := Tryd.underlying111
  a139 := Tryd.isAgg111
  z139 := Tryd.sizeOf111
  v139 := Tryd.zeroValue111
  g3 := by kernel_rfl
  g4 := by kernel_rfl }
/-- the library's two tables lie as its text lays them -/
def Tabs (w : World) : Prop := Lib.Utf8Tabs 1 2 w
theorem Tabs.bw {w w' : World} (h : Tabs w) (hb : BW w w') : Tabs w' := by
  have one : ∀ (a : Addr) (v : Value), w.cell? a = some v → w'.cell? a = some v := fun a v hv =>
    (World.cell?_of_block (w := w) (a := a) (hb.block a.block (World.block_lt_of_cell? w a hv))).trans hv
  exact ⟨fun c hc => one _ _ (h.1 c hc), fun i hi => ⟨one _ _ (h.2 i hi).1, one _ _ (h.2 i hi).2⟩⟩
theorem decodeGo_next {l : List UInt8} (h : l ≠ []) : Lib.decodeGo ⟨l.toArray⟩ = nextL l := by
  have hs : (⟨l.toArray⟩ : ByteArray).size = l.length := by simp [ByteArray.size]
  unfold Lib.decodeGo
  rw [if_neg (by rw [hs]; exact fun e => h (List.eq_nil_of_length_eq_zero e))]
  exact decodeL_next h
set_option maxRecDepth 100000 in
set_option maxHeartbeats 2000000 in
theorem next_any {l : List UInt8} {at' : Int} (_ : (l.length : Int) ≤ 1000000000000000) (h1 : -9223372036854775808 ≤ at') (h2 : at' ≤ 9223372036854775807) (w : World) (hT : Tabs w) : Calls Tryd.prog 83 #[textV l, .int .i64 at'] w (NextPost w (nextAt l at')) := by
  obtain ⟨tx, htx⟩ : ∃ tx, tx = ByteArray.mk l.toArray := ⟨_, rfl⟩
  have hts : tx.size = l.length := by rw [htx]; exact text_size l
  unfold textV
  rw [← htx]
  obtain ⟨p, hp⟩ : ∃ p, p = nextAt l at' := ⟨_, rfl⟩
  rw [← hp]
  by_cases h : at' < 0 ∨ (l.length : Int) ≤ at'
  · have HP : Hid (p = (0, 0)) := by unfold Hid; rw [hp]; unfold nextAt; rw [if_pos h]
    rw [HP.out]
    clear hp HP htx
    rcases (by omega : at' < 0 ∨ 0 ≤ at') with h3 | h3
    · have d1 : decide (at' < 0) = true := decide_eq_true h3
      clear h
      go_enter Tryd.func83, Tryd.ntmps83
      go_wp2
      go_ret2
      exact ⟨rfl, BW.refl _⟩
    · have h4 : (tx.size : Int) ≤ at' := by omega
      have d1 : decide (at' < 0) = false := decide_eq_false (by omega)
      have d2 : decide ((tx.size : Int) ≤ at') = true := decide_eq_true h4
      have d3 : ¬ at' < 0 := by omega
      clear h
      go_enter Tryd.func83, Tryd.ntmps83
      go_wp2
      go_ret2
      exact ⟨rfl, BW.refl _⟩
  · obtain ⟨k, rfl⟩ : ∃ k : Nat, at' = (k : Int) := ⟨at'.toNat, by omega⟩
    have hk : k < l.length := by omega
    have HP : Hid (p = nextL (l.drop k)) := by unfold Hid; rw [hp]; unfold nextAt; rw [if_neg h]; rfl
    have hex : tx.extract k tx.size = ⟨(l.drop k).toArray⟩ := by
      rw [htx, ByteArray.extract_mk, List.take_of_length_le]
      rw [List.length_drop, ← htx, hts]; omega
    have hne : l.drop k ≠ [] := by intro e; have := congrArg List.length e; rw [List.length_drop] at this; simp at this; omega
    have HD : Hid (Calls Tryd.prog 92 #[.string (tx.extract k tx.size)] w fun e w' => e = .returned (.tuple #[.int .i32 (p.1 : Int), .int .i64 (p.2 : Int)]) ∧ BW w w') := by
      unfold Hid
      have h := Any.utf8_DecodeRuneInString lays197 (tx.extract k tx.size) w hT
      rw [hex] at h ⊢
      rw [decodeGo_next hne, ← HP.out] at h
      exact h
    have s1 : 0 ≤ (k : Int) := by omega
    have s2 : (k : Int) ≤ (tx.size : Int) := by omega
    have s3 : (k : Int) < (tx.size : Int) := by omega
    have d1 : decide ((k : Int) < 0) = false := decide_eq_false (by omega)
    have d2 : decide ((tx.size : Int) ≤ (k : Int)) = false := decide_eq_false (by omega)
    obtain ⟨r, q⟩ := p
    clear h hp hex hne htx hts hk h1 h2 hT
    go_enter Tryd.func83, Tryd.ntmps83
    go_wp2_with (go_at_call 92; refine HD.out.mono ?_; rintro e w' ⟨rfl, hb⟩)
    go_ret2
    exact ⟨rfl, hb⟩
end Go.Proofs.YtljjaepadnmmeaaDoor
