/- names: nameByte, isName, areNames answer what the chapter calls a name; they leave the world alone. size, share, Calls. -/
import Derived.Test.YtjiklpoggpdngaaVfsM
import Derived.WalkSpells
import Derived.WalkLawsBesides
import Derived.Lib.Hide
namespace Go.Proofs.Ytjiklpoggpdngaa
open Go.RowKit Go.Maps

theorem ret_bool {a b : Bool} (h : a = b) : Ending.returned (.bool a) = .returned (.bool b) := by rw [h]
theorem ret_int {k : IntKind} {a b : Int} (h : a = b) : Ending.returned (.int k a) = .returned (.int k b) := by rw [h]

def nmI (c : Int) : Bool := (decide (97 ≤ c) && decide (c ≤ 122)) || (decide (48 ≤ c) && decide (c ≤ 57)) || c == 46 || c == 95
def nmB (c : UInt8) : Bool := nmI (c.toNat : Int)
def goodNm (n : Nm) : Bool := decide (1 ≤ n.length) && decide (n.length ≤ 24) && n.all nmB

set_option maxHeartbeats 400000 in
theorem nameByte_any (c : Int) (w : World) (h0 : 0 ≤ c) (h1 : c ≤ 255) :
    Calls Try.prog 73 #[.int .u8 c] w fun e w' => e = .returned (.bool (nmI c)) ∧ w = w' := by
  by_cases a1 : 97 ≤ c <;> by_cases a2 : c ≤ 122 <;> by_cases a3 : 48 ≤ c <;> by_cases a4 : c ≤ 57 <;> try omega
  all_goals
    by_cases a5 : c = 46 <;> by_cases a6 : c = 95 <;> try omega
  all_goals
    first
    | (have e5 : (c == 46) = false := by simp; omega
       have e6 : (c == 95) = false := by simp; omega
       clear a5 a6
       go_enter Try.func73, Try.ntmps73
       go_wp2
       go_ret
       exact ⟨ret_bool (by simp [nmI, *]), rfl⟩)
    | (subst c
       go_enter Try.func73, Try.ntmps73
       go_wp2
       go_ret
       exact ⟨rfl, rfl⟩)


theorem all_take_succ {n : List UInt8} {k : Nat} (hk : k < n.length) : (n.take (k + 1)).all nmB = ((n.take k).all nmB && nmB n[k]) := by
  rw [List.take_succ_eq_append_getElem hk, List.all_append]
  simp
theorem all_false {n : List UInt8} {k : Nat} (hk : k < n.length) (h : nmB n[k] = false) : n.all nmB = false := by
  rw [List.all_eq_false]
  exact ⟨n[k], List.getElem_mem hk, by simp [h]⟩

set_option maxHeartbeats 400000 in
theorem isName_any (s : ByteArray) (w : World) (hs : s.size ≤ maxLen) :
    Calls Try.prog 40 #[.string s] w fun e w' => e = .returned (.bool (goodNm s.data.toList)) ∧ w = w' := by
  unfold maxLen at hs
  have hl : s.data.toList.length = s.size := by simp
  by_cases b1 : s.size < 1
  · go_enter Try.func40, Try.ntmps40
    go_wp2
    go_ret
    exact ⟨ret_bool (by simp [goodNm]; omega), rfl⟩
  by_cases b2 : 24 < s.size
  · go_enter Try.func40, Try.ntmps40
    go_wp2
    go_ret
    exact ⟨ret_bool (by simp [goodNm]; omega), rfl⟩
  go_enter Try.func40, Try.ntmps40
  go_wp2
  go_loop [3, 14] (fun _ i => ∃ k : Nat, k ≤ s.size ∧ i = .int .i64 k ∧ (s.data.toList.take k).all nmB = true) (fun _ i => s.size - (intOf i).toNat)
  case atStart => exact ⟨0, Nat.zero_le _, rfl, rfl⟩
  case round =>
    obtain ⟨k, hk, rfl, hall⟩ := hrel
    by_cases hlt : k < s.size
    · have hlt' : k < s.data.toList.length := by omega
      have hts := all_take_succ hlt'
      have hc : s.data.toList[k] = s[k] := rfl
      by_cases hb : nmB s[k] = true
      · have HS : Hid ((s.data.toList.take (k + 1)).all nmB = true) := by rw [hts, hall, hc, hb]; rfl
        have HB : Hid (nmB s[k] = true) := hb
        clear hts hall hb hc
        have hu := s[k].toNat_lt
        go_wp2_with (go_at_call 73; refine (nameByte_any _ _ (by omega) (by omega)).mono ?_; rw [show nmI (s[k].toNat : Int) = true from HB.out]; rintro e w' ⟨rfl, rfl⟩)
        go_round
        case rel => exact ⟨k + 1, by omega, by go_num, HS.out⟩
        case measure => simp [intOf]; omega
      · have hb' : nmB s[k] = false := by simpa using hb
        have HG : Hid (goodNm s.data.toList = false) := by unfold Hid goodNm; rw [all_false hlt' hb']; simp
        have HB : Hid (nmB s[k] = false) := hb'
        clear hts hall hb hb' hc
        have hu := s[k].toNat_lt
        go_wp2_with (go_at_call 73; refine (nameByte_any _ _ (by omega) (by omega)).mono ?_; rw [show nmI (s[k].toNat : Int) = false from HB.out]; rintro e w' ⟨rfl, rfl⟩)
        go_ret
        exact ⟨ret_bool HG.out.symm, rfl⟩
    · have hk2 : k = s.size := by omega
      have HG : Hid (goodNm s.data.toList = true) := by
        unfold Hid goodNm
        rw [hk2, ← hl, List.take_length] at hall
        rw [hall, hl]
        simp; omega
      clear hall
      go_wp2
      go_ret
      exact ⟨ret_bool HG.out.symm, rfl⟩

/-- areNames of a row of strings -/
def allGood (l : List ByteArray) : Bool := l.all fun s => goodNm s.data.toList

set_option maxHeartbeats 400000 in
theorem areNames_any (b off cap : Nat) (l : List ByteArray) (w : World) (hn : l.length ≤ maxLen) (hs : ∀ s ∈ l, s.size ≤ maxLen) (hc : ∀ k (hk : k < l.length), w.cell? ⟨b, off + k, none⟩ = some (.string l[k])) :
    Calls Try.prog 87 #[.slice (some ⟨b, off, none⟩) l.length cap] w fun e w' => e = .returned (.bool (allGood l)) ∧ w = w' := by
  unfold maxLen at hn
  have HC := Lib.hid hc
  clear hc
  go_enter Try.func87, Try.ntmps87
  go_wp2
  go_loop [4, 7] (fun _ i => ∃ k : Nat, k ≤ l.length ∧ i = .int .i64 k ∧ allGood (l.take k) = true) (fun _ i => l.length - (intOf i).toNat)
  case atStart => exact ⟨0, Nat.zero_le _, rfl, rfl⟩
  case round =>
    obtain ⟨k, hk, rfl, hall⟩ := hrel
    by_cases hlt : k < l.length
    · have hts : allGood (l.take (k + 1)) = (allGood (l.take k) && goodNm l[k].data.toList) := by
        unfold allGood; rw [List.take_succ_eq_append_getElem hlt, List.all_append]; simp
      have hcell := HC.out k hlt
      have hsz := hs _ (List.getElem_mem hlt)
      by_cases hb : goodNm l[k].data.toList = true
      · have HS : Hid (allGood (l.take (k + 1)) = true) := by rw [hts, hall, hb]; rfl
        have HB : Hid (goodNm l[k].data.toList = true) := hb
        clear hts hall hb
        go_wp2_with (go_at_call 40; refine (isName_any _ _ hsz).mono ?_; rw [HB.out]; rintro e w' ⟨rfl, rfl⟩)
        go_round
        case rel => exact ⟨k + 1, by omega, by go_num, HS.out⟩
        case measure => simp [intOf]; omega
      · have hb' : goodNm l[k].data.toList = false := by simpa using hb
        have HG : Hid (allGood l = false) := by
          unfold Hid allGood; rw [List.all_eq_false]; exact ⟨l[k], List.getElem_mem hlt, by simp [hb']⟩
        have HB : Hid (goodNm l[k].data.toList = false) := hb'
        clear hts hall hb hb'
        go_wp2_with (go_at_call 40; refine (isName_any _ _ hsz).mono ?_; rw [HB.out]; rintro e w' ⟨rfl, rfl⟩)
        go_ret
        exact ⟨ret_bool HG.out.symm, rfl⟩
    · have hk2 : k = l.length := by omega
      have HG : Hid (allGood l = true) := by rw [hk2, List.take_length] at hall; exact hall
      clear hall
      go_wp2
      go_ret
      exact ⟨ret_bool HG.out.symm, rfl⟩

set_option maxHeartbeats 400000 in
theorem areNames_nil (w : World) (cap : Nat) :
    Calls Try.prog 87 #[.slice none 0 cap] w fun e w' => e = .returned (.bool true) ∧ w = w' := by
  go_enter Try.func87, Try.ntmps87
  go_wp2
  refine wp_loop_rounds 1 ?_
  rw [rounds_succ]
  go_wp2
  go_ret
  exact ⟨rfl, rfl⟩

/-- a choice's size without its sign -/
def sizeC (n : Int) : Int := if n = -9223372036854775808 then 0 else if n < 0 then -n else n

set_option maxHeartbeats 400000 in
theorem size_any (n : Int) (w : World) (h0 : -9223372036854775808 ≤ n) (h1 : n ≤ 9223372036854775807) :
    Calls Try.prog 80 #[.int .i64 n] w fun e w' => e = .returned (.int .i64 (sizeC n)) ∧ w = w' := by
  by_cases b1 : n = -9223372036854775808
  · have e1 : (n == -9223372036854775808) = true := by simp [b1]
    have HG : Hid (sizeC n = 0) := by unfold Hid sizeC; rw [if_pos b1]
    clear b1
    go_enter Try.func80, Try.ntmps80
    go_wp2
    go_ret
    exact ⟨ret_int HG.out.symm, rfl⟩
  · have e1 : (n == -9223372036854775808) = false := by simp [b1]
    have HG : Hid (sizeC n = if n < 0 then -n else n) := by unfold Hid sizeC; rw [if_neg b1]
    have h2 : -9223372036854775807 ≤ n := by omega
    clear b1
    by_cases b2 : n < 0
    · rw [if_pos b2] at HG
      go_enter Try.func80, Try.ntmps80
      go_wp2
      go_ret
      exact ⟨ret_int HG.out.symm, rfl⟩
    · rw [if_neg b2] at HG
      go_enter Try.func80, Try.ntmps80
      go_wp2
      go_ret
      exact ⟨ret_int HG.out.symm, rfl⟩

end Go.Proofs.Ytjiklpoggpdngaa
