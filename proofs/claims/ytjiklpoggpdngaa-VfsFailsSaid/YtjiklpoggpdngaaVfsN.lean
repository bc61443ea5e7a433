/- Append, Fail. -/
import Derived.Test.YtjiklpoggpdngaaVfsK
namespace Go.Proofs.Ytjiklpoggpdngaa
open Go.RowKit Go.Maps

def shareN (p : Int) (n : Nat) : Nat := if p < 0 then 0 else (p % ((n : Int) + 1)).toNat
theorem shareN_le (p : Int) (n : Nat) : shareN p n ≤ n := by
  unfold shareN
  split
  · omega
  · have h1 := Int.emod_lt_of_pos p (show (0 : Int) < (n : Int) + 1 by omega)
    have h2 := Int.emod_nonneg p (show (n : Int) + 1 ≠ 0 by omega)
    omega

set_option maxHeartbeats 400000 in
theorem share_any (b o : Nat) (p : Int) (n : Nat) (w : World) (hp : p ≤ 9223372036854775807) (hn : (n : Int) ≤ 140737488351232) (c2 : w.cell? ⟨b, o + 2, none⟩ = some (.int .i64 p)) :
    Calls Try.prog 71 #[.pointer (some ⟨b, o, none⟩), .int .i64 (n : Int)] w fun e w' => e = .returned (.int .i64 (shareN p n : Int)) ∧ w = w' := by
  by_cases h : p < 0
  · have HO : Hid ((0 : Int) = (shareN p n : Int)) := by unfold Hid shareN; rw [if_pos h]; rfl
    go_enter Try.func71, Try.ntmps71
    go_wp2
    go_ret
    exact ⟨ret_int HO.out, rfl⟩
  · have HO : Hid (p % ((n : Int) + 1) = (shareN p n : Int)) := by
      unfold Hid shareN; rw [if_neg h]
      have h2 := Int.emod_nonneg p (show (n : Int) + 1 ≠ 0 by omega)
      omega
    have h0 : 0 ≤ p := by omega
    have hne : ((n : Int) + 1 == 0) = false := by rw [beq_eq_false_iff_ne]; omega
    have hne2 : (n : Int) + 1 ≠ 0 := by omega
    clear h
    go_enter Try.func71, Try.ntmps71
    go_wp2
    go_ret
    exact ⟨ret_int HO.out, rfl⟩

theorem ByteSrc.keep {w w' : World} {v : Value} {bs : List UInt8} (h : ByteSrc w v bs) (hb : bs ≠ [] → ∀ a n c, v = .slice (some a) n c → w'.heap[a.block]? = w.heap[a.block]?) : ByteSrc w' v bs := by
  rcases h with h | ⟨a, c, e, h1, h2, h3⟩
  · exact .inl h
  · refine .inr ⟨a, c, e, h1, h2, fun j u hu => ?_⟩
    have hne : bs ≠ [] := by rintro rfl; simp at hu
    rw [← h3 j u hu]
    refine World.cell?_of_block (w := w) (a := a.add j) ?_
    rw [show (a.add j).block = a.block by simp [Addr.add]; split <;> rfl]
    exact hb hne a _ _ e

theorem ByteSrc.form {w : World} {v : Value} {bs : List UInt8} (h : ByteSrc w v bs) : ∃ bo bc, v = .slice bo bs.length bc := by
  rcases h with ⟨e, e2⟩ | ⟨a, c, e, _⟩
  · rw [e2]; exact ⟨_, _, e⟩
  · exact ⟨_, _, e⟩

def opAppend (S : DS) (n : Nm) (bs : List UInt8) : Int × DS :=
  if (begR S (goodNm n)).2 = true then ((begR S (goodNm n)).1, (opPut (begS S) n bs (shareN S.fp bs.length)).2) else
  if (begR S (goodNm n)).1 ≠ 0 then ((begR S (goodNm n)).1, begS S) else opPut (begS S) n bs bs.length

/-- begin behind a row of the name -/
theorem beg_row {w : World} {d : Nat} {g : Gh} {S : DS} (h : Rep w d g S) (hc : Sm S) (s : ByteArray) (hs : s.size ≤ maxLen) :
    Calls Try.prog 66 #[ptr d, .slice (some ⟨w.heap.size, 0, none⟩) 1 1] (w.alloc (.cells #[.string s] 9)) (BegPost (w.alloc (.cells #[.string s] 9)) d g S (goodNm s.data.toList)) :=
  begin_any (h.alloc _) (by have := hc.1; omega) _ _ (fun W hW => names_one (by rw [hW _ (by have := lt_of_heap h.dir; omega)]; exact heap_new _ _) hs)

set_option maxHeartbeats 1000000 in
set_option maxRecDepth 100000 in
theorem append_any {w : World} {d : Nat} {g : Gh} {S : DS} (h : Rep w d g S) (hc : Sm S) (s : ByteArray) (hs : s.size ≤ maxLen) (b : Value) (bs : List UInt8) (hb : ByteSrc w b bs) (hbs : (bs.length : Int) ≤ 140737488351232)
    (hbo : bs ≠ [] → ∀ a n c, b = .slice (some a) n c → a.block < w.heap.size ∧ a.block ≠ d) :
    Calls Try.prog 32 #[ptr d, .string s, b] w (MPost w d g (opAppend S s.data.toList bs).1 (opAppend S s.data.toList bs).2) := by
  have HS := Lib.hid hs
  have HB := Lib.hid (beg_row h hc s hs)
  have HM : Hid (Moves (Own g) w (w.alloc (.cells #[.string s] 9))) := (Moves.refl _ w).alloc _
  have HBS := Lib.hid (fun (w2 : World) (ho : ∀ x, x ≠ d → w2.heap[x]? = (w.alloc (.cells #[.string s] 9)).heap[x]?) => hb.keep (w' := w2) (fun hne a n c e => (ho _ (hbo hne a n c e).2).trans (Below.heap_alloc _ _ _ (hbo hne a n c e).1)))
  obtain ⟨bo, bc, hbv⟩ := hb.form
  subst hbv
  have HLE := Lib.hid (shareN_le S.fp bs.length)
  have HLB := Lib.hid hbs
  have hfp := h.bfp.2
  obtain ⟨r, Hr⟩ : ∃ r, Hid (begR S (goodNm s.data.toList) = r) := ⟨_, rfl⟩
  clear h hs hc hb hbo
  unfold ptr
  obtain ⟨r1, r2⟩ := r
  cases r2
  · by_cases h0 : r1 = 0
    · have e0 : (r1 != 0) = false := by simp [h0]
      have HO : Hid (opAppend S s.data.toList bs = opPut (begS S) s.data.toList bs bs.length) := by unfold Hid opAppend; rw [Hr.out]; simp [h0]
      clear h0
      go_enter Try.func32, Try.ntmps32
      go_wp2_with fail
      refine HB.out.mono ?_
      unfold BegPost
      rw [Hr.out]
      rintro e w2 ⟨rfl, hr2, hsz2, ho2, hm2⟩
      have HP := Lib.hid (put_any hr2 s HS.out _ bs (HBS.out w2 ho2) bs.length (Nat.le_refl _) HLB.out)
      have HM2 := Lib.hid hm2
      clear hr2 hsz2 ho2 hm2
      go_wp2_with fail
      refine HP.out.mono ?_
      rintro e w3 ⟨rfl, hst⟩
      have HST := Lib.hid hst
      clear hst
      go_wp2
      go_ret
      exact ⟨by rw [HO.out]; rfl, by rw [HO.out]; exact HST.out.after (HM.out.trans HM2.out (fun _ _ e => e))⟩
    · have e0 : (r1 != 0) = true := by simp [h0]
      have HO : Hid (opAppend S s.data.toList bs = (r1, begS S)) := by unfold Hid opAppend; rw [Hr.out]; simp [h0]
      clear h0
      go_enter Try.func32, Try.ntmps32
      go_wp2_with fail
      refine HB.out.mono ?_
      unfold BegPost
      rw [Hr.out]
      rintro e w2 ⟨rfl, hr2, hsz2, ho2, hm2⟩
      have HR2 := Lib.hid hr2
      have HM2 := Lib.hid hm2
      clear hr2 hsz2 ho2 hm2
      go_wp2
      go_ret
      exact ⟨by rw [HO.out]; rfl, by rw [HO.out]; exact Step.of HR2.out (HM.out.trans HM2.out (fun _ _ e => e))⟩
  · have HO : Hid (opAppend S s.data.toList bs = (r1, (opPut (begS S) s.data.toList bs (shareN S.fp bs.length)).2)) := by unfold Hid opAppend; rw [Hr.out]; simp
    go_enter Try.func32, Try.ntmps32
    go_wp2_with fail
    refine HB.out.mono ?_
    unfold BegPost
    rw [Hr.out]
    rintro e w2 ⟨rfl, hr2, hsz2, ho2, hm2⟩
    have c8 : w2.cell? ⟨d, 6 + 2, none⟩ = some (.int .i64 S.fp) := cell_of hr2.dir rfl
    have HC8 := Lib.hid c8
    have HP := Lib.hid (put_any hr2 s HS.out _ bs (HBS.out w2 ho2) (shareN S.fp bs.length) HLE.out HLB.out)
    have HM2 := Lib.hid hm2
    clear hr2 hsz2 ho2 hm2 c8
    go_wp2_with fail
    refine (share_any d 6 S.fp bs.length _ hfp HLB.out HC8.out).mono ?_
    rintro e w' ⟨rfl, rfl⟩
    go_wp2_with fail
    refine HP.out.mono ?_
    rintro e w3 ⟨rfl, hst⟩
    have HST := Lib.hid hst
    clear hst
    go_wp2
    go_ret
    exact ⟨by rw [HO.out]; rfl, by rw [HO.out]; exact HST.out.after (HM.out.trans HM2.out (fun _ _ e => e))⟩

/-- Fail -/
def opFail (S : DS) (n e p : Int) : DS := { S with fl := n.toNat, fe := e, fp := p }

set_option maxHeartbeats 1000000 in
set_option maxRecDepth 100000 in
theorem fail_any {w : World} {d : Nat} {g : Gh} {S : DS} (h : Rep w d g S) (n e p : Int) (hn : n ≤ 9223372036854775807) (hp : -9223372036854775808 ≤ p ∧ p ≤ 9223372036854775807) :
    Calls Try.prog 15 #[ptr d, .int .i64 n, .int .i64 e, .int .i64 p] w fun en w' => en = .returned (.tuple #[]) ∧ Rep w' d g (opFail S n e p) ∧ Moves (Own g) w w' := by
  have c6 : w.cell? ⟨d, 6, none⟩ = some (.int .i64 (S.fl : Int)) := cell_of h.dir rfl
  have c7 : w.cell? ⟨d, 7, none⟩ = some (.int .i64 S.fe) := cell_of h.dir rfl
  have c8 : w.cell? ⟨d, 8, none⟩ = some (.int .i64 S.fp) := cell_of h.dir rfl
  have f6 : w.frozen? ⟨d, 6, none⟩ = false := unfrozen_of h.dir
  have f7 : w.frozen? ⟨d, 7, none⟩ = false := unfrozen_of h.dir
  have f8 : w.frozen? ⟨d, 8, none⟩ = false := unfrozen_of h.dir
  have HF : Hid (∀ W : World, W = (((w.setCell ⟨d, 6, none⟩ (.int .i64 (n.toNat : Int))).setCell ⟨d, 7, none⟩ (.int .i64 e)).setCell ⟨d, 8, none⟩ (.int .i64 p)) → Rep W d g (opFail S n e p) ∧ Moves (Own g) w W) := by
    rintro W rfl
    have hd := heap_set (i := 8) (heap_set (i := 7) (heap_set (i := 6) h.dir (.int .i64 (n.toNat : Int))) (.int .i64 e)) (.int .i64 p)
    refine ⟨h.counts (opFail S n e p) (by simp [World.setCell]) (fun b hb _ => by rw [Below.heap_setCell _ _ _ _ hb, Below.heap_setCell _ _ _ _ hb, Below.heap_setCell _ _ _ _ hb]) hd rfl rfl rfl rfl (Nat.le_refl _) h.bleft (by show ((n.toNat : Nat) : Int) ≤ _; omega) hp, ?_⟩
    have hF : Own g d := by unfold Own; rw [h.rd]; simp
    exact (((Moves.refl _ w).setCell (fun _ => hF) _).setCell (fun _ => hF) _).setCell (fun _ => hF) _
  clear h
  unfold ptr
  have e1 : (n.toNat : Int) = max n 0 := by omega
  rw [e1] at HF
  clear e1
  go_enter Try.func15, Try.ntmps15
  go_wp2
  go_end0
  exact ⟨rfl, HF.out _ rfl⟩

end Go.Proofs.Ytjiklpoggpdngaa
