/- An append of any cells; the document's Kind. -/
import Derived.Test.YtaaeaaahllicbaaFrmD
namespace Go.Proofs.Ytaaeaaahllicbaa
open Go.RowKit Go.Maps Crc

theorem append_any {e t : TypeId} {z : Value} {bytes : Nat} (hu : Try.prog.underlying t = some (.slice e)) (hinfo : (Try.prog.info? e).map (fun i => (i.zero, i.size, i.bytes)) = some (some z, 1, bytes)) (hzc : z.cells.size = 1) (hby : bytes ≤ 24)
    {w : World} {ops : Array Oper} {rest : List Oper} {o : Oper} {a : Act} {Q : Exit → Act → World → Prop} (hgd : o.guard = none) (s x : Operand)
    (ho : o.op = .call { callee := .builtin .append, args := #[s, x], argTypes := #[t, t] }) (base : Nat) (v : Value) (n : Nat) (xs : List Value) (hs : a.eval s = v) (hown : w.ownsRow base e 1 v n xs)
    (xv : Value) (hx : a.eval x = xv) (bs : List Value) (hsrc : Src w xv bs) (hone : ∀ u ∈ bs, u.oneCell' = true) (hb : n + bs.length ≤ 1000000000) (hbase : base ≤ w.heap.size)
    (h : ∀ v' w', w'.ownsRow base e 1 v' (n + bs.length) (xs ++ bs) → w.grownBy w' v.ownBlock → wpList Try.prog ops Q rest (a.put o.dst v') w') : wpList Try.prog ops Q (o :: rest) a w := by
  obtain ⟨i0, hi, hz0, hz1, hz2⟩ := infoOf hinfo
  have hb1 : n + bs.length ≤ maxLen := by unfold maxLen; omega
  have hb2 : (n + bs.length) * bytes ≤ 140737488355328 := by
    have := Nat.mul_le_mul hb hby
    omega
  rcases hsrc with ⟨ao, cap, hv, hxs, hz, _⟩ | ⟨b, off, cap, hv, _, _, _, h4⟩
  · subst hxs
    cases ao with
    | none =>
      obtain rfl := hz rfl
      rw [hv] at hx
      refine wpList_append_own_none hgd s x t ho base e i0 1 hu hi v n _ hs hown hx ?_
      exact h v w (by simpa using hown) (grown_refl _ _)
    | some ad =>
      rw [hv] at hx
      refine wpList_append_own w hgd s x t ho base e i0 z 1 bytes hu hi hz0 hz1 hz2 hzc (by decide) v n _ hs hown ad 0 cap [] hx rfl (fun j u hu => by simp at hu) (fun u hu => by simp at hu) hb1 (by simpa using hb2) hbase ?_
      intro v' w' g1 g2 _
      exact h v' w' (by simpa using g1) g2
  · rw [hv] at hx
    refine wpList_append_own w hgd s x t ho base e i0 z 1 bytes hu hi hz0 hz1 hz2 hzc (by decide) v n _ hs hown ⟨b, off, none⟩ bs.length cap bs hx (by simp) (fun j u hu => by rw [addOff]; exact h4 j u hu) hone hb1 hb2 hbase ?_
    intro v' w' g1 g2 _
    exact h v' w' g1 g2

theorem Src.part {w : World} {b off n cap : Nat} {xs : List Value} (h : Src w (.slice (some ⟨b, off, none⟩) n cap) xs) {i j : Nat} (hj : j ≤ xs.length) (hij : i < j) : Src w (.slice (some ⟨b, off + i, none⟩) (j - i) (cap - i)) ((xs.drop i).take (j - i)) := by
  rcases h with ⟨ao', c', e, e2, h5, h6⟩ | ⟨b', off', c, hv, h1, h2, h3, h4⟩
  · subst e2; simp at hj; omega
  · cases hv
    have hl : ((xs.drop i).take (j - i)).length = j - i := by rw [List.length_take, List.length_drop]; omega
    refine .inr ⟨b, off + i, cap - i, by rw [hl], by rw [hl]; omega, by omega, h3, fun k u hu => ?_⟩
    rw [List.getElem?_take] at hu
    split at hu
    · rw [List.getElem?_drop] at hu
      rw [Nat.add_assoc]; exact h4 _ u hu
    · cases hu

/-- the kind of bytes that begin as sealed ones do -/
def kindP : List UInt8 → Option UInt8
  | a :: b :: c :: k :: _ => if a = 76 ∧ b = 84 ∧ c = 1 then some k else none
  | _ => none
theorem kindP_cons (a b c k : UInt8) (r : List UInt8) : kindP (a :: b :: c :: k :: r) = if a = 76 ∧ b = 84 ∧ c = 1 then some k else none := rfl
theorem kindP_short : ∀ (bs : List UInt8), bs.length < 4 → kindP bs = none
  | [], _ => rfl
  | [_], _ => rfl
  | [_, _], _ => rfl
  | [_, _, _], _ => rfl
  | _ :: _ :: _ :: _ :: _, h => by simp at h; omega
theorem four_of : ∀ (bs : List UInt8), ¬ bs.length < 4 → ∃ x0 x1 x2 x3 r, bs = x0 :: x1 :: x2 :: x3 :: r
  | [], h => absurd (by decide) h
  | [_], h => absurd (by simp) h
  | [_, _], h => absurd (by simp) h
  | [_, _, _], h => absurd (by simp) h
  | x0 :: x1 :: x2 :: x3 :: r, _ => ⟨x0, x1, x2, x3, r, rfl⟩
theorem byte_ne {a b : UInt8} (h : a ≠ b) : ((a.toNat : Int) != (b.toNat : Int)) = true := by
  simp; intro e; exact h (UInt8.toNat_inj.1 (by omega))
theorem byte_eq (a : UInt8) : ((a.toNat : Int) != (a.toNat : Int)) = false := by simp
def KindPost (w : World) (k : Option UInt8) (e : Ending) (w' : World) : Prop := w = w' ∧ ((∃ x : UInt8, k = some x ∧ e = .returned (.tuple #[bV x, .bool true])) ∨ (k = none ∧ e = .returned (.tuple #[.int .u8 0, .bool false])))

set_option maxHeartbeats 2000000 in
set_option maxRecDepth 100000 in
theorem refKind_any {w : World} {v : Value} {bs : List UInt8} (h : Src w v (bs.map bV)) (hb : (bs.length : Int) ≤ 140737488351232) : Calls Try.prog 20 #[v] w (KindPost w (kindP bs)) := by
  obtain ⟨ao, cap, rfl⟩ := h.len
  rw [List.length_map] at h ⊢
  by_cases h4 : bs.length < 4
  · have HNO := Lib.hid (kindP_short bs h4)
    obtain ⟨n, hn⟩ : ∃ n, n = bs.length := ⟨_, rfl⟩
    rw [← hn] at h4 hb ⊢
    have hd : decide (n < 4) = true := decide_eq_true h4
    have hd' : decide ((n : Int) < 4) = true := decide_eq_true (by omega)
    clear h h4 hn
    go_enter Try.func20, Try.ntmps20
    go_wp2
    go_ret2
    exact ⟨rfl, .inr ⟨HNO.out, rfl⟩⟩
  · obtain ⟨x0, x1, x2, x3, r, rfl⟩ := four_of bs h4
    obtain ⟨b0, o0, rfl, c0⟩ := h.get (i := 0) (u := bV x0) rfl
    obtain ⟨b', o', e', c1⟩ := h.get (i := 1) (u := bV x1) rfl
    cases e'
    obtain ⟨b', o', e', c2⟩ := h.get (i := 2) (u := bV x2) rfl
    cases e'
    obtain ⟨b', o', e', c3⟩ := h.get (i := 3) (u := bV x3) rfl
    cases e'
    rw [Nat.add_zero] at c0
    unfold bV at c0 c1 c2 c3
    obtain ⟨n, hn⟩ : ∃ n, n = (x0 :: x1 :: x2 :: x3 :: r).length := ⟨_, rfl⟩
    rw [← hn] at h4 hb ⊢
    have hd : decide (n < 4) = false := decide_eq_false h4
    have hd' : decide ((n : Int) < 4) = false := decide_eq_false (by omega)
    have hn4 : (4 : Int) ≤ (n : Int) := by omega
    clear h h4 hn
    by_cases e0 : x0 = 76
    · by_cases e1 : x1 = 84
      · by_cases e2 : x2 = 1
        · subst e0; subst e1; subst e2
          have f0 : ((76 : UInt8).toNat : Int) = 76 := rfl
          have f1 : ((84 : UInt8).toNat : Int) = 84 := rfl
          have f2 : ((1 : UInt8).toNat : Int) = 1 := rfl
          rw [f0] at c0; rw [f1] at c1; rw [f2] at c2
          clear f0 f1 f2
          go_enter Try.func20, Try.ntmps20
          go_wp2
          go_ret2
          exact ⟨rfl, .inl ⟨x3, by rfl, rfl⟩⟩
        · have g2 := byte_ne e2
          rw [show ((1 : UInt8).toNat : Int) = 1 from rfl] at g2
          have HNO : Hid (kindP (x0 :: x1 :: x2 :: x3 :: r) = none) := by unfold Hid; rw [kindP_cons, if_neg (fun h => e2 h.2.2)]
          subst e0; subst e1
          rw [show ((76 : UInt8).toNat : Int) = 76 from rfl] at c0
          rw [show ((84 : UInt8).toNat : Int) = 84 from rfl] at c1
          clear e2
          go_enter Try.func20, Try.ntmps20
          go_wp2
          go_ret2
          exact ⟨rfl, .inr ⟨HNO.out, rfl⟩⟩
      · have g1 := byte_ne e1
        rw [show ((84 : UInt8).toNat : Int) = 84 from rfl] at g1
        have HNO : Hid (kindP (x0 :: x1 :: x2 :: x3 :: r) = none) := by unfold Hid; rw [kindP_cons, if_neg (fun h => e1 h.2.1)]
        subst e0
        rw [show ((76 : UInt8).toNat : Int) = 76 from rfl] at c0
        clear e1
        go_enter Try.func20, Try.ntmps20
        go_wp2
        go_ret2
        exact ⟨rfl, .inr ⟨HNO.out, rfl⟩⟩
    · have g0 := byte_ne e0
      rw [show ((76 : UInt8).toNat : Int) = 76 from rfl] at g0
      have HNO : Hid (kindP (x0 :: x1 :: x2 :: x3 :: r) = none) := by unfold Hid; rw [kindP_cons, if_neg (fun h => e0 h.1)]
      clear e0
      go_enter Try.func20, Try.ntmps20
      go_wp2
      go_ret2
      exact ⟨rfl, .inr ⟨HNO.out, rfl⟩⟩
end Go.Proofs.Ytaaeaaahllicbaa
