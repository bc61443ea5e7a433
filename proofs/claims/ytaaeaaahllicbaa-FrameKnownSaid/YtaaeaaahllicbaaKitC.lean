/- Rows side by side: each in blocks of its own; what an append does to them. -/
import Derived.Test.YtaaeaaahllicbaaCodQ
import Derived.Test.YtaaeaaahllicbaaKitB
namespace Go.Proofs.Ytaaeaaahllicbaa
open Go.RowKit Go.Maps

/-- an append's outcome: in place, or in a new block, nothing else touched -/
def App (v v' : Value) (w w' : World) : Prop :=
  (∃ g n c n' c', v = .slice (some ⟨g, 0, none⟩) n c ∧ v' = .slice (some ⟨g, 0, none⟩) n' c' ∧ w.grownBy w' (some g)) ∨ (w.grownBy w' none ∧ ∀ a n c, v' = .slice (some a) n c → w.heap.size ≤ a.block)

theorem run_append_two {P : Program} (w : World) (base : Nat) (t ty e : TypeId) (i : TypeInfo) (z : Value) (bytes : Nat) (ht : P.underlying t = some (.slice e)) (hi : P.info? e = some i) (hz : i.zero = some z)
    (hsize : i.size = 1) (hby : i.bytes = bytes) (hzs : z.cells.size = 1)
    (v : Value) (n : Nat) (xs : List Value) (hown : w.ownsRow base e 1 v n xs)
    (a : Addr) (m c : Nat) (news : List Value) (hl : news.length = m * 1) (hnews : ∀ j u, news[j]? = some u → w.cell? (a.add j) = some u) (h1 : ∀ u ∈ news, u.oneCell' = true)
    (h63 : n + m ≤ maxLen) (hbytes : (n + m) * bytes ≤ 140737488355328) (hbase : base ≤ w.heap.size) (hm : 0 < m) :
    ∃ v' w', (Builtin.append_ #[t, t] ty #[v, .slice (some a) m c]).run P w = .ok v' w' ∧ w'.ownsRow base e 1 v' (n + m) (xs ++ news) ∧ App v v' w w' := by
  have hown0 := hown
  obtain ⟨hx, hv | ⟨g, cap, cur, hv, hg, hh, hn, hc, hcs, htk⟩⟩ := hown
  · obtain ⟨rfl, rfl⟩ := hv
    have ho : w.ownsRow w.heap.size e 1 (.slice none 0 0) 0 xs := ⟨hx, .inl ⟨rfl, rfl⟩⟩
    obtain ⟨v', w', hr, h2, h3, h4⟩ := run_append_own (P := P) w w.heap.size t ty e i z 1 bytes ht hi hz hsize hby hzs (by decide) _ 0 xs ho a m c news hl hnews h1 h63 hbytes (Nat.le_refl _)
    exact ⟨v', w', hr, row_base h2 hbase, .inr ⟨h3, fun a n c e => new_of_row h2 e⟩⟩
  · subst hv
    by_cases hfit : n + m ≤ cap
    · obtain ⟨w', hr, h2, h3⟩ := run_append_fits (P := P) w base t ty e i 1 ht hi hsize g n cap xs hown0 a m c news hl hnews h1 hfit
      exact ⟨_, w', hr, h2, .inl ⟨g, _, _, _, _, rfl, rfl, h3⟩⟩
    · have hcells : ∀ j u, xs[j]? = some u → w.cell? ((⟨g, 0, none⟩ : Addr).add j) = some u := by
        intro j u hu
        rw [addOff, Nat.zero_add]
        obtain ⟨hj, he⟩ := List.getElem?_eq_some_iff.1 hu
        have := (row_cell hown0 rfl hj).1
        simp only [Nat.zero_add] at this
        rw [this, he]
      obtain ⟨v', w', hr, h2, h3⟩ := run_append_arg_grows (P := P) w t ty e i z 1 bytes ht hi hz hsize hby hzs (by decide) ⟨g, 0, none⟩ n cap xs hx hcells a m c news hl hnews (by omega) h63 hbytes
      exact ⟨v', w', hr, row_base h2 hbase, .inr ⟨h3, fun a n c e => new_of_row h2 e⟩⟩

theorem wpList_append_two {P : Program} {w : World} {ops : Array Oper} {rest : List Oper} {o : Oper} {a : Act} {Q : Exit → Act → World → Prop}
    (hg : o.guard = none) (s x : Operand) (t : TypeId) (hop : o.op = Op.call { callee := Callee.builtin Builtin.append, args := #[s, x], argTypes := #[t, t] }) (base : Nat)
    (e : TypeId) (i : TypeInfo) (z : Value) (bytes : Nat) (ht : P.underlying t = some (.slice e)) (hi : P.info? e = some i) (hz : i.zero = some z)
    (hsize : i.size = 1) (hby : i.bytes = bytes) (hzs : z.cells.size = 1)
    (v : Value) (n : Nat) (xs : List Value) (hs : a.eval s = v) (hown : w.ownsRow base e 1 v n xs)
    (ad : Addr) (m c : Nat) (news : List Value) (hx : a.eval x = .slice (some ad) m c) (hl : news.length = m * 1) (hnews : ∀ j u, news[j]? = some u → w.cell? (ad.add j) = some u) (h1 : ∀ u ∈ news, u.oneCell' = true)
    (h63 : n + m ≤ maxLen) (hbytes : (n + m) * bytes ≤ 140737488355328) (hbase : base ≤ w.heap.size) (hm : 0 < m)
    (hK : ∀ v' w', w'.ownsRow base e 1 v' (n + m) (xs ++ news) → App v v' w w' → wpList P ops Q rest (a.put o.dst v') w') :
    wpList P ops Q (o :: rest) a w := by
  refine wpList_plain hg fun K hK' => ?_
  obtain ⟨v', w', hrun, r1, r2⟩ := run_append_two (P := P) w base t o.type e i z bytes ht hi hz hsize hby hzs v n xs hown ad m c news hl hnews h1 h63 hbytes hbase hm
  unfold Oper.wp
  simp [execOp, hop, resolve, invoke, builtin, hs, hx, hrun, Result.andThen]
  exact hK' _ _ (hK v' w' r1 r2)

/-- whose a block is -/
structure Roles (w : World) (role : Nat → Option Nat) : Prop where
  lt : ∀ b, role b ≠ none → b < w.heap.size
def Rol (role : Nat → Option Nat) (i : Nat) (v : Value) : Prop := ∀ a m c, v = .slice (some a) m c → role a.block = some i
/-- nothing but i's blocks and new ones has turned -/
structure Turn (i : Nat) (role role' : Nat → Option Nat) (w w' : World) : Prop where
  os : w'.os = w.os
  tape : w'.tape = w.tape
  output : w'.output = w.output
  size : w.heap.size ≤ w'.heap.size
  block : ∀ b, b < w.heap.size → role b ≠ some i → w'.heap[b]? = w.heap[b]?
  keep : ∀ b, b < w.heap.size → role' b = role b

theorem Turn.rol {i j : Nat} {role role' : Nat → Option Nat} {w w' : World} {v : Value} (t : Turn i role role' w w') (hr : Roles w role) (h : Rol role j v) : Rol role' j v := fun a m c e => by
  have h1 := h a m c e
  rw [t.keep _ (hr.lt _ (by rw [h1]; simp))]; exact h1
theorem Turn.row {i j : Nat} {role role' : Nat → Option Nat} {w w' : World} {v : Value} {base : Nat} {e : TypeId} {n : Nat} {xs : List Value} (t : Turn i role role' w w') (h : w.ownsRow base e 1 v n xs) (hv : Rol role j v) (hij : j ≠ i) : w'.ownsRow base e 1 v n xs :=
  row_keep h fun a n c e => t.block _ (row_lt h e) (by rw [hv a n c e]; intro h; exact hij (Option.some.inj h))
theorem Turn.src {i j : Nat} {role role' : Nat → Option Nat} {w w' : World} {v : Value} {xs : List Value} (t : Turn i role role' w w') (h : Src w v xs) (hv : Rol role j v) (hr : Roles w role) (hij : j ≠ i) : Src w' v xs :=
  h.keep t.size fun _ a n c e => t.block _ (hr.lt _ (by rw [hv a n c e]; simp)) (by rw [hv a n c e]; intro h; exact hij (Option.some.inj h))
/-- .. of a block that is nobody's -/
theorem Turn.srcA {i : Nat} {role role' : Nat → Option Nat} {w w' : World} {v : Value} {xs : List Value} (t : Turn i role role' w w') (h : Src w v xs) (hv : ∀ a m c, v = .slice (some a) m c → role a.block = none) : Src w' v xs := by
  refine h.keep t.size fun hne a n c e => t.block _ ?_ (by rw [hv a n c e]; simp)
  rcases h with ⟨_, _, _, hx, _⟩ | ⟨b, off, cap, hv', _, _, h3, _⟩
  · exact absurd hx hne
  · rw [hv'] at e; cases e; exact h3
theorem Turn.nobody {i : Nat} {role role' : Nat → Option Nat} {w w' : World} {v : Value} {xs : List Value} (t : Turn i role role' w w') (h : Src w v xs) (hne : xs ≠ []) (hv : ∀ a m c, v = .slice (some a) m c → role a.block = none) : ∀ a m c, v = .slice (some a) m c → role' a.block = none := by
  intro a m c e
  rcases h with ⟨_, _, _, hx, _⟩ | ⟨b, off, cap, hv', _, _, h3, _⟩
  · exact absurd hx hne
  · rw [t.keep _ (by rw [hv'] at e; cases e; exact h3)]; exact hv a m c e
theorem Turn.below {i : Nat} {role role' : Nat → Option Nat} {w w' : World} {B : Nat} (t : Turn i role role' w w') (hb : B ≤ w.heap.size) (h : ∀ b, b < B → role b = none) : RowKit.Below B w w' :=
  ⟨t.os, t.tape, t.output, t.size, fun k hk => t.block k (Nat.lt_of_lt_of_le hk hb) (by rw [h k hk]; simp)⟩
theorem Turn.refl (i : Nat) (role : Nat → Option Nat) (w : World) : Turn i role role w w := ⟨rfl, rfl, rfl, Nat.le_refl _, fun _ _ _ => rfl, fun _ _ => rfl⟩
theorem Turn.alloc {i : Nat} {role role' : Nat → Option Nat} {w w' : World} (t : Turn i role role' w w') (o : Obj) : Turn i role role' w (w'.alloc o) :=
  ⟨t.os, t.tape, t.output, Nat.le_trans t.size (by simp), fun b hb hr => (Below.heap_alloc _ _ _ (Nat.lt_of_lt_of_le hb t.size)).trans (t.block b hb hr), t.keep⟩
theorem Turn.drewN {i : Nat} {role role' : Nat → Option Nat} {w w' : World} (t : Turn i role role' w w') (n : Nat) : Turn i role role' w (w'.drewN n) := ⟨t.os, t.tape, t.output, t.size, t.block, t.keep⟩
theorem Turn.setCell {i : Nat} {role : Nat → Option Nat} {w : World} {g k : Nat} (hg : role g = some i) (u : Value) : Turn i role role w (w.setCell ⟨g, k, none⟩ u) :=
  ⟨rfl, rfl, rfl, by simp [World.setCell], fun b _ hr => Below.heap_setCell _ _ _ _ (by intro e; subst e; exact hr hg), fun _ _ => rfl⟩

theorem Turn.trans {i : Nat} {r r' r'' : Nat → Option Nat} {a b c : World} (t : Turn i r r' a b) (s : Turn i r' r'' b c) : Turn i r r'' a c :=
  ⟨s.os.trans t.os, s.tape.trans t.tape, s.output.trans t.output, Nat.le_trans t.size s.size, fun x hx hn => (s.block x (Nat.lt_of_lt_of_le hx t.size) (by rw [t.keep x hx]; exact hn)).trans (t.block x hx hn), fun x hx => (s.keep x (Nat.lt_of_lt_of_le hx t.size)).trans (t.keep x hx)⟩
theorem Roles.alloc {w : World} {role : Nat → Option Nat} (h : Roles w role) (o : Obj) : Roles (w.alloc o) role := ⟨fun b hb => by have := h.lt b hb; simp; omega⟩

/-- an append behind i's row, in roles -/
theorem App.turn {v v' : Value} {w w' : World} {i : Nat} {role : Nat → Option Nat} (h : App v v' w w') (hv : Rol role i v) (hr : Roles w role) (hl : ∀ a n c, v' = .slice (some a) n c → a.block < w'.heap.size) :
    ∃ role', Turn i role role' w w' ∧ Roles w' role' ∧ Rol role' i v' ∧ ∀ b, role' b ≠ none → role b ≠ none ∨ w.heap.size ≤ b := by
  rcases h with ⟨g, n, c, n', c', rfl, rfl, hgr⟩ | ⟨hgr, hnew⟩
  · have hg := hv _ _ _ rfl
    refine ⟨role, ⟨hgr.os, hgr.tape, hgr.output, hgr.size, fun b hb hn => hgr.block b hb ?_, fun _ _ => rfl⟩, ⟨fun b hb => Nat.lt_of_lt_of_le (hr.lt b hb) hgr.size⟩, fun a m c e => ?_, fun b hb => .inl hb⟩
    · intro e; injection e with e; subst e; exact hn hg
    · cases e; exact hg
  · refine ⟨fun b => if w.heap.size ≤ b ∧ b < w'.heap.size then some i else role b, ⟨hgr.os, hgr.tape, hgr.output, hgr.size, fun b hb hn => hgr.block b hb (by simp), fun b hb => if_neg (by omega)⟩, ⟨fun b hb => ?_⟩, fun a m c e => ?_, fun b hb => ?_⟩
    · by_cases e : w.heap.size ≤ b ∧ b < w'.heap.size
      · exact e.2
      · simp only [if_neg e] at hb; exact Nat.lt_of_lt_of_le (hr.lt b hb) hgr.size
    · exact if_pos ⟨hnew a m c e, hl a m c e⟩
    · by_cases e : w.heap.size ≤ b ∧ b < w'.heap.size
      · exact .inr e.1
      · simp only [if_neg e] at hb; exact .inl hb

end Go.Proofs.Ytaaeaaahllicbaa
