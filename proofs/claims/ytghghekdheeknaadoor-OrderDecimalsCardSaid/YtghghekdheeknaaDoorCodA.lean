/- The base: how worlds move, rows of cells, slices that can be read; clones of bytes. -/
import Derived.Test.YtghghekdheeknaaDoorRows
import Derived.WalkKit
import Derived.WalkSpells
import Derived.WalkLawsBesides
import Derived.Lib.Hide
import Derived.IntWalk
import Derived.BigQuiet
import Derived.Deep.QuietTactic
import Derived.RegionTactic
import Derived.ChangeAlike
import Derived.ArgAppend
import Derived.Laws.AppendOwnNone
import Derived.Laws.AppendOwn
import Derived.Maps.Ext
namespace Go.Proofs.YtghghekdheeknaaDoor
open Go.RowKit Go.Maps

def bV (c : UInt8) : Value := .int .u8 (c.toNat : Int)
def ptr (b : Nat) : Value := .pointer (some ⟨b, 0, none⟩)
theorem ret_bool {a b : Bool} (h : a = b) : Ending.returned (.bool a) = .returned (.bool b) := by rw [h]
theorem ret_int {k : IntKind} {a b : Int} (h : a = b) : Ending.returned (.int k a) = .returned (.int k b) := by rw [h]

structure Moves (F : Nat → Prop) (w w' : World) : Prop where
  os : w'.os = w.os
  tape : w'.tape = w.tape
  output : w'.output = w.output
  size : w.heap.size ≤ w'.heap.size
  block : ∀ k, k < w.heap.size → ¬ F k → w'.heap[k]? = w.heap[k]?
theorem Moves.refl (F : Nat → Prop) (w : World) : Moves F w w := ⟨rfl, rfl, rfl, Nat.le_refl _, fun _ _ _ => rfl⟩
theorem Moves.mono {F G : Nat → Prop} {w w' : World} (h : Moves F w w') (hs : ∀ k, k < w.heap.size → F k → G k) : Moves G w w' :=
  ⟨h.os, h.tape, h.output, h.size, fun k hk hn => h.block k hk (fun hf => hn (hs k hk hf))⟩
theorem Moves.trans {F G : Nat → Prop} {a b c : World} (h : Moves F a b) (k : Moves G b c) (hs : ∀ i, i < a.heap.size → G i → F i) : Moves F a c :=
  ⟨k.os.trans h.os, k.tape.trans h.tape, k.output.trans h.output, Nat.le_trans h.size k.size, fun i hi hn => (k.block i (Nat.lt_of_lt_of_le hi h.size) (fun hg => hn (hs i hi hg))).trans (h.block i hi hn)⟩
theorem Moves.alloc {F : Nat → Prop} {a w : World} (h : Moves F a w) (o : Obj) : Moves F a (w.alloc o) :=
  ⟨h.os, h.tape, h.output, Nat.le_trans h.size (by simp), fun k hk hn => (Below.heap_alloc _ _ _ (Nat.lt_of_lt_of_le hk h.size)).trans (h.block k hk hn)⟩
theorem Moves.setCell {F : Nat → Prop} {a w : World} (h : Moves F a w) {p : Addr} (hp : p.block < a.heap.size → F p.block) (u : Value) : Moves F a (w.setCell p u) :=
  ⟨h.os, h.tape, h.output, Nat.le_trans h.size (by simp [World.setCell]), fun k hk hn => (Below.heap_setCell _ _ _ _ (by intro e; subst e; exact hn (hp hk))).trans (h.block k hk hn)⟩
theorem Moves.drew {F : Nat → Prop} {a w : World} (h : Moves F a w) : Moves F a w.drew := ⟨h.os, h.tape, h.output, h.size, h.block⟩
theorem Moves.grown {F : Nat → Prop} {a w w' : World} {row : Option Nat} (h : Moves F a w) (hg : w.grownBy w' row) (hr : ∀ k, row = some k → k < a.heap.size → F k) : Moves F a w' :=
  h.trans (G := fun k => row = some k) ⟨hg.os, hg.tape, hg.output, hg.size, fun k hk hn => hg.block k hk (fun e => hn e.symm)⟩ (fun i hi e => hr i e hi)
theorem Moves.of_below {w w' : World} (h : Below w.heap.size w w') (F : Nat → Prop) : Moves F w w' := ⟨h.os, h.tape, h.output, h.size, fun k hk _ => h.block k hk⟩
theorem Moves.below {w w' : World} {F : Nat → Prop} {B : Nat} (h : Moves F w w') (hB : ∀ k, F k → B ≤ k) (hs : B ≤ w.heap.size) : Below B w w' :=
  ⟨h.os, h.tape, h.output, h.size, fun k hk => h.block k (Nat.lt_of_lt_of_le hk hs) (fun hf => by have := hB k hf; omega)⟩
theorem cell_of {w : World} {b i : Nat} {c : Array Value} {e : TypeId} {fr : Nat × Nat} {v : Value} (h : w.heap[b]? = some (.cells c e fr)) (hv : c[i]? = some v) : w.cell? ⟨b, i, none⟩ = some v := by
  simp [World.cell?, h, hv]
theorem unfrozen_of {w : World} {b i : Nat} {c : Array Value} {e : TypeId} (h : w.heap[b]? = some (.cells c e (0, 0))) : w.frozen? ⟨b, i, none⟩ = false := by
  simp [World.frozen?, h]
theorem heap_set {w : World} {b i : Nat} {c : Array Value} {e : TypeId} {fr : Nat × Nat} (h : w.heap[b]? = some (.cells c e fr)) (v : Value) : (w.setCell ⟨b, i, none⟩ v).heap[b]? = some (.cells (c.setIfInBounds i v) e fr) := by
  simp [World.setCell, Array.getElem?_modify, h]
theorem lt_of_heap {w : World} {b : Nat} {o : Obj} (h : w.heap[b]? = some o) : b < w.heap.size := (Array.getElem?_eq_some_iff.1 h).1
theorem row_keep {w w' : World} {base : Nat} {e : TypeId} {s : Nat} {v : Value} {n : Nat} {xs : List Value} (h : w.ownsRow base e s v n xs) (hb : ∀ a n c, v = .slice (some a) n c → w'.heap[a.block]? = w.heap[a.block]?) : w'.ownsRow base e s v n xs := by
  obtain ⟨h1, h2 | ⟨g, cap, cur, hv, hg, hh, r⟩⟩ := h
  · exact ⟨h1, .inl h2⟩
  · exact ⟨h1, .inr ⟨g, cap, cur, hv, hg, (hb _ _ _ hv).trans hh, r⟩⟩
theorem row_lt {w : World} {base : Nat} {e : TypeId} {s : Nat} {v : Value} {n : Nat} {xs : List Value} (h : w.ownsRow base e s v n xs) {a : Addr} {k c : Nat} (hv : v = .slice (some a) k c) : a.block < w.heap.size := by
  obtain ⟨h1, h2 | ⟨g, cap, cur, hv', hg, hh, r⟩⟩ := h
  · rw [h2.1] at hv; cases hv
  · rw [hv'] at hv; cases hv; exact lt_of_heap hh
theorem row_form {w : World} {base : Nat} {e : TypeId} {s n : Nat} {v : Value} {xs : List Value} (h : w.ownsRow base e s v n xs) : ∃ ao n' c, v = .slice ao n' c := by
  obtain ⟨_, h2 | ⟨g, cap, cur, hv', _⟩⟩ := h
  · exact ⟨_, _, _, h2.1⟩
  · exact ⟨_, _, _, hv'⟩
theorem own_some {v : Value} {b : Nat} (h : v.ownBlock = some b) : ∃ a n c, v = .slice (some a) n c ∧ a.block = b := by
  unfold Value.ownBlock at h
  split at h
  · rename_i a n c
    cases h
    exact ⟨a, n, c, rfl, rfl⟩
  · cases h
theorem heap_new (w : World) (o : Obj) : (w.alloc o).heap[w.heap.size]? = some o := (MapKept.heap_alloc w _).1
theorem row_len {w : World} {base : Nat} {e : TypeId} {n : Nat} {v : Value} {xs : List Value} (h : w.ownsRow base e 1 v n xs) {ao : Option Addr} {k c : Nat} (hv : v = .slice ao k c) : k = n := by
  obtain ⟨_, h2 | ⟨g, cap, cur, hv', _⟩⟩ := h
  · rw [h2.1] at hv; cases hv; exact h2.2.symm
  · rw [hv'] at hv; cases hv; rfl
theorem row_cell {w : World} {base : Nat} {e : TypeId} {n : Nat} {v : Value} {xs : List Value} (h : w.ownsRow base e 1 v n xs) {a : Addr} {k c : Nat} (hv : v = .slice (some a) k c) {i : Nat} (hi : i < xs.length) : w.cell? ⟨a.block, a.off + i, none⟩ = some xs[i] ∧ a.off = 0 ∧ a.spot = none := by
  obtain ⟨h1, h2 | ⟨g, cap, cur, hv', hg, hh, hn, hc, hcs, htk⟩⟩ := h
  · rw [h2.1] at hv; cases hv
  · rw [hv'] at hv
    cases hv
    refine ⟨?_, rfl, rfl⟩
    refine cell_of hh ?_
    have h3 : xs[i]? = some xs[i] := List.getElem?_eq_getElem hi
    generalize xs[i] = u at h3 ⊢
    rw [← htk, List.getElem?_take] at h3
    split at h3
    · rw [Array.getElem?_toList] at h3
      rw [show (0 : Nat) + i = i by omega]; exact h3
    · cases h3
def SameOrNew (v v' : Value) (sz : Nat) : Prop := ∀ a n c, v' = .slice (some a) n c → (∃ a' n' c', v = .slice (some a') n' c' ∧ a'.block = a.block) ∨ sz ≤ a.block
theorem SameOrNew.refl (v : Value) (sz : Nat) : SameOrNew v v sz := fun a n c h => .inl ⟨a, n, c, h, rfl⟩
theorem new_of_row {w : World} {base : Nat} {e : TypeId} {s n : Nat} {v : Value} {xs : List Value} (h : w.ownsRow base e s v n xs) {a : Addr} {n' c : Nat} (hv : v = .slice (some a) n' c) : base ≤ a.block := by
  obtain ⟨_, h2 | ⟨g, cap, cur, hv', hg, _⟩⟩ := h
  · rw [h2.1] at hv; cases hv
  · rw [hv'] at hv; cases hv; exact hg
theorem row_base {w : World} {base base' : Nat} {e : TypeId} {s n : Nat} {v : Value} {xs : List Value} (h : w.ownsRow base e s v n xs) (hb : base' ≤ base) : w.ownsRow base' e s v n xs := by
  obtain ⟨h1, h2 | ⟨g, cap, cur, hv', hg, r⟩⟩ := h
  · exact ⟨h1, .inl h2⟩
  · exact ⟨h1, .inr ⟨g, cap, cur, hv', Nat.le_trans hb hg, r⟩⟩
theorem run_append_role {P : Program} (w : World) (t ty e : TypeId) (i : TypeInfo) (z : Value) (size bytes : Nat) (ht : P.underlying t = some (.slice e)) (hi : P.info? e = some i) (hz : i.zero = some z)
    (hsize : i.size = size) (hby : i.bytes = bytes) (hzs : z.cells.size = size) (hsz : 0 < size)
    (v : Value) (n : Nat) (xs : List Value) (hown : w.ownsRow 0 e size v n xs)
    (a : Addr) (m c : Nat) (news : List Value) (hl : news.length = m * size) (hnews : ∀ j u, news[j]? = some u → w.cell? (a.add j) = some u) (h1 : ∀ u ∈ news, u.oneCell' = true)
    (h63 : n + m ≤ maxLen) (hbytes : (n + m) * bytes ≤ 140737488355328) :
    ∃ v' w', (Builtin.append_ #[t, t] ty #[v, .slice (some a) m c]).run P w = .ok v' w' ∧ w'.ownsRow 0 e size v' (n + m) (xs ++ news) ∧ w.grownBy w' v.ownBlock ∧ SameOrNew v v' w.heap.size := by
  have hown0 := hown
  obtain ⟨hx, hv | ⟨g, cap, cur, hv, hg, hh, hn, hc, hcs, htk⟩⟩ := hown
  · obtain ⟨rfl, rfl⟩ := hv
    have ho : w.ownsRow w.heap.size e size (.slice none 0 0) 0 xs := ⟨hx, .inl ⟨rfl, rfl⟩⟩
    obtain ⟨v', w', hr, h2, h3, h4⟩ := run_append_own (P := P) w w.heap.size t ty e i z size bytes ht hi hz hsize hby hzs hsz _ 0 xs ho a m c news hl hnews h1 h63 hbytes (Nat.le_refl _)
    exact ⟨v', w', hr, row_base h2 (Nat.zero_le _), h3, fun a n c e => .inr (new_of_row h2 e)⟩
  · subst hv
    by_cases hfit : n + m ≤ cap
    · obtain ⟨w', hr, h2, h3⟩ := run_append_fits (P := P) w 0 t ty e i size ht hi hsize g n cap xs hown0 a m c news hl hnews h1 hfit
      exact ⟨_, w', hr, h2, h3, fun a n c e => .inl ⟨a, _, _, by cases e; rfl, rfl⟩⟩
    · have hcells : ∀ j u, xs[j]? = some u → w.cell? ((⟨g, 0, none⟩ : Addr).add j) = some u := by
        intro j u hu
        rw [← htk] at hu
        have hu2 : cur[j]? = some u := by
          rw [List.getElem?_take] at hu
          split at hu
          · simpa using hu
          · cases hu
        by_cases e0 : j = 0
        · subst e0; simp [World.cell?, Addr.add, hh, hu2]
        · simp [World.cell?, Addr.add, hh, hu2, e0]
      obtain ⟨v', w', hr, h2, h3⟩ := run_append_arg_grows (P := P) w t ty e i z size bytes ht hi hz hsize hby hzs hsz ⟨g, 0, none⟩ n cap xs hx hcells a m c news hl hnews (by omega) h63 hbytes
      exact ⟨v', w', hr, row_base h2 (Nat.zero_le _), ⟨h3.os, h3.tape, h3.output, h3.size, fun k hk _ => h3.block k hk (by simp)⟩, fun a n c e => .inr (new_of_row h2 e)⟩
theorem wpList_append_role {P : Program} (w : World) {ops : Array Oper} {rest : List Oper} {o : Oper} {a : Act} {Q : Exit → Act → World → Prop}
    (hg : o.guard = none) (s x : Operand) (t : TypeId) (hop : o.op = Op.call { callee := Callee.builtin Builtin.append, args := #[s, x], argTypes := #[t, t] })
    (e : TypeId) (i : TypeInfo) (z : Value) (size bytes : Nat) (ht : P.underlying t = some (.slice e)) (hi : P.info? e = some i) (hz : i.zero = some z)
    (hsize : i.size = size) (hby : i.bytes = bytes) (hzs : z.cells.size = size) (hsz : 0 < size)
    (v : Value) (n : Nat) (xs : List Value) (hs : a.eval s = v) (hown : w.ownsRow 0 e size v n xs)
    (ad : Addr) (m c : Nat) (news : List Value) (hx : a.eval x = .slice (some ad) m c) (hl : news.length = m * size) (hnews : ∀ j u, news[j]? = some u → w.cell? (ad.add j) = some u) (h1 : ∀ u ∈ news, u.oneCell' = true)
    (h63 : n + m ≤ maxLen) (hbytes : (n + m) * bytes ≤ 140737488355328)
    (hK : ∀ v' w', w'.ownsRow 0 e size v' (n + m) (xs ++ news) → w.grownBy w' v.ownBlock → SameOrNew v v' w.heap.size → wpList P ops Q rest (a.put o.dst v') w') :
    wpList P ops Q (o :: rest) a w := by
  refine wpList_plain hg fun K hK' => ?_
  obtain ⟨v', w', hrun, r1, r2, r3⟩ := run_append_role (P := P) w t o.type e i z size bytes ht hi hz hsize hby hzs hsz v n xs hown ad m c news hl hnews h1 h63 hbytes
  unfold Oper.wp
  simp [execOp, hop, resolve, invoke, builtin, hs, hx, hrun, Result.andThen]
  exact hK' _ _ (hK v' w' r1 r2 r3)
theorem infoOf {P : Program} {e : TypeId} {z : Value} {s b : Nat} (h : (P.info? e).map (fun i => (i.zero, i.size, i.bytes)) = some (some z, s, b)) : ∃ i, P.info? e = some i ∧ i.zero = some z ∧ i.size = s ∧ i.bytes = b := by
  cases h1 : P.info? e with
  | none => rw [h1] at h; cases h
  | some i => rw [h1] at h; simp at h; exact ⟨i, rfl, h.1, h.2.1, h.2.2⟩
theorem info_u8 : (Tryd.prog.info? 5).map (fun i => (i.zero, i.size, i.bytes)) = some (some (.int .u8 0), 1, 1) := by kernel_rfl
theorem bV_one (l : List UInt8) : ∀ u ∈ l.map bV, u.oneCell' = true := by
  intro u hu
  obtain ⟨c, _, rfl⟩ := List.mem_map.1 hu
  rfl
def Src (w : World) (v : Value) (xs : List Value) : Prop :=
  (∃ ao cap, v = .slice ao 0 cap ∧ xs = [] ∧ (ao = none → cap = 0) ∧ (cap : Int) ≤ 9223372036854775807) ∨ ∃ b off cap, v = .slice (some ⟨b, off, none⟩) xs.length cap ∧ xs.length ≤ cap ∧ (cap : Int) ≤ 9223372036854775807 ∧ b < w.heap.size ∧ ∀ j u, xs[j]? = some u → w.cell? ⟨b, off + j, none⟩ = some u
theorem Src.of_row {w : World} {base : Nat} {e : TypeId} {n : Nat} {v : Value} {xs : List Value} (h : w.ownsRow base e 1 v n xs) : Src w v xs := by
  obtain ⟨h1, h2 | ⟨g', cap', cur', hv', _, hh, hn', hc', hcs', htk⟩⟩ := id h
  · refine .inl ⟨none, 0, h2.1, ?_, fun _ => rfl, by decide⟩
    rw [h2.2] at h1; simpa using h1
  · refine .inr ⟨g', 0, cap', ?_, by omega, by unfold maxLen at hc'; omega, lt_of_heap hh, ?_⟩
    · rw [hv', h1]; simp
    · intro j u hu
      obtain ⟨hj, he⟩ := List.getElem?_eq_some_iff.1 hu
      rw [← he]
      exact (row_cell h hv' hj).1
theorem Src.keep {w w' : World} {v : Value} {xs : List Value} (h : Src w v xs) (hs : w.heap.size ≤ w'.heap.size) (hb : xs ≠ [] → ∀ a n c, v = .slice (some a) n c → w'.heap[a.block]? = w.heap[a.block]?) : Src w' v xs := by
  rcases h with h | ⟨b, off, cap, hv, h1, h2, h3, h4⟩
  · exact .inl h
  · exact .inr ⟨b, off, cap, hv, h1, h2, Nat.lt_of_lt_of_le h3 hs, fun j u hu => (World.cell?_of_block (w := w) (a := ⟨b, off + j, none⟩) (hb (by rintro rfl; simp at hu) ⟨b, off, none⟩ _ _ hv)).trans (h4 j u hu)⟩
theorem Src.below {w w' : World} {v : Value} {xs : List Value} (h : Src w v xs) (hb : RowKit.Below w.heap.size w w') : Src w' v xs := by
  refine h.keep hb.size fun hne a n c e => ?_
  rcases h with ⟨_, _, _, h, _⟩ | ⟨b, off, cap, hv, h1, h2, h3, h4⟩
  · exact absurd h hne
  · rw [hv] at e; cases e; exact hb.block _ h3
theorem Src.len {w : World} {v : Value} {xs : List Value} (h : Src w v xs) : ∃ ao cap, v = .slice ao xs.length cap := by
  rcases h with ⟨ao, cap, h, h2, _⟩ | ⟨b, off, cap, hv, _⟩
  · rw [h2]; exact ⟨_, _, h⟩
  · exact ⟨_, _, hv⟩
theorem Src.nil (w : World) : Src w (.slice none 0 0) [] := .inl ⟨none, 0, rfl, rfl, fun _ => rfl, by decide⟩
def DrewTrue (w : World) (e : Ending) (w' : World) : Prop := e = .returned (.bool true) ∧ ∃ n, w' = w.drewN n
theorem drewN_drewN (w : World) (a b : Nat) : (w.drewN a).drewN b = w.drewN (a + b) := by
  unfold World.drewN; simp; omega
theorem drewN_below (w : World) (n : Nat) : RowKit.Below w.heap.size w (w.drewN n) := ⟨rfl, rfl, rfl, Nat.le_refl _, fun _ _ => rfl⟩
theorem slice_nil_eql {P : Program} (w : World) {t e : TypeId} (h : P.underlying t = some (.slice e)) (a : Option Addr) (n c : Nat) : (binOp .eql t (.slice a n c) (.slice none 0 0)).run P w = .ok (.bool a.isNone) w := by
  have h1 : ∀ d : Nat, (Op.equalIn (d + 1) t (.slice a n c) (.slice none 0 0)).run P w = .ok a.isNone w := fun d => by
    cases a <;> simp [Op.equalIn, run_underlying h]
  simp only [binOp]
  simp [Op.equal, Op.maxDepth, h1 9999]
theorem cell_lt {w : World} {a : Addr} {v : Value} (h : w.cell? a = some v) : a.block < w.heap.size := by
  unfold World.cell? at h
  cases e : w.heap[a.block]? with
  | none => rw [e] at h; cases h
  | some o => exact lt_of_heap e
theorem own_empty (w : World) (e : TypeId) : (w.alloc (.cells #[] e)).ownsRow w.heap.size e 1 (.slice (some ⟨w.heap.size, 0, none⟩) 0 0) 0 [] :=
  ⟨rfl, .inr ⟨w.heap.size, 0, #[], rfl, Nat.le_refl _, heap_new _ _, Nat.le_refl _, Nat.zero_le _, rfl, rfl⟩⟩
theorem len_one (bs : List UInt8) : (bs.map bV).length = bs.length * 1 := by simp
theorem setCell_same {w : World} {b i : Nat} {c : Array Value} {e : TypeId} {v : Value} (h : w.heap[b]? = some (.cells c e (0, 0))) (hv : c[i]? = some v) : w.setCell ⟨b, i, none⟩ v = w := by
  have hb := lt_of_heap h
  have e1 : (w.setCell ⟨b, i, none⟩ v).heap = w.heap := by
    apply Array.ext_getElem?
    intro k
    by_cases e : k = b
    · subst e
      rw [heap_set h, h]
      congr 2
      apply Array.ext_getElem?
      intro j
      by_cases e2 : i = j
      · subst e2; rw [hv]; obtain ⟨h1, _⟩ := Array.getElem?_eq_some_iff.1 hv; simp [h1]
      · simp [e2]
    · rw [Below.heap_setCell _ _ _ _ e]
  have e2 : w.setCell ⟨b, i, none⟩ v = { w with heap := (w.setCell ⟨b, i, none⟩ v).heap } := rfl
  rw [e2, e1]
def BW (w W : World) : Prop := RowKit.Below w.heap.size w W
theorem BW.refl (w : World) : BW w w := RowKit.Below.refl _ _
theorem BW.alloc {w W : World} (h : BW w W) (o : Obj) : BW w (W.alloc o) := RowKit.Below.alloc h (RowKit.Below.size h) o
theorem BW.trans {w W W' : World} (h : BW w W) (h' : BW W W') : BW w W' := RowKit.Below.trans h (RowKit.Below.mono h' (RowKit.Below.size h))
theorem bw_alloc (W : World) (o : Obj) : BW W (W.alloc o) := (BW.refl W).alloc o
theorem bw_drew {w w' : World} (h : BW w w') (n : Nat) : BW w (w'.drewN n) := ⟨h.os, h.tape, h.output, h.size, h.block⟩
theorem Src.drew {w : World} {v : Value} {xs : List Value} (h : Src w v xs) (n : Nat) : Src (w.drewN n) v xs := h.below (bw_drew (BW.refl w) n)
theorem src_new (w : World) (xs : Array Value) (t : TypeId) (n : Nat) (hn : xs.size = n) (hs : (n : Int) ≤ 9223372036854775807) : Src (w.alloc (.cells xs t)) (.slice (some ⟨w.heap.size, 0, none⟩) n n) xs.toList := by
  refine .inr ⟨w.heap.size, 0, n, by simp [hn], by simp [hn], hs, by simp, fun j u hu => ?_⟩
  refine cell_of (heap_new w _) ?_
  rw [Nat.zero_add, ← Array.getElem?_toList]; exact hu
theorem row_base' {w : World} {base : Nat} {e : TypeId} {n : Nat} {v : Value} {xs : List Value} (h : w.ownsRow base e 1 v n xs) : ∀ a k c, v = .slice (some a) k c → base ≤ a.block := by
  intro a k c hv
  obtain ⟨_, h2 | ⟨g, cap, cur, hv', hb, _⟩⟩ := h
  · rw [h2.1] at hv; cases hv
  · rw [hv'] at hv; cases hv; exact hb
theorem Src.at {w : World} {v : Value} {xs : List Value} (h : Src w v xs) {k : Nat} {u : Value} (hk : xs[k]? = some u) : ∃ b off c, v = .slice (some ⟨b, off, none⟩) xs.length c ∧ w.cell? ⟨b, off + k, none⟩ = some u := by
  rcases h with ⟨_, _, _, e2, _⟩ | ⟨b, off, c, hv, _, _, _, h4⟩
  · rw [e2] at hk; simp at hk
  · exact ⟨b, off, c, hv, h4 k u hk⟩
theorem addOff (b o k : Nat) : (⟨b, o, none⟩ : Addr).add k = ⟨b, o + k, none⟩ := by unfold Addr.add; by_cases e : k = 0 <;> simp [e]

end Go.Proofs.YtghghekdheeknaaDoor
