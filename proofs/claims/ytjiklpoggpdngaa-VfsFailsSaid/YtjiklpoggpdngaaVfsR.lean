/- How a directory lies in memory: what its blocks hold, by a role for each block that it owns. -/
import Derived.Test.YtjiklpoggpdngaaVfsB
import Derived.WalkSpells
import Derived.WalkLawsBesides
import Derived.Lib.Hide
namespace Go.Proofs.Ytjiklpoggpdngaa
open Go.RowKit Go.Maps

inductive Role where
  | no
  | dir
  | map
  | chs
  | box
  | file
  | row (f : Nat)

structure DS where
  now : AM
  dur : AM
  chg : List Ch
  calls : Nat
  bd : Nat
  asked : Bool
  left : Nat
  fl : Nat
  fe : Int
  fp : Int
  fs : Nat → List UInt8 × Nat

structure Gh where
  role : Nat → Role
  nb : Nat
  db : Nat
  cv : Value
  cls : List Value
  fv : Nat → Value

def bV (c : UInt8) : Value := .int .u8 (c.toNat : Int)
def ptr (b : Nat) : Value := .pointer (some ⟨b, 0, none⟩)
def one (w : World) (b : Nat) (v : Value) (t : TypeId) : Prop := w.heap[b]? = some (.cells #[v] t (0, 0))

def ChRep (w : World) (role : Nat → Role) (v : Value) : Ch → Prop
  | .put n f => ∃ a b s, v = .func (.func 68) #[] #[ptr a, ptr b] ∧ role a = .box ∧ role b = .box ∧ one w a (ptr f) 82 ∧ one w b (.string s) 9 ∧ s.data.toList = n ∧ s.size ≤ maxLen
  | .ren m n f => ∃ a b c s t, v = .func (.func 69) #[] #[ptr a, ptr b, ptr c] ∧ role a = .box ∧ role b = .box ∧ role c = .box ∧ one w a (.string s) 9 ∧ one w b (ptr f) 82 ∧ one w c (.string t) 9 ∧
      s.data.toList = m ∧ t.data.toList = n ∧ s.size ≤ maxLen ∧ t.size ≤ maxLen
  | .del n => ∃ a s, v = .func (.func 72) #[] #[ptr a] ∧ role a = .box ∧ one w a (.string s) 9 ∧ s.data.toList = n ∧ s.size ≤ maxLen

structure FileRep (w : World) (g : Gh) (S : DS) (f : Nat) : Prop where
  blk : w.heap[f]? = some (.cells #[g.fv f, .int .i64 ((S.fs f).2 : Int)] 85 (0, 0))
  row : w.ownsRow 0 5 1 (g.fv f) (S.fs f).1.length ((S.fs f).1.map bV)
  rol : ∀ a n c, g.fv f = .slice (some a) n c → g.role a.block = .row f
  syn : (S.fs f).2 ≤ (S.fs f).1.length
  len : (S.fs f).1.length ≤ 16777216

def dirCells (g : Gh) (S : DS) : Array Value :=
  #[.map (some g.nb), .map (some g.db), g.cv, .int .i64 (S.calls : Int), .bool S.asked, .int .i64 (S.left : Int), .int .i64 (S.fl : Int), .int .i64 S.fe, .int .i64 S.fp]

structure Rep (w : World) (d : Nat) (g : Gh) (S : DS) : Prop where
  dir : w.heap[d]? = some (.cells (dirCells g S) 75 (0, 0))
  rd : g.role d = .dir
  now : IsDir Try.prog w g.nb S.now
  dur : IsDir Try.prog w g.db S.dur
  rn : g.role g.nb = .map
  rb : g.role g.db = .map
  nd : g.nb ≠ g.db
  chs : w.ownsRow 0 112 1 g.cv S.chg.length g.cls
  rc : ∀ a n c, g.cv = .slice (some a) n c → g.role a.block = .chs
  cl : g.cls.length = S.chg.length ∧ ∀ i (h : i < g.cls.length) (h' : i < S.chg.length), ChRep w g.role g.cls[i] S.chg[i]
  fl : ∀ f, g.role f = .file → FileRep w g S f
  fnow : ∀ p ∈ S.now, g.role p.2 = .file
  fdur : ∀ p ∈ S.dur, g.role p.2 = .file
  fchg : ∀ c ∈ S.chg, ∀ f ∈ filesOf c, g.role f = .file
  lt : ∀ b, g.role b ≠ .no → b < w.heap.size
  bnow : S.now.length ≤ S.bd
  bdur : S.dur.length + S.chg.length ≤ S.bd
  bleft : (S.left : Int) ≤ 9223372036854775807
  bfl : (S.fl : Int) ≤ 9223372036854775807
  bfp : -9223372036854775808 ≤ S.fp ∧ S.fp ≤ 9223372036854775807

/-- the world moves within F alone -/
structure Moves (F : Nat → Prop) (w w' : World) : Prop where
  os : w'.os = w.os
  tape : w'.tape = w.tape
  output : w'.output = w.output
  size : w.heap.size ≤ w'.heap.size
  block : ∀ k, k < w.heap.size → ¬ F k → w'.heap[k]? = w.heap[k]?

theorem Moves.refl (F : Nat → Prop) (w : World) : Moves F w w := ⟨rfl, rfl, rfl, Nat.le_refl _, fun _ _ _ => rfl⟩
theorem Moves.mono {F G : Nat → Prop} {w w' : World} (h : Moves F w w') (hs : ∀ k, k < w.heap.size → F k → G k) : Moves G w w' :=
  ⟨h.os, h.tape, h.output, h.size, fun k hk hn => h.block k hk (fun hf => hn (hs k hk hf))⟩
/-- .. what is moved later may be new -/
theorem Moves.trans {F G : Nat → Prop} {a b c : World} (h : Moves F a b) (k : Moves G b c) (hs : ∀ i, i < a.heap.size → G i → F i) : Moves F a c :=
  ⟨k.os.trans h.os, k.tape.trans h.tape, k.output.trans h.output, Nat.le_trans h.size k.size, fun i hi hn => (k.block i (Nat.lt_of_lt_of_le hi h.size) (fun hg => hn (hs i hi hg))).trans (h.block i hi hn)⟩
theorem Moves.alloc {F : Nat → Prop} {a w : World} (h : Moves F a w) (o : Obj) : Moves F a (w.alloc o) :=
  ⟨h.os, h.tape, h.output, Nat.le_trans h.size (by simp), fun k hk hn => (Below.heap_alloc _ _ _ (Nat.lt_of_lt_of_le hk h.size)).trans (h.block k hk hn)⟩
theorem Moves.setCell {F : Nat → Prop} {a w : World} (h : Moves F a w) {p : Addr} (hp : p.block < a.heap.size → F p.block) (u : Value) : Moves F a (w.setCell p u) :=
  ⟨h.os, h.tape, h.output, Nat.le_trans h.size (by simp [World.setCell]), fun k hk hn => (Below.heap_setCell _ _ _ _ (by intro e; subst e; exact hn (hp hk))).trans (h.block k hk hn)⟩
theorem Moves.drew {F : Nat → Prop} {a w : World} (h : Moves F a w) : Moves F a w.drew := ⟨h.os, h.tape, h.output, h.size, h.block⟩
theorem Moves.grown {F : Nat → Prop} {a w w' : World} {row : Option Nat} (h : Moves F a w) (hg : w.grownBy w' row) (hr : ∀ k, row = some k → k < a.heap.size → F k) : Moves F a w' :=
  h.trans (G := fun k => row = some k) ⟨hg.os, hg.tape, hg.output, hg.size, fun k hk hn => hg.block k hk (fun e => hn e.symm)⟩ (fun i hi e => hr i e hi)
theorem Moves.of_below {w w' : World} (h : Below w.heap.size w w') (F : Nat → Prop) : Moves F w w' := ⟨h.os, h.tape, h.output, h.size, fun k hk _ => h.block k hk⟩
theorem Moves.below {w w' : World} {F : Nat → Prop} {B : Nat} (h : Moves F w w') (hB : ∀ k, F k → B ≤ k) (hs : B ≤ w.heap.size) : Below B w w' :=
  ⟨h.os, h.tape, h.output, h.size, fun k hk => h.block k (Nat.lt_of_lt_of_le hk hs) (fun hf => by have := hB k hf; omega)⟩

/-- small enough for what is counted -/
def Sm (S : DS) : Prop := S.calls < 900000 ∧ S.bd < 900000

/-- what a directory owns -/
def Own (g : Gh) (b : Nat) : Prop := g.role b ≠ .no

theorem cell_of {w : World} {b i : Nat} {c : Array Value} {e : TypeId} {fr : Nat × Nat} {v : Value} (h : w.heap[b]? = some (.cells c e fr)) (hv : c[i]? = some v) : w.cell? ⟨b, i, none⟩ = some v := by
  simp [World.cell?, h, hv]
theorem unfrozen_of {w : World} {b i : Nat} {c : Array Value} {e : TypeId} (h : w.heap[b]? = some (.cells c e (0, 0))) : w.frozen? ⟨b, i, none⟩ = false := by
  simp [World.frozen?, h]
theorem heap_set {w : World} {b i : Nat} {c : Array Value} {e : TypeId} {fr : Nat × Nat} (h : w.heap[b]? = some (.cells c e fr)) (v : Value) : (w.setCell ⟨b, i, none⟩ v).heap[b]? = some (.cells (c.setIfInBounds i v) e fr) := by
  simp [World.setCell, Array.getElem?_modify, h]
theorem lt_of_heap {w : World} {b : Nat} {o : Obj} (h : w.heap[b]? = some o) : b < w.heap.size := (Array.getElem?_eq_some_iff.1 h).1

theorem row_keep {w w' : World} {base : Nat} {e : TypeId} {s : Nat} {v : Value} {n : Nat} {xs : List Value} (h : w.ownsRow base e s v n xs) (hb : ∀ a n c, v = .slice (some a) n c → w'.heap[a.block]? = w.heap[a.block]?) : w'.ownsRow base e s v n xs := by
  obtain ⟨h1, h2 | ⟨g, cap, cur, hv, hg, hh, r⟩⟩ := h
  · exact ⟨h1, .inl h2⟩
  · exact ⟨h1, .inr ⟨g, cap, cur, hv, hg, (hb _ _ _ hv).trans hh, r⟩⟩
theorem row_lt {w : World} {base : Nat} {e : TypeId} {s : Nat} {v : Value} {n : Nat} {xs : List Value} (h : w.ownsRow base e s v n xs) {a : Addr} {k c : Nat} (hv : v = .slice (some a) k c) : a.block < w.heap.size := by
  obtain ⟨h1, h2 | ⟨g, cap, cur, hv', hg, hh, r⟩⟩ := h
  · rw [h2.1] at hv; cases hv
  · rw [hv'] at hv; cases hv; exact lt_of_heap hh
theorem isdir_keep {P : Program} {w w' : World} {b : Nat} {l : AM} (h : IsDir P w b l) (hb : w'.heap[b]? = w.heap[b]?) : IsDir P w' b l := by
  obtain ⟨es, clock, hh, r⟩ := h
  exact ⟨es, clock, hb.trans hh, r⟩
theorem one_keep {w w' : World} {b : Nat} {v : Value} {t : TypeId} (h : one w b v t) (hb : w'.heap[b]? = w.heap[b]?) : one w' b v t := hb.trans h

theorem ChRep.keep {w w' : World} {role role' : Nat → Role} {v : Value} {c : Ch} (h : ChRep w role v c) (hb : ∀ b, role b = .box → w'.heap[b]? = w.heap[b]? ∧ role' b = .box) : ChRep w' role' v c := by
  cases c with
  | put n f =>
    obtain ⟨a, b, s, hv, ra, rb, oa, ob, r⟩ := h
    exact ⟨a, b, s, hv, (hb a ra).2, (hb b rb).2, one_keep oa (hb a ra).1, one_keep ob (hb b rb).1, r⟩
  | ren m n f =>
    obtain ⟨a, b, c, s, t, hv, ra, rb, rc, oa, ob, oc, r⟩ := h
    exact ⟨a, b, c, s, t, hv, (hb a ra).2, (hb b rb).2, (hb c rc).2, one_keep oa (hb a ra).1, one_keep ob (hb b rb).1, one_keep oc (hb c rc).1, r⟩
  | del n =>
    obtain ⟨a, s, hv, ra, oa, r⟩ := h
    exact ⟨a, s, hv, (hb a ra).2, one_keep oa (hb a ra).1, r⟩

theorem FileRep.keep {w w' : World} {g g' : Gh} {S S' : DS} {f : Nat} (h : FileRep w g S f) (hf : w'.heap[f]? = w.heap[f]?) (hr : ∀ b, g.role b = .row f → w'.heap[b]? = w.heap[b]? ∧ g'.role b = .row f) (hv : g'.fv f = g.fv f) (hs : S'.fs f = S.fs f) : FileRep w' g' S' f := by
  refine ⟨?_, ?_, ?_, ?_, ?_⟩
  · rw [hf, hv, hs]; exact h.blk
  · rw [hv, hs]; exact row_keep h.row (fun a n c e => (hr _ (h.rol a n c e)).1)
  · rw [hv]; exact fun a n c e => (hr _ (h.rol a n c e)).2
  · rw [hs]; exact h.syn
  · rw [hs]; exact h.len

/-- ONE LEMMA FOR ALL TURNS THAT LEAVE FILES AND BOXES: the directory's own cells, its maps and changes may be others; roles may be more. -/
theorem Rep.turn {w w' : World} {d : Nat} {g g' : Gh} {S S' : DS} (h : Rep w d g S) (hsz : w.heap.size ≤ w'.heap.size)
    (hrole : ∀ b, g.role b ≠ .no → g'.role b = g.role b) (hbox : ∀ b, g.role b = .box → w'.heap[b]? = w.heap[b]?)
    (hfile : ∀ f, g.role f = .file → w'.heap[f]? = w.heap[f]? ∧ (∀ b, g.role b = .row f → w'.heap[b]? = w.heap[b]?) ∧ g'.fv f = g.fv f ∧ S'.fs f = S.fs f)
    (hnew : ∀ b, g.role b = .no → g'.role b ≠ .no → b < w'.heap.size ∧ (g'.role b = .file → FileRep w' g' S' b))
    (dir : w'.heap[d]? = some (.cells (dirCells g' S') 75 (0, 0)))
    (now : IsDir Try.prog w' g'.nb S'.now) (dur : IsDir Try.prog w' g'.db S'.dur) (rn : g'.role g'.nb = .map) (rb : g'.role g'.db = .map) (nd : g'.nb ≠ g'.db)
    (chs : w'.ownsRow 0 112 1 g'.cv S'.chg.length g'.cls) (rc : ∀ a n c, g'.cv = .slice (some a) n c → g'.role a.block = .chs)
    (cl : g'.cls.length = S'.chg.length ∧ ∀ i (h : i < g'.cls.length) (h' : i < S'.chg.length), ChRep w' g'.role g'.cls[i] S'.chg[i])
    (fnow : ∀ p ∈ S'.now, g'.role p.2 = .file) (fdur : ∀ p ∈ S'.dur, g'.role p.2 = .file) (fchg : ∀ c ∈ S'.chg, ∀ f ∈ filesOf c, g'.role f = .file)
    (bnow : S'.now.length ≤ S'.bd) (bdur : S'.dur.length + S'.chg.length ≤ S'.bd)
    (bleft : (S'.left : Int) ≤ 9223372036854775807) (bfl : (S'.fl : Int) ≤ 9223372036854775807) (bfp : -9223372036854775808 ≤ S'.fp ∧ S'.fp ≤ 9223372036854775807) : Rep w' d g' S' := by
  refine ⟨dir, ?_, now, dur, rn, rb, nd, chs, rc, cl, ?_, fnow, fdur, fchg, ?_, bnow, bdur, bleft, bfl, bfp⟩
  · rw [hrole d (by rw [h.rd]; simp)]; exact h.rd
  · intro f hf
    by_cases e : g.role f = .no
    · exact (hnew f e (by rw [hf]; simp)).2 hf
    · have e2 := hrole f e
      rw [hf] at e2
      obtain ⟨h1, h2, h3, h4⟩ := hfile f e2.symm
      exact (h.fl f e2.symm).keep h1 (fun b hb => ⟨h2 b hb, by rw [hrole b (by rw [hb]; simp)]; exact hb⟩) h3 h4
  · intro b hb
    by_cases e : g.role b = .no
    · exact (hnew b e hb).1
    · exact Nat.lt_of_lt_of_le (h.lt b e) hsz

/-- nothing of what it owns has moved -/
theorem Rep.frame {w w' : World} {d : Nat} {g : Gh} {S : DS} (h : Rep w d g S) (hsz : w.heap.size ≤ w'.heap.size) (hb : ∀ b, g.role b ≠ .no → w'.heap[b]? = w.heap[b]?) : Rep w' d g S := by
  have hk : ∀ {b : Nat} {r : Role}, g.role b = r → r ≠ .no → w'.heap[b]? = w.heap[b]? := fun e ne => hb _ (by rw [e]; exact ne)
  refine h.turn hsz (fun _ _ => rfl) (fun b e => hk e (by simp)) (fun f e => ⟨hk e (by simp), fun b e => hk e (by simp), rfl, rfl⟩) (fun b e1 e2 => absurd e1 e2) ?_ (isdir_keep h.now (hk h.rn (by simp))) (isdir_keep h.dur (hk h.rb (by simp))) h.rn h.rb h.nd
    (row_keep h.chs fun a n c e => hk (h.rc a n c e) (by simp)) h.rc ⟨h.cl.1, fun i h1 h2 => (h.cl.2 i h1 h2).keep fun b e => ⟨hk e (by simp), e⟩⟩ h.fnow h.fdur h.fchg h.bnow h.bdur h.bleft h.bfl h.bfp
  rw [hk h.rd (by simp)]; exact h.dir

theorem Rep.moved {w w' : World} {d : Nat} {g : Gh} {S : DS} {F : Nat → Prop} (h : Rep w d g S) (hm : Moves F w w') (hF : ∀ b, g.role b ≠ .no → ¬ F b) : Rep w' d g S :=
  h.frame hm.size fun b hb => hm.block b (h.lt b hb) (hF b hb)

/-- the directory's own block alone has moved: its counts -/
theorem Rep.counts {w w' : World} {d : Nat} {g : Gh} {S : DS} (h : Rep w d g S) (S' : DS) (hsz : w.heap.size ≤ w'.heap.size) (hb : ∀ b, b ≠ d → g.role b ≠ .no → w'.heap[b]? = w.heap[b]?)
    (dir : w'.heap[d]? = some (.cells (dirCells g S') 75 (0, 0))) (e1 : S'.now = S.now) (e2 : S'.dur = S.dur) (e3 : S'.chg = S.chg) (e4 : S'.fs = S.fs) (hc : S.bd ≤ S'.bd)
    (bleft : (S'.left : Int) ≤ 9223372036854775807) (bfl : (S'.fl : Int) ≤ 9223372036854775807) (bfp : -9223372036854775808 ≤ S'.fp ∧ S'.fp ≤ 9223372036854775807) : Rep w' d g S' := by
  have hk : ∀ {b : Nat} {r : Role}, g.role b = r → r ≠ .no → r ≠ .dir → w'.heap[b]? = w.heap[b]? := fun {b r} e ne nd => hb _ (by rintro rfl; rw [h.rd] at e; exact nd e.symm) (by rw [e]; exact ne)
  refine h.turn hsz (fun _ _ => rfl) (fun b e => hk e (by simp) (by simp)) (fun f e => ⟨hk e (by simp) (by simp), fun b e => hk e (by simp) (by simp), rfl, by rw [e4]⟩) (fun b e1 e2 => absurd e1 e2) dir ?_ ?_ h.rn h.rb h.nd
    ?_ h.rc ?_ (by rw [e1]; exact h.fnow) (by rw [e2]; exact h.fdur) (by rw [e3]; exact h.fchg) (by rw [e1]; exact Nat.le_trans h.bnow hc) (by rw [e2, e3]; exact Nat.le_trans h.bdur hc) bleft bfl bfp
  · rw [e1]; exact isdir_keep h.now (hk h.rn (by simp) (by simp))
  · rw [e2]; exact isdir_keep h.dur (hk h.rb (by simp) (by simp))
  · rw [e3]; exact row_keep h.chs fun a n c e => hk (h.rc a n c e) (by simp) (by simp)
  · rw [e3]; exact ⟨h.cl.1, fun i h1 h2 => (h.cl.2 i h1 h2).keep fun b e => ⟨hk e (by simp) (by simp), e⟩⟩

end Go.Proofs.Ytjiklpoggpdngaa
