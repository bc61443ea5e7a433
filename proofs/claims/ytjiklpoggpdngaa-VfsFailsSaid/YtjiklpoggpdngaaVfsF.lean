/- A file's own turn; Sync. -/
import Derived.Test.YtjiklpoggpdngaaVfsE
import Derived.BigQuiet
import Derived.Deep.QuietTactic
import Derived.RegionTactic
import Derived.ChangeAlike
namespace Go.Proofs.Ytjiklpoggpdngaa
open Go.RowKit Go.Maps

def upd {α : Type} (fs : Nat → α) (f : Nat) (v : α) : Nat → α := fun x => if x = f then v else fs x
theorem upd_same {α : Type} (fs : Nat → α) (f : Nat) (v : α) : upd fs f v f = v := by simp [upd]
theorem upd_other {α : Type} (fs : Nat → α) {f x : Nat} (v : α) (h : x ≠ f) : upd fs f v x = fs x := by simp [upd, h]

/-- one file alone has turned (its block, its row; its row may be a new one) -/
theorem Rep.fileTurn {w w' : World} {d : Nat} {g : Gh} {S : DS} (h : Rep w d g S) {f : Nat} (hf : g.role f = .file) (role' : Nat → Role) (fv : Value) (v : List UInt8 × Nat) (hsz : w.heap.size ≤ w'.heap.size)
    (hrole : ∀ b, g.role b ≠ .no → role' b = g.role b) (hnew : ∀ b, g.role b = .no → role' b ≠ .no → role' b = .row f ∧ b < w'.heap.size)
    (hother : ∀ b, g.role b ≠ .no → b ≠ f → g.role b ≠ .row f → w'.heap[b]? = w.heap[b]?)
    (hfile : FileRep w' { g with role := role', fv := upd g.fv f fv } { S with fs := upd S.fs f v } f) :
    Rep w' d { g with role := role', fv := upd g.fv f fv } { S with fs := upd S.fs f v } := by
  have kp : ∀ {b : Nat} {r : Role}, g.role b = r → r ≠ .no → r ≠ .file → r ≠ .row f → w'.heap[b]? = w.heap[b]? := by
    intro b r e n1 n2 n3
    exact hother b (by rw [e]; exact n1) (by rintro rfl; rw [hf] at e; exact n2 e.symm) (by rw [e]; exact n3)
  have rl : ∀ {b : Nat} {r : Role}, g.role b = r → r ≠ .no → role' b = r := by
    intro b r e n1
    rw [hrole b (by rw [e]; exact n1)]; exact e
  refine ⟨?_, rl h.rd (by simp), isdir_keep h.now (kp h.rn (by simp) (by simp) (by simp)), isdir_keep h.dur (kp h.rb (by simp) (by simp) (by simp)), rl h.rn (by simp), rl h.rb (by simp), h.nd,
    row_keep h.chs fun a n c e => kp (h.rc a n c e) (by simp) (by simp) (by simp), fun a n c e => rl (h.rc a n c e) (by simp), ⟨h.cl.1, fun i h1 h2 => (h.cl.2 i h1 h2).keep fun b e => ⟨kp e (by simp) (by simp) (by simp), rl e (by simp)⟩⟩, ?_,
    fun p hp => rl (h.fnow p hp) (by simp), fun p hp => rl (h.fdur p hp) (by simp), fun c hc x hx => rl (h.fchg c hc x hx) (by simp), ?_, h.bnow, h.bdur, h.bleft, h.bfl, h.bfp⟩
  · rw [kp h.rd (by simp) (by simp) (by simp)]; exact h.dir
  · intro x hx
    by_cases e : x = f
    · subst e; exact hfile
    · have hx0 : g.role x = .file := by
        by_cases e0 : g.role x = .no
        · have := (hnew x e0 (by rw [show role' x = .file from hx]; simp)).1
          rw [show role' x = .file from hx] at this; cases this
        · rw [← hrole x e0]; exact hx
      refine (h.fl x hx0).keep (hother x (by rw [hx0]; simp) e (by rw [hx0]; simp)) ?_ (upd_other _ _ e) (upd_other _ _ e)
      intro b hb
      refine ⟨hother b (by rw [hb]; simp) (by rintro rfl; rw [hf] at hb; cases hb) (by rw [hb]; intro e2; injection e2 with e2; exact e e2), rl hb (by simp)⟩
  · intro b hb
    by_cases e0 : g.role b = .no
    · exact (hnew b e0 hb).2
    · exact Nat.lt_of_lt_of_le (h.lt b e0) hsz

theorem Step.of {w w' : World} {d : Nat} {g : Gh} {S' : DS} (h : Rep w' d g S') (m : Moves (Own g) w w') : Step w w' d g S' := ⟨g, h, fun _ _ => rfl, m⟩
theorem Step.after {w w1 w' : World} {d : Nat} {g : Gh} {S' : DS} (h : Step w1 w' d g S') (m : Moves (Own g) w w1) : Step w w' d g S' := by
  obtain ⟨g', h1, h2, h3⟩ := h
  exact ⟨g', h1, fun b hb => h2 b (Nat.lt_of_lt_of_le hb m.size), m.trans h3 (fun _ _ e => e)⟩

def MPost (w : World) (d : Nat) (g : Gh) (r : Int) (S' : DS) (e : Ending) (w' : World) : Prop := e = .returned (.int .i64 r) ∧ Step w w' d g S'

theorem names_one {W : World} {b : Nat} {s : ByteArray} (h : W.heap[b]? = some (.cells #[.string s] 9 (0, 0))) (hs : s.size ≤ maxLen) :
    Calls Try.prog 87 #[.slice (some ⟨b, 0, none⟩) 1 1] W fun e w' => e = .returned (.bool (goodNm s.data.toList)) ∧ W = w' := by
  have := areNames_any b 0 1 [s] W (by unfold maxLen; simp) (by intro x hx; simp at hx; subst hx; exact hs) (by
    intro k hk
    have : k = 0 := by simp at hk; omega
    subst this
    exact cell_of h rfl)
  simpa [allGood] using this

theorem names_two {W : World} {b : Nat} {s t : ByteArray} (h : W.heap[b]? = some (.cells #[.string s, .string t] 9 (0, 0))) (hs : s.size ≤ maxLen) (ht : t.size ≤ maxLen) :
    Calls Try.prog 87 #[.slice (some ⟨b, 0, none⟩) 2 2] W fun e w' => e = .returned (.bool (goodNm s.data.toList && goodNm t.data.toList)) ∧ W = w' := by
  have := areNames_any b 0 2 [s, t] W (by unfold maxLen; simp) (by intro x hx; simp at hx; rcases hx with rfl | rfl <;> assumption) (by
    intro k hk
    have hk' : k = 0 ∨ k = 1 := by simp at hk; omega
    rcases hk' with rfl | rfl
    · exact cell_of h rfl
    · exact cell_of h rfl)
  simpa [allGood] using this

theorem Rep.alloc {w : World} {d : Nat} {g : Gh} {S : DS} (h : Rep w d g S) (o : Obj) : Rep (w.alloc o) d g S :=
  h.frame (by simp) fun b hb => Below.heap_alloc _ _ _ (h.lt b hb)
theorem heap_new (w : World) (o : Obj) : (w.alloc o).heap[w.heap.size]? = some o := (MapKept.heap_alloc w _).1

def opSync (S : DS) (n : Nm) : Int × DS :=
  if (begR S (goodNm n)).1 ≠ 0 then ((begR S (goodNm n)).1, begS S) else
  match aget S.now n with
  | none => (10, begS S)
  | some f => (0, { begS S with fs := upd S.fs f ((S.fs f).1, (S.fs f).1.length) })

theorem row_len {w : World} {base : Nat} {e : TypeId} {n : Nat} {v : Value} {xs : List Value} (h : w.ownsRow base e 1 v n xs) {ao : Option Addr} {k c : Nat} (hv : v = .slice ao k c) : k = n := by
  obtain ⟨_, h2 | ⟨g, cap, cur, hv', _⟩⟩ := h
  · rw [h2.1] at hv; cases hv; exact h2.2.symm
  · rw [hv'] at hv; cases hv; rfl

/-- what a name's file holds -/
structure Known (w : World) (g : Gh) (S : DS) (f : Nat) : Prop where
  role : g.role f = .file
  rep : FileRep w g S f

theorem Rep.known {w : World} {d : Nat} {g : Gh} {S : DS} (h : Rep w d g S) {n : Nm} {f : Nat} (hg : aget S.now n = some f) : Known w g S f := by
  have := h.fnow _ (aget_mem hg)
  exact ⟨this, h.fl f this⟩

theorem sync_world {w : World} {d : Nat} {g : Gh} {S : DS} (h : Rep w d g S) {f : Nat} (k : Known w g S f) :
    Step w (w.setCell ⟨f, 1, none⟩ (.int .i64 ((S.fs f).1.length : Int))) d g { S with fs := upd S.fs f ((S.fs f).1, (S.fs f).1.length) } := by
  have hb := heap_set (i := 1) k.rep.blk (.int .i64 ((S.fs f).1.length : Int))
  have hr : ∀ b, g.role b ≠ .no → b ≠ f → (w.setCell ⟨f, 1, none⟩ (.int .i64 ((S.fs f).1.length : Int))).heap[b]? = w.heap[b]? := fun b _ hb => Below.heap_setCell _ _ _ _ hb
  have hrep := h.fileTurn (w' := w.setCell ⟨f, 1, none⟩ (.int .i64 ((S.fs f).1.length : Int))) k.role g.role (g.fv f) ((S.fs f).1, (S.fs f).1.length) (by simp [World.setCell]) (fun _ _ => rfl) (fun b e1 e2 => absurd e1 e2) (fun b h1 h2 _ => hr b h1 h2) (by
    refine ⟨?_, ?_, ?_, ?_, ?_⟩
    · simp only [upd_same]; exact hb
    · simp only [upd_same]
      refine row_keep k.rep.row fun a n c e => Below.heap_setCell _ _ _ _ ?_
      have h1 := k.rep.rol a n c e
      intro e2; rw [show a.block = f from e2, k.role] at h1; cases h1
    · intro a n c e
      simp only [upd_same] at e
      exact k.rep.rol a n c e
    · simp only [upd_same]; exact Nat.le_refl _
    · simp only [upd_same]; exact k.rep.len)
  have hfv : ∀ x, upd g.fv f (g.fv f) x = g.fv x := by intro x; unfold upd; split <;> simp_all
  refine ⟨_, hrep, fun _ _ => rfl, (Moves.refl _ w).setCell (fun _ => ?_) _⟩
  unfold Own; show g.role f ≠ _; rw [k.role]; simp

set_option maxHeartbeats 1000000 in
set_option maxRecDepth 100000 in
theorem sync_any {w : World} {d : Nat} {g : Gh} {S : DS} (h : Rep w d g S) (hc : Sm S) (s : ByteArray) (hs : s.size ≤ maxLen) :
    Calls Try.prog 36 #[ptr d, .string s] w (MPost w d g (opSync S s.data.toList).1 (opSync S s.data.toList).2) := by
  have HH := Lib.hid h
  have HS := Lib.hid hs
  have hdl := lt_of_heap h.dir
  have HDL := Lib.hid hdl
  have hbeg : Calls Try.prog 66 #[ptr d, .slice (some ⟨w.heap.size, 0, none⟩) 1 1] (w.alloc (.cells #[.string s] 9)) (BegPost (w.alloc (.cells #[.string s] 9)) d g S (goodNm s.data.toList)) :=
    begin_any (h.alloc _) (by have := hc.1; omega) _ _ (fun W hW => names_one (by rw [hW _ (by omega)]; exact heap_new _ _) hs)
  have HB := Lib.hid hbeg
  have HM : Hid (Moves (Own g) w (w.alloc (.cells #[.string s] 9))) := (Moves.refl _ w).alloc _
  obtain ⟨r, Hr⟩ : ∃ r, Hid (begR S (goodNm s.data.toList) = r) := ⟨_, rfl⟩
  clear h hs hbeg hdl hc
  unfold ptr
  by_cases h0 : r.1 = 0
  · have e0 : (r.1 != 0) = false := by simp [h0]
    have H0 := Lib.hid h0
    clear h0
    cases hg : aget S.now s.data.toList with
    | none =>
      have HO : Hid (opSync S s.data.toList = (10, begS S)) := by unfold Hid opSync; rw [Hr.out, if_neg (by simp [H0.out]), hg]
      have HG := Lib.hid hg
      clear hg
      go_enter Try.func36, Try.ntmps36
      go_wp2_with fail
      refine HB.out.mono ?_
      unfold BegPost
      rw [Hr.out]
      rintro e w2 ⟨rfl, hr2, hsz2, ho2, hm2⟩
      have c20 : w2.cell? ⟨d, 0, none⟩ = some (.map (some g.nb)) := cell_of hr2.dir rfl
      have hl2 := look_run hr2.now HS.out
      have hg' : aget (begS S).now s.data.toList = none := HG.out
      rw [hg'] at hl2
      have HR2 := Lib.hid hr2
      have HM2 := Lib.hid hm2
      clear hr2 hsz2 ho2 hm2 hg'
      unfold fileV at hl2
      go_wp2
      go_ret
      exact ⟨by rw [HO.out]; rfl, by rw [HO.out]; exact Step.of HR2.out (HM.out.trans HM2.out (fun _ _ e => e))⟩
    | some f =>
      have HO : Hid (opSync S s.data.toList = (0, { begS S with fs := upd S.fs f ((S.fs f).1, (S.fs f).1.length) })) := by unfold Hid opSync; rw [Hr.out, if_neg (by simp [H0.out]), hg]
      have HG := Lib.hid hg
      clear hg
      go_enter Try.func36, Try.ntmps36
      go_wp2_with fail
      refine HB.out.mono ?_
      unfold BegPost
      rw [Hr.out]
      rintro e w2 ⟨rfl, hr2, hsz2, ho2, hm2⟩
      have c20 : w2.cell? ⟨d, 0, none⟩ = some (.map (some g.nb)) := cell_of hr2.dir rfl
      have hl2 := look_run hr2.now HS.out
      have hg' : aget (begS S).now s.data.toList = some f := HG.out
      rw [hg'] at hl2
      have hk := hr2.known hg'
      obtain ⟨ao, nn, cc, hfv⟩ := row_form hk.rep.row
      have hlen : nn = (S.fs f).1.length := row_len hk.rep.row hfv
      subst hlen
      have cf0 : w2.cell? ⟨f, 0, none⟩ = some (.slice ao (S.fs f).1.length cc) := (cell_of hk.rep.blk rfl).trans (congrArg some hfv)
      have cf1 : w2.cell? ⟨f, 1, none⟩ = some (.int .i64 ((S.fs f).2 : Int)) := cell_of hk.rep.blk rfl
      have ff1 : w2.frozen? ⟨f, 1, none⟩ = false := unfrozen_of hk.rep.blk
      have HST := Lib.hid (sync_world hr2 hk)
      have HM2 := Lib.hid hm2
      clear hr2 hsz2 ho2 hm2 hg' hk hfv
      unfold fileV ptr at hl2
      go_wp2
      go_ret
      exact ⟨by rw [HO.out]; rfl, by rw [HO.out]; exact HST.out.after (HM.out.trans HM2.out (fun _ _ e => e))⟩
  · have e0 : (r.1 != 0) = true := by simp [h0]
    have HO : Hid (opSync S s.data.toList = (r.1, begS S)) := by unfold Hid opSync; rw [Hr.out, if_pos h0]
    clear h0
    go_enter Try.func36, Try.ntmps36
    go_wp2_with fail
    refine HB.out.mono ?_
    unfold BegPost
    rw [Hr.out]
    rintro e w2 ⟨rfl, hr2, hsz2, ho2, hm2⟩
    have HR2 := Lib.hid hr2
    have HM2 := Lib.hid hm2
    clear hr2 hsz2 ho2 hm2
    go_wp2
    go_ret
    exact ⟨by rw [HO.out]; rfl, by rw [HO.out]; exact Step.of HR2.out (HM.out.trans HM2.out (fun _ _ e => e))⟩

end Go.Proofs.Ytjiklpoggpdngaa
