/- Stage 6, the program: the words that stand in place of a token's: rows of none or one, the filters that make them. -/
import Derived.Test.YtljjaepadnmmeaaDoorAnbF
import Derived.Test.YtljjaepadnmmeaaDoorFlpF
namespace Go.Proofs.YtljjaepadnmmeaaDoor
open Go.RowKit Go.Maps Fld Ana Go.Shelf
attribute [local go_sem] Oper.semAt_some

def encW (x : List UInt8) : Array Value := #[textV x]
/-- what a round over words keeps: all but tokens' rows, their variable, and the loop's own record -/
def KX (w0 : World) (x0 : Nat) (W W' : World) : Prop :=
  (∀ (b : Nat) (o : Obj), b ≠ x0 → W.heap[b]? = some o → (∀ c fz, o ≠ .cells c 43 fz) → (∀ c fz, o ≠ .cells c 24 fz) → (∀ c fz, o ≠ .cells c 25 fz) → W'.heap[b]? = some o) ∧ W.heap.size ≤ W'.heap.size ∧ (BW w0 W → BW w0 W')
theorem KX.trans {w0 : World} {x0 : Nat} {A B C : World} (h : KX w0 x0 A B) (k : KX w0 x0 B C) : KX w0 x0 A C :=
  ⟨fun b o hne hb h1 h2 h3 => k.1 b o hne (h.1 b o hne hb h1 h2 h3) h1 h2 h3, Nat.le_trans h.2.1 k.2.1, fun x => k.2.2 (h.2.2 x)⟩
theorem KX.books {w0 : World} {x0 : Nat} (hN : w0.heap.size ≤ x0) (W : World) (o o' : Obj) (h : W.heap[x0]? = some o) : KX w0 x0 W (W.putObj x0 o') :=
  ⟨fun b p hne hb _ _ _ => (World.putObj_heap_other hne).trans hb, by simp [World.putObj], fun hb => RowKit.Below.grown hb (grownBy_putObj' W x0 o') hb.size (fun k e => by cases e; exact hN)⟩
theorem KX.boxed {w0 : World} {x0 b t : Nat} {v : Value} {W W' : World} (h : KX w0 x0 W W') (hb : Boxed W b t v) (hne : b ≠ x0) (h1 : t ≠ 43) (h2 : t ≠ 24) (h3 : t ≠ 25) : Boxed W' b t v :=
  h.1 b _ hne hb (fun c fz e => by injection e with _ e2 _; exact h1 e2) (fun c fz e => by injection e with _ e2 _; exact h2 e2) (fun c fz e => by injection e with _ e2 _; exact h3 e2)
theorem KX.keeps {w0 : World} {x0 B : Nat} {W W' : World} (h : KX w0 x0 W W') (hB : x0 < B) : KeepsFrom B W W' :=
  ⟨h.2.1, fun b o hb hk ho => h.1 b o (by omega) hk (fun c fz e => by rw [e] at ho; cases ho) (fun c fz e => by rw [e] at ho; cases ho) (fun c fz e => by rw [e] at ho; cases ho)⟩
/-- an iterator that tells these words -/
def Tells (w0 X : World) (gi : Nat) (lbi : Array Value) (ws : List (List UInt8)) : Prop :=
  ∀ Y, BW X Y → IterAt Tryd.prog gi lbi encW (KX w0) (fun xs => xs = ws) (fun pre => pre <+: ws) (fun pre => pre.length ≤ ws.length) Y
/-- a filter: it answers an iterator that tells the words -/
def FiltOk (w0 w : World) (ff : Nat) (lbf : Array Value) (g : List UInt8 → List (List UInt8)) : Prop :=
  ∀ (W : World) (s : List UInt8), BW w W → (s.length : Int) ≤ 1000000000000 → Calls Tryd.prog ff (#[textV s] ++ lbf) W fun e W' => ∃ gi lbi, e = .returned (.func (.func gi) #[] lbi) ∧ BW W W' ∧ (∀ args w, (callFunc gi args).run Tryd.prog w = .ok (.enter gi args) w) ∧ Tells w0 W' gi lbi (g s)
set_option maxRecDepth 100000 in
set_option maxHeartbeats 2000000 in
theorem values_none (w0 X : World) (Bs : Nat) (h : Boxed X Bs 57 (.slice none 0 0)) : Tells w0 X 87 #[.pointer (some ⟨Bs, 0, none⟩)] [] := by
  intro Y hY ly J Jx W _ _ hbel hJ hJx hR h0
  have c0 := (boxed_on (boxed_on h hY) hbel).cell
  have H0 := Lib.hid h0
  refine (callsIn_wide (n := 1)).1 ?_
  clear hR hJ hJx h0 h hbel hY
  refine callsIn_of_wp Tryd.func87 rfl trivial ?_ rfl
  simp only [Tryd.ntmps87, List.size_toArray, List.length_cons, List.length_nil, Nat.reduceAdd, Nat.reduceSub, Array.replicate_succ, Array.replicate_zero, List.push_toArray, List.append_toArray, List.nil_append, List.cons_append]
  gi_wp2
  gi_loopw [4, 7] (fun _ s7 wr => s7 = .int .i64 0 ∧ wr = W) (fun _ _ _ => 0)
  case atStart => exact ⟨rfl, rfl⟩
  case round =>
    obtain ⟨rfl, rfl⟩ := hrel
    gi_wp2
    go_end0
    exact ⟨⟨_, rfl⟩, .inl ⟨_, rfl, H0.out⟩⟩
set_option maxRecDepth 100000 in
set_option maxHeartbeats 2000000 in
theorem values_one (w0 X : World) (Bs b : Nat) (x : List UInt8) (h : Boxed X Bs 57 (.slice (some ⟨b, 0, none⟩) 1 1)) (hx : Boxed X b 9 (textV x)) : Tells w0 X 87 #[.pointer (some ⟨Bs, 0, none⟩)] [x] := by
  intro Y hY ly J Jx W _ _ hbel hJ hJx hR h0
  have c0 := (boxed_on (boxed_on h hY) hbel).cell
  have c1 := (boxed_on (boxed_on hx hY) hbel).cell
  have H0 := Lib.hid h0
  have hR1 := hR [] x W h0 (Nat.le_refl _)
  unfold encW at hR1
  obtain ⟨tx, htx⟩ : ∃ tx, tx = ByteArray.mk x.toArray := ⟨_, rfl⟩
  have htv : textV x = .string tx := by rw [htx]; rfl
  rw [htv] at c1 hR1
  refine (callsIn_wide (n := 1)).1 ?_
  obtain ⟨fn, tmps, assign, body, hy, hRI⟩ := hR1
  have HRI := Lib.hid hRI
  have HX : Hid ([] ++ [x] <+: [x]) := List.prefix_rfl
  clear hR hJ hJx h0 h hx hbel hY htx htv hRI
  refine callsIn_of_wp Tryd.func87 rfl trivial ?_ rfl
  simp only [Tryd.ntmps87, List.size_toArray, List.length_cons, List.length_nil, Nat.reduceAdd, Nat.reduceSub, Array.replicate_succ, Array.replicate_zero, List.push_toArray, List.append_toArray, List.nil_append, List.cons_append]
  gi_wp2
  gi_loopw [4, 7] (fun _ s7 wr => (s7 = .int .i64 0 ∧ wr = W) ∨ (s7 = .int .i64 1 ∧ J ([] ++ [x]) wr)) (fun _ s7 _ => 2 - (intOf s7).toNat)
  case atStart => exact .inl ⟨rfl, rfl⟩
  case round =>
    rcases hrel with ⟨rfl, rfl⟩ | ⟨rfl, hj⟩
    · gi_wp2
      refine HRI.out.mono ?_
      rintro e2 W3 (⟨rfl, hj3, _⟩ | ⟨rfl, hx3⟩)
      · gi_wp2
        go_roundw
        case rel => exact .inr ⟨rfl, hj3⟩
        case measure => simp [intOf]
      · obtain ⟨hx3, _⟩ := hx3
        gi_wp2
        refine bodyPost_ret (results_none rfl _ _ _) rfl ?_
        exact ⟨⟨_, rfl⟩, .inr ⟨_, HX.out, hx3⟩⟩
    · have HJ := Lib.hid hj
      clear hj
      gi_wp2
      go_end0
      exact ⟨⟨_, rfl⟩, .inl ⟨_, rfl, HJ.out⟩⟩
set_option maxHeartbeats 1000000 in
theorem valuesF_any (ao : Option Addr) (n c : Nat) (w : World) : Calls Tryd.prog 76 #[.slice ao n c] w fun e w' => e = .returned (.func (.func 87) #[] #[.pointer (some ⟨w.heap.size, 0, none⟩)]) ∧ w.alloc (.cells #[.slice ao n c] 57) = w' := by
  have hmf : ∀ (fn : Fn) (first cap : Array Value) (w : World), (Instr.makeFunc fn first cap).run Tryd.prog w = .ok (.func fn first cap) w := fun _ _ _ _ => rfl
  go_enter Tryd.func76, Tryd.ntmps76
  go_wp2
  go_ret
  exact ⟨rfl, rfl⟩
set_option maxHeartbeats 1000000 in
theorem row_any (ao : Option Addr) (n c : Nat) (w : World) : Calls Tryd.prog 61 #[.slice ao n c] w fun e w' => e = .returned (.func (.func 87) #[] #[.pointer (some ⟨w.heap.size, 0, none⟩)]) ∧ w.alloc (.cells #[.slice ao n c] 57) = w' := by
  have HV := Lib.hid (fun W => valuesF_any ao n c W)
  go_enter Tryd.func61, Tryd.ntmps61
  go_wp2_with fail
  refine (HV.out _).mono ?_
  rintro e w1 ⟨rfl, hw⟩
  go_wp2
  go_ret
  exact ⟨rfl, hw⟩
/-- what a row of words answers -/
def RowPost (w0 w : World) (ws : List (List UInt8)) (e : Ending) (w' : World) : Prop := ∃ gi lbi, e = .returned (.func (.func gi) #[] lbi) ∧ BW w w' ∧ (∀ args w, (callFunc gi args).run Tryd.prog w = .ok (.enter gi args) w) ∧ Tells w0 w' gi lbi ws
set_option maxRecDepth 100000 in
theorem values_enter : ∀ args w, (callFunc 87 args).run Tryd.prog w = .ok (.enter 87 args) w := enters_of Tryd.func87 (by kernel_rfl) rfl
set_option maxRecDepth 100000 in
theorem row_none (w0 w : World) : Calls Tryd.prog 61 #[.slice none 0 0] w (RowPost w0 w []) := by
  refine (row_any none 0 0 w).mono ?_
  rintro e w' ⟨rfl, rfl⟩
  exact ⟨_, _, rfl, bw_alloc w _, values_enter, values_none w0 _ _ (Boxed.new w _ _)⟩
set_option maxRecDepth 100000 in
theorem row_one (w0 w : World) (b : Nat) (x : List UInt8) (h : Boxed w b 9 (textV x)) : Calls Tryd.prog 61 #[.slice (some ⟨b, 0, none⟩) 1 1] w (RowPost w0 w [x]) := by
  refine (row_any _ 1 1 w).mono ?_
  rintro e w' ⟨rfl, rfl⟩
  exact ⟨_, _, rfl, bw_alloc w _, values_enter, values_one w0 _ _ b x (Boxed.new w _ _) (h.alloc _)⟩
set_option maxRecDepth 100000 in
set_option maxHeartbeats 1000000 in
theorem lowered_ok (w0 w : World) : FiltOk w0 w 42 #[] (one 10) := by
  intro W s hb hs
  show Calls Tryd.prog 42 #[textV s] W _
  rw [show one 10 s = [foldL s] from by unfold one; rw [if_pos rfl]]
  have HF := Lib.hid (fun X => fold_any s (by omega) X)
  have HR := Lib.hid (fun (X : World) => row_one w0 (X.alloc (.cells #[textV (foldL s)] 9)) X.heap.size (foldL s) (Boxed.new X _ _))
  unfold TextPost at HF
  obtain ⟨tx, htx⟩ : ∃ tx, textV s = .string tx := ⟨_, rfl⟩
  obtain ⟨fx, hfx⟩ : ∃ tx, textV (foldL s) = .string tx := ⟨_, rfl⟩
  rw [htx] at HF ⊢
  rw [hfx] at HF HR
  clear htx hfx hs hb
  go_enter Tryd.func42, Tryd.ntmps42
  go_wp2_with fail
  refine (HF.out _).mono ?_
  rintro e X ⟨rfl, hq⟩
  go_wp2_with fail
  refine (HR.out X).mono ?_
  rintro e X2 ⟨gi, lbi, rfl, hq2, he, ht⟩
  go_wp2
  go_ret
  exact ⟨gi, lbi, rfl, (hq.alloc _).trans hq2, he, ht⟩
set_option maxRecDepth 100000 in
set_option maxHeartbeats 1000000 in
theorem unstopped_ok (w0 w : World) : FiltOk w0 w 43 #[] (one 11) := by
  intro W s hb hs
  show Calls Tryd.prog 43 #[textV s] W _
  rw [show one 11 s = (if stopL s then [] else [s]) from by unfold one; rw [if_neg (by decide), if_pos rfl]]
  have HS := Lib.hid (fun X => stop_any s X)
  have HR := Lib.hid (fun (X : World) => row_one w0 (X.alloc (.cells #[textV s] 9)) X.heap.size s (Boxed.new X _ _))
  have HN := Lib.hid (fun (X : World) => row_none w0 X)
  obtain ⟨tx, htx⟩ : ∃ tx, textV s = .string tx := ⟨_, rfl⟩
  rw [htx] at HS HR ⊢
  obtain ⟨q, hq⟩ : ∃ q, q = stopL s := ⟨_, rfl⟩
  rw [← hq] at HS ⊢
  clear htx hs hb hq
  go_enter Tryd.func43, Tryd.ntmps43
  cases q with
  | true =>
    rw [if_pos rfl]
    go_wp2_with fail
    refine (HS.out _).mono ?_
    rintro e X ⟨rfl, hq⟩
    go_wp2_with fail
    refine (HN.out X).mono ?_
    rintro e X2 ⟨gi, lbi, rfl, hq2, he, ht⟩
    go_wp2
    go_ret
    exact ⟨gi, lbi, rfl, hq.trans hq2, he, ht⟩
  | false =>
    rw [if_neg (by decide)]
    go_wp2_with fail
    refine (HS.out _).mono ?_
    rintro e X ⟨rfl, hq⟩
    go_wp2_with fail
    refine (HR.out X).mono ?_
    rintro e X2 ⟨gi, lbi, rfl, hq2, he, ht⟩
    go_wp2
    go_ret
    exact ⟨gi, lbi, rfl, (hq.alloc _).trans hq2, he, ht⟩
end Go.Proofs.YtljjaepadnmmeaaDoor
