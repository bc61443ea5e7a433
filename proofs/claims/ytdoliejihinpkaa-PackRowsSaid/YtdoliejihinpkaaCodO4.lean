import Derived.Test.YtdoliejihinpkaaCodL
import Derived.Test.YtdoliejihinpkaaCodP
import Derived.ProofKit
import Derived.OpenShut
import Derived.ShutString
import Derived.Below
import Derived.ChangeSame
import Derived.Deep.Slices
import Derived.Deep.Fields
import Derived.ChangeOld
import Derived.SizedLaws
import Derived.Deep.CondSized
import Derived.JoinedCond
import Derived.SliceStrings
/- What the statements call: Bytes, awake and the like; End. -/
namespace Go.Proofs.Ytdoliejihinpkaa
open Go.RowKit Go.Maps

theorem ReadG.some {w w' : World} {r c : Nat} {l : List UInt8} {z : Value} {D : Option (Value × Nat)} {e : Ending} (h : ReadG w r c l z (QD D) (D = none) e w') {v : Value} {k : Nat} (hd : D = some (v, k)) : e = .returned v ∧ Moves (fun b => b = r) w w' ∧ Rd w' r c (l.drop k) 0 := by
  obtain ⟨v', rfl, hm, ⟨k', h1, h2⟩ | ⟨h1, _⟩⟩ := h
  · unfold QD at h1
    rw [hd] at h1
    cases h1
    exact ⟨rfl, hm, h2⟩
  · rw [hd] at h1; cases h1
theorem ReadG.none {w w' : World} {r c : Nat} {l : List UInt8} {z : Value} {D : Option (Value × Nat)} {e : Ending} (h : ReadG w r c l z (QD D) (D = none) e w') (hd : D = none) : e = .returned z ∧ Moves (fun b => b = r) w w' ∧ Rd w' r c l 20 := by
  obtain ⟨v', rfl, hm, ⟨k', h1, h2⟩ | ⟨_, rfl, h2⟩⟩ := h
  · unfold QD at h1
    rw [hd] at h1
    cases h1
  · exact ⟨rfl, hm, h2⟩

theorem Rd.toErr {w : World} {r c : Nat} {l : List UInt8} {e : Int} (h : Rd w r c l e) (e' : Int) : Rd (w.setCell ⟨r, 1, none⟩ (.int .i64 e')) r c l e' ∧ Moves (fun b => b = r) w (w.setCell ⟨r, 1, none⟩ (.int .i64 e')) := by
  have hm : Moves (fun b => b = r) w (w.setCell ⟨r, 1, none⟩ (.int .i64 e')) := Moves.setCell (F := fun b => b = r) (Moves.refl _ _) (fun _ => rfl) _
  obtain ⟨v, h1, h2, h3⟩ := h.ex
  refine ⟨⟨⟨v, heap_set h1 _, h2.keep hm.size ?_, h3⟩, h.ne, Nat.lt_of_lt_of_le h.lt hm.size, h.len⟩, hm⟩
  intro hne a n k hv
  have hl : l ≠ [] := by rintro rfl; exact hne rfl
  have hb := h3 hl a n k hv
  exact hm.block _ (by rw [hb]; exact h.lt) (by rw [hb]; exact fun e => h.ne hl e.symm)

def EndPost (w : World) (r c : Nat) (l : List UInt8) (e : Int) (en : Ending) (w' : World) : Prop :=
  en = .returned (.int .i64 (if l = [] then e else 20)) ∧ Moves (fun b => b = r) w w' ∧ Rd w' r c l (if l = [] then e else 20)

set_option maxHeartbeats 1000000 in
set_option maxRecDepth 100000 in
theorem bytes_true {w : World} {v1 v2 : Value} {l : List UInt8} (h1 : Src w v1 (l.map bV)) (h2 : Src w v2 (l.map bV)) :
    Calls Try.prog 18 #[v1, v2] w (DrewTrue w) := by
  rcases h1 with ⟨ao1, cp1, rfl, e1, _, _⟩ | ⟨b1, o1, c1, rfl, a1, a2, a3, a4⟩
  · have hl : l = [] := by simpa using e1
    subst hl
    obtain ⟨ao, cap, rfl⟩ := h2.len
    clear h2 e1
    simp only [List.map_nil, List.length_nil]
    go_enter Try.func18, Try.ntmps18
    go_wp2
    refine wp_loop_rounds 1 ?_
    rw [rounds_succ]
    go_wp2
    go_ret
    exact ⟨rfl, 0, rfl⟩
  · rcases h2 with ⟨ao2, cp2, rfl, e1, _, _⟩ | ⟨b2, o2, c2, rfl, d1, d2, d3, d4⟩
    · have hl : l = [] := by simpa using e1
      subst hl
      clear e1 a1 a2 a3 a4
      simp only [List.map_nil, List.length_nil]
      go_enter Try.func18, Try.ntmps18
      go_wp2
      refine wp_loop_rounds 1 ?_
      rw [rounds_succ]
      go_wp2
      go_ret
      exact ⟨rfl, 0, rfl⟩
    · rw [List.length_map] at a1 ⊢
      have A4 := Lib.hid a4; have D4 := Lib.hid d4
      have hle : (l.length : Int) ≤ 9223372036854775807 := by omega
      clear a1 a2 a3 a4 d1 d2 d3 d4
      go_enter Try.func18, Try.ntmps18
      go_wp2
      go_loopw [5] (fun i wr => ∃ k : Nat, k ≤ l.length ∧ i = .int .i64 k ∧ ∃ n, wr = w.drewN n) (fun i _ => l.length - (intOf i).toNat)
      case atStart => exact ⟨0, Nat.zero_le _, rfl, 0, rfl⟩
      case round =>
        obtain ⟨k, hk, rfl, n, rfl⟩ := hrel
        by_cases hlt : k < l.length
        · have hx : (l.map bV)[k]? = some (.int .u8 (l[k].toNat : Int)) := by rw [List.getElem?_map, List.getElem?_eq_getElem hlt]; rfl
          have ca := A4.out k _ hx
          have cb := D4.out k _ hx
          clear hx
          have hi : (k : Int) < (l.length : Int) := by omega
          have hi0 : (0 : Int) ≤ (k : Int) := by omega
          obtain ⟨c, hc⟩ : ∃ c : Int, c = (l[k].toNat : Int) := ⟨_, rfl⟩
          rw [← hc] at ca cb
          have hbe : (c != c) = false := by simp
          clear hc
          go_wp2
          go_quiet (fail)
          go_wp2
          go_roundw
          case rel => exact ⟨k + 1, by omega, by go_num, _, rfl⟩
          case measure => simp [intOf]; omega
        · go_wp2
          go_ret
          exact ⟨rfl, n, rfl⟩


def TruePost (w : World) (e : Ending) (w' : World) : Prop := e = .returned (.bool true) ∧ BW w w'
theorem bytes_b {w : World} {v1 v2 : Value} {l : List UInt8} (h1 : Src w v1 (l.map bV)) (h2 : Src w v2 (l.map bV)) : Calls Try.prog 18 #[v1, v2] w (TruePost w) := by
  refine (bytes_true h1 h2).mono ?_
  rintro e w' ⟨he, n, rfl⟩
  exact ⟨he, drewN_below w n⟩

end Go.Proofs.Ytdoliejihinpkaa

/- awake, times, bad. -/
namespace Go.Proofs.Ytdoliejihinpkaa
open Go.RowKit Go.Maps

theorem bw_moves {w W W' : World} {r : Nat} (h : BW w W) (m : Moves (fun b => b = r) W W') (hr : w.heap.size ≤ r) : BW w W' := RowKit.Below.trans h (Moves.below m (fun k e => by omega) h.size)
theorem src_new1 (w : World) (xs : Array Value) (n : Nat) (bs : List UInt8) (hn : xs.size = n) (hs : (n : Int) ≤ 9223372036854775807) (hx : xs.toList = bs.map bV) : Src (w.alloc (.cells xs 5)) (.slice (some ⟨w.heap.size, 0, none⟩) n n) (bs.map bV) := by
  rw [← hx]; exact src_new w xs 5 n hn hs

def awakeB : List UInt8 := [172, 2, 1, 2, 97, 98, 5]
theorem aw1 : dU awakeB = some (.int .u64 300, 2) := by
  have : deco awakeB = some (300, 2) := by decide +kernel
  unfold dU; rw [this]; rfl
theorem aw2 : dI (awakeB.drop 2) = some (.int .i64 (-1), 1) := by
  have : deco (awakeB.drop 2) = some (1, 1) := by decide +kernel
  unfold dI; rw [this]; rfl
theorem aw3 : dT ((awakeB.drop 2).drop 1) 2 = some (.string ⟨#[97, 98]⟩, 3) := by
  have : textD ((awakeB.drop 2).drop 1) 2 = some ([97, 98], 3) := by decide +kernel
  unfold dT; rw [this]; rfl
theorem aw4 : ((awakeB.drop 2).drop 1).drop 3 = [5] := rfl
theorem form300 : form 300 = [172, 2] := by
  rw [form_step (by decide), form_last (by decide)]; rfl

end Go.Proofs.Ytdoliejihinpkaa

/- times, bad. -/
namespace Go.Proofs.Ytdoliejihinpkaa
open Go.RowKit Go.Maps

end Go.Proofs.Ytdoliejihinpkaa

/- The end of a law: nothing that came in has turned. -/
namespace Go.Proofs.Ytdoliejihinpkaa.Ends
open Go.RowKit Go.WideShapes Go.ChangeShapes
section
variable {H : Type} {enc : TypeId × Value → H} {P : Program}
theorem post_of_below {f : Func} {s : ChangeSpec} {apart fresh handsOn again : Bool} {W W' : World} {args : Array Value} {v : Value} {ds gs : List (DataW H)} {before pa pv : List MemPlace}
    (hW : DataW.Whole enc P f.params.toList s.vars apart W args.toList ds gs before)
    (hres : ∀ (b : Nat) (sp : Nat → Bool) (hd : Bool), DataW.TrodAll enc P W' b sp hd f.resultTypes.toList (v.resultList f.resultTypes.size) (s.fn H (ds ++ gs)).results [])
    (hargs : ∀ sp : Nat → Bool, (∀ p ∈ before, sp p.block = true) → DataW.TrodAll enc P W' 0 sp true f.params.toList args.toList (s.fn H (ds ++ gs)).args pa)
    (hvars : ∀ sp : Nat → Bool, (∀ p ∈ before, sp p.block = true) → DataW.TrodVars enc P W' sp s.vars (s.fn H (ds ++ gs)).vars pv)
    (hps : before = pa ++ pv) (hb : Below W.heap.size W W')
    (hok : ∀ (j : Nat) (t : TypeId) (r : Value), f.resultTypes[j]? = some t → (v.resultList f.resultTypes.size)[j]? = some r → Value.okWide P W' .any 0 t r) :
    s.post enc P f apart fresh handsOn again W args v W' := by
  have hlt : ∀ p ∈ before, p.block < W.heap.size := fun p hp => hW.lt p hp
  have hold : ∀ p ∈ before, (fun b => decide (b < W.heap.size)) p.block = true := fun p hp => by simpa using hlt p hp
  refine ⟨ds, gs, before, [], pa, pv, hW, hres _ _ _, hargs _ hold, hvars _ hold, World.keptBut_mono (fun p hp => ⟨hp, ?_⟩) (hb.frame (· ∈ before)), fun _ => ?_⟩
  · rw [hps, List.mem_append] at hp
    exact Or.inr hp
  · obtain ⟨_, _, _, _, _, hz, hn⟩ := hW
    refine ⟨hok, _, _, ([] ++ pa) ++ pv, ⟨[] ++ pa, pv, trodAll_append (hargs _ (fun _ _ => rfl)) (hres _ _ _), hvars _ (fun _ _ => rfl), rfl, ?_, ?_⟩, ?_⟩
    · intro b off hp
      have hin : MemPlace.cell b off ∈ before := by rw [hps]; simpa using hp
      rw [hb.frozen (hlt _ hin)]
      exact hz b off hin
    · intro ha
      have := hn ha
      rw [hps] at this
      simpa using this
    · rw [hps]
      simp
      intro p hp _
      exact hp
end
end Go.Proofs.Ytdoliejihinpkaa.Ends

/- The arguments opened. -/
namespace Go.Proofs.Ytdoliejihinpkaa
open Go.RowKit Go.Maps
section
open Go.ChangeShapes Go.WideShapes Go.Deep
variable {H : Type} {enc : TypeId × Value → H} {P : Program} {w : World} {base : Nat} {spare : Nat → Bool} {held : Bool}
theorem add_block (a : Addr) (k : Nat) : (a.add k).block = a.block := by unfold Addr.add; split <;> rfl
theorem src_ints {k : IntKind} {a : Option Addr} {len cap : Nat} {fuel : Nat} {t e : TypeId} {x : DataW H × List MemPlace} (ht : P.underlying t = some (.slice e)) (he : P.underlying e = some (.int k)) (hc : P.cellsOf e = 1)
    (h : DataW.trod enc P w base spare held fuel t [.slice a len cap] = some x) : ∃ zs : List Int, zs.length = len ∧ Src w (.slice a len cap) (zs.map (Value.int k)) ∧ ∀ n ∈ zs, (Lit.int k n).wf = true := by
  rcases open_ints ht he hc h with ⟨hcs, _⟩ | ⟨a', l, c, zs, hcs, _, hl, hm, hz, _, hcell, hwf⟩
  · simp at hcs
    obtain ⟨rfl, rfl, rfl⟩ := hcs
    exact ⟨[], rfl, Src.nil _, by simp⟩
  · simp at hcs
    obtain ⟨rfl, rfl, rfl⟩ := hcs
    have hzl : len ≤ zs.length := by rw [hz]; split <;> omega
    have hcapm : (cap : Int) ≤ 9223372036854775807 := by unfold maxLen at hm; omega
    refine ⟨zs.take len, by rw [List.length_take]; omega, ?_, fun n hn => hwf n (List.mem_of_mem_take hn)⟩
    by_cases h0 : len = 0
    · subst h0
      exact .inl ⟨some a', cap, rfl, by simp, fun e => (by cases e), hcapm⟩
    · have hc0 := hcell 0 (by omega)
      have hsp : a'.spot = none := by
        rw [show a'.add 0 = a' by simp [Addr.add]] at hc0
        unfold World.cell? at hc0
        split at hc0
        · split at hc0
          · cases hc0
          · rename_i hs; simpa using hs
        · cases hc0
      have hlt : a'.block < w.heap.size := by have := cell_lt hc0; rw [add_block] at this; exact this
      obtain ⟨ab, ao, asp⟩ := a'
      simp only at hsp
      subst hsp
      refine .inr ⟨ab, ao, cap, by simp; omega, by simp; omega, hcapm, hlt, fun j u hu => ?_⟩
      rw [List.getElem?_map, List.getElem?_take] at hu
      split at hu
      · rename_i hj
        have h1 := hcell j (by omega)
        rw [show (⟨ab, ao, none⟩ : Addr).add j = ⟨ab, ao + j, none⟩ by unfold Addr.add; by_cases e : j = 0 <;> simp [e]] at h1
        rw [h1, ← hu, List.getElem?_eq_getElem (by omega)]
        simp [List.getD_eq_getElem?_getD, List.getElem?_eq_getElem (show j < zs.length by omega)]
      · cases hu
theorem bytes_of {zs : List Int} (h : ∀ n ∈ zs, (Lit.int .u8 n).wf = true) : ∃ bs : List UInt8, bs.map bV = zs.map (Value.int .u8) := by
  refine ⟨zs.map (fun z => UInt8.ofNat z.toNat), ?_⟩
  rw [List.map_map]
  refine List.map_congr_left fun z hz => ?_
  have hw := h z hz
  unfold Function.comp bV
  have h1 : 0 ≤ z ∧ z ≤ 255 := by
    unfold Lit.wf at hw
    rw [Bool.and_eq_true, decide_eq_true_eq, decide_eq_true_eq] at hw
    exact hw
  have h2 : z.toNat < 256 := by omega
  congr 1
  rw [UInt8.toNat_ofNat']
  omega
theorem wf64 {n : Int} (h : (Lit.int .i64 n).wf = true) : -9223372036854775808 ≤ n ∧ n ≤ 9223372036854775807 := by
  unfold Lit.wf at h
  rw [Bool.and_eq_true, decide_eq_true_eq, decide_eq_true_eq] at h
  exact h
theorem weights_elem {t e : TypeId} {elems spare' : List (DataW H)} (ht : P.underlying t = some (.slice e)) {d : DataW H} (hd : d ∈ elems) : ∀ n ∈ d.weights P e, n ∈ (DataW.slice elems spare').weights P t := by
  intro n hn
  have : n ∈ DataW.weightsAll P e elems := by
    induction elems with
    | nil => cases hd
    | cons x r ih =>
      simp only [DataW.weightsAll, List.mem_append]
      rcases List.mem_cons.1 hd with rfl | h
      · exact .inl hn
      · exact .inr (ih h)
  simp only [DataW.weights, ht, List.mem_cons, List.mem_append]
  exact .inr (.inl this)
theorem src_of {P : Program} {k : IntKind} {fuel : Nat} {t e : TypeId} {v : Value} {x : DataW H × List MemPlace} (ht : P.underlying t = some (.slice e)) (he : P.underlying e = some (.int k)) (hc : P.cellsOf e = 1)
    (h : DataW.trod enc P w base spare held fuel t [v] = some x) : ∃ a len cap, ∃ zs : List Int, v = .slice a len cap ∧ zs.length = len ∧ Src w (.slice a len cap) (zs.map (Value.int k)) ∧ (∀ n ∈ zs, (Lit.int k n).wf = true) ∧ ∀ B, (∀ m ∈ x.1.weights P t, m ≤ B) → len * P.bytesOf e ≤ B := by
  have h0 := h
  rcases open_ints ht he hc h with ⟨hcs, hx⟩ | ⟨a', l, c, zs, hcs, _, hl, hm, hz, hx, hcell, hwf⟩
  · simp at hcs
    subst hcs
    obtain ⟨zs, h1, h2, h3⟩ := src_ints ht he hc h0
    exact ⟨_, _, _, zs, rfl, h1, h2, h3, fun B _ => by simp⟩
  · simp at hcs
    subst hcs
    obtain ⟨zs', h1, h2, h3⟩ := src_ints ht he hc h0
    refine ⟨_, _, _, zs', rfl, h1, h2, h3, fun B hB => ?_⟩
    rw [hx] at hB
    have hzl : l ≤ zs.length := by rw [hz]; split <;> omega
    have h4 := hB _ (by
      simp only [DataW.weights, ht, List.mem_cons]
      exact .inl rfl)
    simp only [lits, List.length_map, List.length_take, List.length_drop] at h4
    refine Nat.le_trans (Nat.mul_le_mul_right _ ?_) h4
    omega
theorem weights_of {P : Program} {ts vs : List TypeId} {ds gs : List (DataW H)} (h : (DataW.weightsEach P (ts ++ vs) (ds ++ gs)).all (· ≤ reachBytes) = true) {j : Nat} {t : TypeId} {d : DataW H} (ht : (ts ++ vs)[j]? = some t) (hd : (ds ++ gs)[j]? = some d) : ∀ m ∈ d.weights P t, m ≤ reachBytes := by
  intro m hm
  have := List.all_eq_true.1 h m (DataW.weights_mem_each ht hd m hm)
  simpa using this

/-- an argument of bytes -/
theorem arg_bytes {W : World} {ao : Option Addr} {ln cp : Nat} {d : DataW H} {p : List MemPlace} {b0 : Nat} {sp : Nat → Bool} {hd : Bool} (h : DataW.Trod enc Try.prog W b0 sp hd 23 (.slice ao ln cp) d p)
    (hw : ∀ m ∈ d.weights Try.prog 23, m ≤ reachBytes) : ∃ bs : List UInt8, Src W (.slice ao ln cp) (bs.map bV) ∧ (bs.length : Int) ≤ 140737488351232 := by
  obtain ⟨f, hf⟩ := h
  obtain ⟨a, len, cap, zs, he, h1, h2, h3, h4⟩ := src_of (x := (d, p)) Try.underlying23 Try.underlying5 (by kernel_rfl) hf
  injection he with e1 e2 e3
  subst e1; subst e2; subst e3
  obtain ⟨bs, hbs⟩ := bytes_of h3
  have hl : bs.length = ln := by have := congrArg List.length hbs; simp at this; omega
  refine ⟨bs, by rw [hbs]; exact h2, ?_⟩
  have hb := h4 reachBytes hw
  have hrb : reachBytes ≤ 140737488351232 := by decide +kernel
  have h1b : Try.prog.bytesOf 5 = 1 := by kernel_rfl
  rw [h1b] at hb
  omega
end
end Go.Proofs.Ytdoliejihinpkaa

/- The arguments opened, with their bulk. -/
namespace Go.Proofs.Ytdoliejihinpkaa
open Go.RowKit Go.Maps
section
open Go.ChangeShapes Go.WideShapes Go.Deep
variable {H : Type} {enc : TypeId × Value → H} {w : World} {base : Nat} {spare : Nat → Bool} {held : Bool}

theorem bulk_pos (d : DataW H) : 1 ≤ Rows.uptoBulk d := by
  cases d with
  | lit l => cases l <;> simp [Rows.uptoBulk]
  | _ => simp [Rows.uptoBulk]
theorem bulk_len (l : List (DataW H)) : l.length ≤ Rows.uptoBulkAll l := by
  induction l with
  | nil => simp [Rows.uptoBulkAll]
  | cons x r ih => have := bulk_pos x; simp only [Rows.uptoBulkAll, List.length_cons]; omega
theorem bulk_strs : ∀ ss : List ByteArray, ss.length + (ss.map (·.size)).sum ≤ Rows.uptoBulkAll (H := H) (strs ss)
  | [] => by simp [strs, Rows.uptoBulkAll]
  | s :: r => by
    have ih := bulk_strs r
    have e : (s.data.toList).length = s.size := by rw [Array.length_toList]; rfl
    simp only [strs, List.map_cons, Rows.uptoBulkAll, Rows.uptoBulk, List.length_cons, List.sum_cons] at ih ⊢
    omega

theorem arg_ints {k : IntKind} {t e : TypeId} {a : Option Addr} {len cap : Nat} {d : DataW H} {p : List MemPlace} (ht : Try.prog.underlying t = some (.slice e)) (he : Try.prog.underlying e = some (.int k)) (hc : Try.prog.cellsOf e = 1)
    (h : DataW.Trod enc Try.prog w base spare held t (.slice a len cap) d p) : ∃ zs : List Int, Src w (.slice a len cap) (zs.map (Value.int k)) ∧ (∀ n ∈ zs, (Lit.int k n).wf = true) ∧ zs.length ≤ Rows.uptoBulk d := by
  obtain ⟨f, h0⟩ := h
  have h1 : DataW.trod enc Try.prog w base spare held f t [.slice a len cap] = some (d, p) := h0
  obtain ⟨zs, hl, hs, hw⟩ := src_ints ht he hc h1
  refine ⟨zs, hs, hw, ?_⟩
  rw [hl]
  rcases open_ints ht he hc h1 with ⟨hcs, _⟩ | ⟨a', l, c, zs', hcs, _, _, _, hz, hx, _, _⟩
  · simp at hcs; omega
  · simp at hcs
    obtain ⟨_, rfl, _⟩ := hcs
    simp only [Prod.mk.injEq] at hx
    rw [hx.1]
    simp only [Rows.uptoBulk]
    have h2 := bulk_len (H := H) (lits k (zs'.take len))
    have h3 : (lits (H := H) k (zs'.take len)).length = len := by
      unfold lits; rw [List.length_map, List.length_take]
      have : len ≤ zs'.length := by rw [hz]; split <;> omega
      omega
    omega

theorem arg_bytes_bulk {ao : Option Addr} {ln cp : Nat} {d : DataW H} {p : List MemPlace} (h : DataW.Trod enc Try.prog w base spare held 23 (.slice ao ln cp) d p) : ∃ bs : List UInt8, Src w (.slice ao ln cp) (bs.map bV) ∧ bs.length ≤ Rows.uptoBulk d := by
  obtain ⟨zs, h1, h2, h3⟩ := arg_ints Try.underlying23 Try.underlying5 (by kernel_rfl) h
  obtain ⟨bs, hbs⟩ := bytes_of h2
  have hl : bs.length = zs.length := by have := congrArg List.length hbs; simpa using this
  exact ⟨bs, by rw [hbs]; exact h1, by rw [hl]; exact h3⟩
theorem wfu64 {n : Int} (h : (Lit.int .u64 n).wf = true) : 0 ≤ n ∧ n ≤ 18446744073709551615 := by
  unfold Lit.wf at h
  rw [Bool.and_eq_true, decide_eq_true_eq, decide_eq_true_eq] at h
  exact h

/-- a row of texts -/
def sV (s : ByteArray) : Value := .string s
end
end Go.Proofs.Ytdoliejihinpkaa
