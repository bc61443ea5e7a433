/- FrameSeals: the walk. -/
import Derived.Test.YtaaeaaahllicbaaFrmY
namespace Go.Proofs.Ytaaeaaahllicbaa
open Go.RowKit Go.Maps Crc

structure LB (w : World) (B : Nat) (v : Value) (vs : List Value) (ss : List (List UInt8)) (va : Value) (al : List UInt8) : Prop where
  len : vs.length = ss.length
  out : w.ownsRow B 23 1 v vs.length vs
  lent : ∀ (j : Nat) (x : Value) (s : List UInt8), vs[j]? = some x → ss[j]? = some s → ∃ g cap, x = .slice (some ⟨g, 0, none⟩) s.length cap ∧ Lent w B g cap s ∧ v.ownBlock ≠ some g ∧ va.ownBlock ≠ some g
  all : w.ownsRow B 5 1 va al.length (al.map bV)
  sep : ∀ b, v.ownBlock = some b → va.ownBlock ≠ some b
theorem LB.nil (w : World) (B : Nat) : LB w B (.slice none 0 0) [] [] (.slice none 0 0) [] :=
  ⟨rfl, World.ownsRow_nil _ _ _ _, fun j x s h => by simp at h, World.ownsRow_nil _ _ _ _, fun b h => by cases h⟩
theorem LB.keep {w w' : World} {B : Nat} {v va : Value} {vs : List Value} {ss : List (List UInt8)} {al : List UInt8} (h : LB w B v vs ss va al) (hk : ∀ b, B ≤ b → b < w.heap.size → w'.heap[b]? = w.heap[b]?) : LB w' B v vs ss va al := by
  refine ⟨h.len, row_keepB h.out fun b e => hk b (row_block h.out e).1 (row_block h.out e).2, fun j x s hx hs => ?_, row_keepB h.all fun b e => hk b (row_block h.all e).1 (row_block h.all e).2, h.sep⟩
  obtain ⟨g, cap, e, hl, h1, h2⟩ := h.lent j x s hx hs
  exact ⟨g, cap, e, hl.keep (hk g hl.mark.2.2.1 hl.mark.2.2.2), h1, h2⟩
theorem LB.below {w w' : World} {B : Nat} {v va : Value} {vs : List Value} {ss : List (List UInt8)} {al : List UInt8} (h : LB w B v vs ss va al) (hb : BW w w') : LB w' B v vs ss va al := h.keep fun b _ h2 => hb.block b h2
theorem LB.rows {w : World} {B : Nat} {v va : Value} {vs : List Value} {ss : List (List UInt8)} {al : List UInt8} (h : LB w B v vs ss va al) : SrcRows w v ss := by
  refine ⟨vs, h.len, Src.of_row h.out, fun i x s hx hs => ?_⟩
  obtain ⟨g, cap, rfl, hl, _⟩ := h.lent i x s hx hs
  exact hl.src
theorem lent_base {w : World} {B B' g cap : Nat} {bs : List UInt8} (h : Lent w B g cap bs) (hb : B' ≤ B) : Lent w B' g cap bs := row_base h hb
/-- one more row that was lent -/
theorem LB.push {w0 w w2 : World} {B g cap : Nat} {v v' va : Value} {vs : List Value} {ss : List (List UInt8)} {al s : List UInt8} {o : Obj} (h : LB w0 B v vs ss va al) (hB : B ≤ w0.heap.size) (hbw : BW w0 w) (hx : Lent w w0.heap.size g cap s)
    (ho : w2.ownsRow B 23 1 v' (vs.length + 1) (vs ++ [.slice (some ⟨g, 0, none⟩) s.length cap])) (ha : App v v' (w.alloc o) w2) : LB w2 B v' (vs ++ [.slice (some ⟨g, 0, none⟩) s.length cap]) (ss ++ [s]) va al := by
  have hs0 := hbw.size
  have hkw : ∀ b, b < w.heap.size → (w.alloc o).heap[b]? = w.heap[b]? := fun b hb => Below.heap_alloc _ _ _ hb
  have hsz : (w.alloc o).heap.size = w.heap.size + 1 := by simp
  have hgm := hx.mark.2.2
  have hvb : ∀ b, v.ownBlock = some b → B ≤ b ∧ b < w0.heap.size := fun b e => row_block h.out e
  have hab : ∀ b, va.ownBlock = some b → B ≤ b ∧ b < w0.heap.size := fun b e => row_block h.all e
  -- a block below w's end that is not v's stays, and is not v's new one
  have hkeep : ∀ b, b < w.heap.size → v.ownBlock ≠ some b → w2.heap[b]? = w.heap[b]? ∧ v'.ownBlock ≠ some b := fun b hb hne => by
    rcases ha with ⟨g', n, c, n', c', rfl, rfl, hg⟩ | ⟨hg, hnew⟩
    · refine ⟨(hg.block b (by omega) ?_).trans (hkw b hb), hne⟩
      intro e2; exact hne e2.symm
    · refine ⟨(hg.block b (by omega) (by simp)).trans (hkw b hb), fun e2 => ?_⟩
      obtain ⟨a, n, c, e3, e4⟩ := own_some e2
      have := hnew a n c e3
      omega
  have hold : ∀ b, b < w0.heap.size → v.ownBlock ≠ some b → w2.heap[b]? = w0.heap[b]? ∧ v'.ownBlock ≠ some b := fun b hb hne => by
    have h1 := hkeep b (by omega) hne
    exact ⟨h1.1.trans (hbw.block b hb), h1.2⟩
  refine ⟨by simp [h.len], by simpa using ho, fun j y t hy ht => ?_, ?_, fun b e ea => ?_⟩
  · rcases Nat.lt_or_ge j vs.length with hj | hj
    · rw [List.getElem?_append_left hj] at hy
      rw [List.getElem?_append_left (by have := h.len; omega)] at ht
      obtain ⟨g', cap', rfl, hl, h1, h2⟩ := h.lent j y t hy ht
      have h3 := hold g' hl.mark.2.2.2 h1
      exact ⟨g', cap', rfl, hl.keep h3.1, h3.2, h2⟩
    · rw [List.getElem?_append_right hj] at hy
      have hj0 : j - vs.length = 0 := by have := (List.getElem?_eq_some_iff.1 hy).1; simp at this; omega
      rw [hj0] at hy
      rw [List.getElem?_append_right (by have := h.len; omega), ← h.len, hj0] at ht
      cases hy; cases ht
      have hne : v.ownBlock ≠ some g := fun e => by have := hvb g e; omega
      have h3 := hkeep g hgm.2 hne
      exact ⟨g, cap, rfl, (lent_base hx hB).keep h3.1, h3.2, fun e => by have := hab g e; omega⟩
  · exact row_keepB h.all fun b e => (hold b (hab b e).2 fun e2 => h.sep b e2 e).1
  · have h1 := hab b ea
    have hne : v.ownBlock ≠ some b := fun e2 => h.sep b e2 ea
    exact (hold b h1.2 hne).2 e
/-- more bytes behind all of them -/
theorem LB.more {w0 w2 : World} {B : Nat} {v va va' : Value} {vs : List Value} {ss : List (List UInt8)} {al al' : List UInt8} (h : LB w0 B v vs ss va al) (ho : w2.ownsRow B 5 1 va' al'.length (al'.map bV)) (ha : App va va' w0 w2) : LB w2 B v vs ss va' al' := by
  have hkeep : ∀ b, b < w0.heap.size → va.ownBlock ≠ some b → w2.heap[b]? = w0.heap[b]? ∧ va'.ownBlock ≠ some b := fun b hb hne => by
    rcases ha with ⟨g', n, c, n', c', rfl, rfl, hg⟩ | ⟨hg, hnew⟩
    · exact ⟨hg.block b hb fun e2 => hne e2.symm, hne⟩
    · refine ⟨hg.block b hb (by simp), fun e2 => ?_⟩
      obtain ⟨a, n, c, e3, e4⟩ := own_some e2
      have := hnew a n c e3
      omega
  refine ⟨h.len, row_keepB h.out fun b e => (hkeep b (row_block h.out e).2 (h.sep b e)).1, fun j x s hx hs => ?_, ho, fun b e => (hkeep b (row_block h.out e).2 (h.sep b e)).2⟩
  obtain ⟨g, cap, rfl, hl, h1, h2⟩ := h.lent j x s hx hs
  have h3 := hkeep g hl.mark.2.2.2 h2
  exact ⟨g, cap, rfl, hl.keep h3.1, h1, h3.2⟩

/-- what Seal answers, in one -/
def erS (kind : UInt8) (ss : List (List UInt8)) : Int := match sealP kind ss with | none => 3 | some _ => 0
def bsS (kind : UInt8) (ss : List (List UInt8)) : List UInt8 := (sealP kind ss).getD []
theorem seal_res {w w' : World} {kind : UInt8} {ss : List (List UInt8)} {e : Ending} (h : SealPost w kind ss e w') : ∃ v, e = .returned (.tuple #[v, .int .i64 (erS kind ss)]) ∧ BW w w' ∧ w'.ownsRow w.heap.size 5 1 v (bsS kind ss).length ((bsS kind ss).map bV) := by
  obtain ⟨v, er, rfl, hb, ⟨b, h1, rfl, h2⟩ | ⟨h1, rfl, rfl⟩⟩ := h
  · exact ⟨v, by unfold erS; rw [h1], hb, by unfold bsS; rw [h1]; exact h2⟩
  · exact ⟨.slice none 0 0, by unfold erS; rw [h1], hb, by unfold bsS; rw [h1]; exact World.ownsRow_nil _ _ _ _⟩
theorem bsS_len (kind : UInt8) (ss : List (List UInt8)) : (bsS kind ss).length ≤ 16777216 := by
  unfold bsS
  cases h : sealP kind ss with
  | none => exact Nat.zero_le _
  | some b => exact (seal_len h).1
/-- two rows side by side -/
theorem two_apart {w1 w2 w3 W : World} {va vb : Value} {sa sb : List UInt8} (ha : w2.ownsRow w1.heap.size 5 1 va sa.length (sa.map bV)) (hb : w3.ownsRow w2.heap.size 5 1 vb sb.length (sb.map bV)) (h12 : w1.heap.size ≤ w2.heap.size) (h23 : w2.heap.size ≤ w3.heap.size) (hk2 : ∀ b, w1.heap.size ≤ b → b < w2.heap.size → W.heap[b]? = w2.heap[b]?) (hk3 : ∀ b, w2.heap.size ≤ b → b < w3.heap.size → W.heap[b]? = w3.heap[b]?) :
    ∃ (V : Nat → Value) (n : Nat → Nat) (role : Nat → Option Nat), (List.range 2).map V = [va, vb] ∧ Ap1 W w1.heap.size 2 V n role 0 0 ∧ (∀ x, role x ≠ some 2) ∧ (∀ b, role b ≠ none → w1.heap.size ≤ b ∧ b < w3.heap.size) ∧ ∀ j, j < 2 → n j = sa.length ∨ n j = sb.length := by
  have hba : ∀ b, va.ownBlock = some b → w1.heap.size ≤ b ∧ b < w2.heap.size := fun b e => row_block ha e
  have hbb : ∀ b, vb.ownBlock = some b → w2.heap.size ≤ b ∧ b < w3.heap.size := fun b e => row_block hb e
  obtain ⟨role, h1, h2, h3⟩ := ap_of (W := W) (B := w1.heap.size) (N := 2) (V := fun j => if j = 0 then va else vb) (n := fun j => if j = 0 then sa.length else sb.length)
    (fun j hj => by
      match j, hj with
      | 0, _ => exact ⟨sa, row_keepB ha fun b e => hk2 b (hba b e).1 (hba b e).2⟩
      | 1, _ => exact ⟨sb, row_base (row_keepB hb fun b e => hk3 b (hbb b e).1 (hbb b e).2) h12⟩)
    (fun i j b hi hj ei ej => by
      match i, j, hi, hj with
      | 0, 0, _, _ => rfl
      | 1, 1, _, _ => rfl
      | 0, 1, _, _ => have := hba b ei; have := hbb b ej; omega
      | 1, 0, _, _ => have := hba b ej; have := hbb b ei; omega)
  refine ⟨_, _, role, rfl, h1, h2, fun b hb' => ?_, fun j hj => ?_⟩
  · obtain ⟨j, hj, e⟩ := h3 b hb'
    match j, hj with
    | 0, _ => have := hba b e; omega
    | 1, _ => have := hbb b e; omega
  · match j, hj with
    | 0, _ => exact .inl rfl
    | 1, _ => exact .inr rfl

theorem App.bw {w W W' : World} {v v' : Value} (h : App v v' W W') (hb : BW w W) (hv : ∀ b, v.ownBlock = some b → w.heap.size ≤ b) : BW w W' := by
  rcases h with ⟨g, n, c, n', c', rfl, rfl, hg⟩ | ⟨hg, _⟩
  · exact bw_grown hb hg fun k e => by injection e with e; subst e; exact hv g rfl
  · exact bw_grown hb hg fun k e => by cases e
theorem LB.get {w : World} {B : Nat} {v va : Value} {vs : List Value} {ss : List (List UInt8)} {al : List UInt8} (h : LB w B v vs ss va al) {i : Nat} {s : List UInt8} (hs : ss[i]? = some s) : ∃ b g cap, v.ownBlock = some b ∧ (∃ n c, v = .slice (some ⟨b, 0, none⟩) n c) ∧ w.cell? ⟨b, i, none⟩ = some (.slice (some ⟨g, 0, none⟩) s.length cap) ∧ Lent w B g cap s := by
  obtain ⟨hi, _⟩ := List.getElem?_eq_some_iff.1 hs
  have hx : vs[i]? = some (vs[i]'(by have := h.len; omega)) := List.getElem?_eq_getElem _
  obtain ⟨g, cap, e, hl, _⟩ := h.lent i _ s hx hs
  obtain ⟨ao, n', c, rfl⟩ := row_form h.out
  obtain ⟨b, off, e2, hc⟩ := (Src.of_row h.out).get hx
  subst e2
  have h0 : off = 0 := by
    have h3 := (row_cell h.out rfl (i := i) (by have := h.len; omega)).2.1
    simpa using h3
  subst h0
  rw [Nat.zero_add, e] at hc
  exact ⟨b, g, cap, rfl, ⟨_, _, rfl⟩, hc, hl⟩

set_option maxHeartbeats 8000000 in
set_option maxRecDepth 100000 in
theorem frameSeals_any {w : World} {kind : UInt8} {v1 : Value} {ss : List (List UInt8)} (h1 : SrcRows w v1 ss) (hl : ∀ s ∈ ss, (s.length : Int) ≤ 140737488351232) (hn : (ss.length : Int) * 24 ≤ 140737488351232) : Calls Try.prog 3 #[bV kind, v1] w (TruePost w) := by
  obtain ⟨a1, c1, rfl⟩ := h1.len
  obtain ⟨n, hnn⟩ : ∃ n, ss.length = n := ⟨_, rfl⟩
  rw [hnn] at h1 hn ⊢
  obtain ⟨kv, hkv⟩ : ∃ kv, kv = bV kind := ⟨_, rfl⟩
  rw [← hkv]
  have H1 := Lib.hid h1; have HL := Lib.hid hl; have HN := Lib.hid hnn; have HKV := Lib.hid hkv
  clear h1 hl hnn hkv
  go_enter Try.func3, Try.ntmps3
  go_wp2
  go_loopg [5, 6, 7] n (fun g s5 s6 s7 wx => ∃ (i : Nat) (vs : List Value) (al : List UInt8), i + g = n ∧ s7 = .int .i64 i ∧ vs.length = i ∧ LB wx w.heap.size s5 vs (ss.take i) s6 al ∧ (al.length < 100000 → al = (ss.take i).flatten) ∧ al.length ≤ 140737488451232 ∧ BW w wx)
  case atStart => exact ⟨0, [], [], by omega, rfl, rfl, LB.nil _ _, fun _ => rfl, by decide, BW.refl w⟩
  case round =>
    obtain ⟨i, vs, al, hig, rfl, hvl, hlb, hal, halb, hbx⟩ := hrel
    have HIG := Lib.hid hig; have HVL := Lib.hid hvl; have HLB := Lib.hid hlb; have HAL := Lib.hid hal; have HALB := Lib.hid halb; have HBX := Lib.hid hbx
    clear hvl hlb hal halb hbx
    obtain ⟨io, iN, ic, rfl⟩ := row_form HLB.out.out
    obtain ⟨lo, lN, lc, rfl⟩ := row_form HLB.out.all
    obtain rfl : iN = i := by rw [← HVL.out]; exact row_len HLB.out.out rfl
    obtain ⟨an, han⟩ : ∃ an, an = al.length := ⟨_, rfl⟩
    obtain rfl : lN = an := by rw [han]; exact row_len HLB.out.all rfl
    have HAN := Lib.hid han
    clear han
    cases gk with
    | succ g =>
      have hi : (iN : Int) < (n : Int) := by omega
      have hd5 : decide (iN < n) = true := decide_eq_true (by omega)
      have hi0 : (0 : Int) ≤ (iN : Int) := by omega
      have hil : iN < ss.length := by have := HN.out; omega
      obtain ⟨x, hx⟩ : ∃ x, x = ss[iN] := ⟨_, rfl⟩
      obtain ⟨b0, off, xo, xc, rfl, hc0, hsrc⟩ := (H1.out.below HBX.out).get (i := iN) (s := x) (by rw [hx]; exact List.getElem?_eq_getElem hil)
      have HSRC := Lib.hid hsrc
      have HXL : Hid ((x.length : Int) ≤ 140737488351232) := by unfold Hid; rw [hx]; exact HL.out _ (List.getElem_mem _)
      have HTK : Hid (ss.take (iN + 1) = ss.take iN ++ [x]) := by unfold Hid; rw [List.take_succ_eq_append_getElem hil, ← hx]
      have HBOTH : Hid (∀ W, BW w W → W.cell? ⟨b0, off + iN, none⟩ = some (.slice xo x.length xc) ∧ Src W (.slice xo x.length xc) (x.map bV)) := fun W hW => by
        obtain ⟨b2, off2, xo2, xc2, e2, hc2, hs2⟩ := H1.out.get (i := iN) (s := x) (by rw [hx]; exact List.getElem?_eq_getElem hil)
        cases e2
        have h1 := cell_lt hc2
        have h2 : wr.cell? ⟨b0, off + iN, none⟩ = w.cell? ⟨b0, off + iN, none⟩ := World.cell?_of_block (w := w) (a := ⟨b0, off + iN, none⟩) (HBX.out.block _ h1)
        have h3 : W.cell? ⟨b0, off + iN, none⟩ = w.cell? ⟨b0, off + iN, none⟩ := World.cell?_of_block (w := w) (a := ⟨b0, off + iN, none⟩) (hW.block _ h1)
        rw [h2, hc2] at hc0
        injection hc0 with hc0
        injection hc0 with e3 _ e4
        subst e3; subst e4
        exact ⟨h3.trans hc2, hs2.below hW⟩
      have HLENT := Lib.hid (lent_any HSRC.out HXL.out)
      obtain ⟨sl, hsl⟩ : ∃ sl, sl = x.length := ⟨_, rfl⟩
      have HSL := Lib.hid hsl
      have hfar : (iN + 1) * 24 ≤ 140737488355328 := by omega
      have HFAR := Lib.hid hfar
      rw [← hsl] at hc0 HBOTH
      clear hx hsl hil hig hsrc hfar
      go_wp2_with fail
      rw [HSL.out]
      refine HLENT.out.mono ?_
      rintro e w2 ⟨g2, gc2, rfl, hl2, hb2⟩
      have HL2 := Lib.hid hl2; have HB2 := Lib.hid hb2
      have HLB2 := Lib.hid (HLB.out.below hb2)
      clear hl2 hb2
      rw [← HSL.out]
      have HOUT2 : Hid (w2.ownsRow w.heap.size 23 1 (.slice io iN ic) iN vs) := by have h3 := HLB2.out.out; rw [HVL.out] at h3; exact h3
      go_wp2_with (at_builtin; refine append_slice_far rfl (.tmp 27) (.tmp 29) rfl w.heap.size _ iN vs rfl (HOUT2.out.alloc _) w2.heap.size rfl (some ⟨g2, 0, none⟩) sl gc2 (cell_of (heap_new _ _) rfl) ?_ ?_ ?_)
      · exact HFAR.out
      · have := (HBX.out.trans HB2.out).size; simp; omega
      intro v4 w4 ho4 ha4
      have HLB4 : Hid (LB w4 w.heap.size v4 (vs ++ [.slice (some ⟨g2, 0, none⟩) x.length gc2]) (ss.take (iN + 1)) (.slice lo lN lc) al) := by
        unfold Hid; rw [HTK.out]
        exact LB.push HLB.out HBX.out.size HB2.out HL2.out (by rw [HVL.out, ← HSL.out]; exact ho4) ha4
      have HB4 : Hid (BW w w4) := App.bw ha4 ((HBX.out.trans HB2.out).alloc _) fun b e => (row_block HOUT2.out e).1
      have hc4 := (HBOTH.out w4 HB4.out).1
      have HSRC4 := Lib.hid (HBOTH.out w4 HB4.out).2
      have HALL4 : Hid (w4.ownsRow w.heap.size 5 1 (.slice lo lN lc) lN (al.map bV)) := by have h3 := HLB4.out.all; rw [← HAN.out] at h3; exact h3
      obtain ⟨io4, in4, ic4, rfl⟩ := row_form HLB4.out.out
      clear ho4 ha4 hc0
      by_cases hlt : lN < 100000
      · have hda : decide (lN < 100000) = true := decide_eq_true hlt
        have hda' : decide ((lN : Int) < 100000) = true := decide_eq_true (by omega)
        have HEQ := Lib.hid (HAL.out (by rw [← HAN.out]; exact hlt))
        have HLT := Lib.hid hlt
        clear hlt
        go_wp2_with (at_builtin; refine append_bytes_app rfl (.tmp 34) (.tmp 38) rfl w.heap.size _ lN al rfl HALL4.out _ rfl x HSRC4.out ?_ ?_ ?_)
        · have := HLT.out; have := HXL.out; omega
        · exact HB4.out.size
        intro v5 w5 ho5 ha5
        have HLB5 : Hid (LB w5 w.heap.size (.slice io4 in4 ic4) (vs ++ [.slice (some ⟨g2, 0, none⟩) x.length gc2]) (ss.take (iN + 1)) v5 (al ++ x)) :=
          LB.more HLB4.out (by rw [List.length_append, ← HAN.out, List.map_append]; exact ho5) ha5
        have HB5 : Hid (BW w w5) := App.bw ha5 HB4.out fun b e => (row_block HLB4.out.all e).1
        clear ho5 ha5
        go_wp2
        go_roundg g
        case measure => omega
        case rel => exact ⟨iN + 1, _, al ++ x, by have := HIG.out; omega, by first | rfl | simp, by rw [List.length_append, HVL.out]; rfl, HLB5.out, fun _ => by rw [HTK.out, List.flatten_append, ← HEQ.out]; simp, by rw [List.length_append, ← HAN.out]; have := HLT.out; have := HXL.out; omega, HB5.out⟩
      · have hda : decide (lN < 100000) = false := decide_eq_false hlt
        have hda' : decide ((lN : Int) < 100000) = false := decide_eq_false (by omega)
        have HLT := Lib.hid hlt
        clear hlt
        go_wp2
        go_roundg g
        case measure => omega
        case rel => exact ⟨iN + 1, _, al, by have := HIG.out; omega, by first | rfl | simp, by rw [List.length_append, HVL.out]; rfl, HLB4.out, fun h => absurd (by rw [HAN.out]; exact h) HLT.out, HALB.out, HB4.out⟩
    | zero =>
      have hge : (n : Int) ≤ (iN : Int) := by omega
      have hd5 : decide (iN < n) = false := decide_eq_false (by omega)
      by_cases hbig : 100000 ≤ lN
      · have hda : decide (100000 ≤ lN) = true := decide_eq_true hbig
        have hda' : decide ((100000 : Int) ≤ (lN : Int)) = true := decide_eq_true (by omega)
        have HBX' := HBX.out
        clear hbig hig
        go_wp2_with fail
        refine (awake_any _).mono ?_
        rintro e w2 ⟨rfl, hb2⟩
        have HW2 := Lib.hid (HBX.out.trans hb2)
        clear hb2 HBX'
        go_wp2
        go_ret
        exact ⟨rfl, HW2.out⟩
      have hda : decide (100000 ≤ lN) = false := decide_eq_false hbig
      have hda' : decide ((100000 : Int) ≤ (lN : Int)) = false := decide_eq_false (by omega)
      have HTKN : Hid (ss.take iN = ss) := by unfold Hid; rw [List.take_of_length_le]; have := HN.out; omega
      have HFL : Hid (al = ss.flatten) := by
        have h3 := HAL.out (by rw [← HAN.out]; omega)
        rw [HTKN.out] at h3; exact h3
      have HLBN : Hid (LB wr w.heap.size (.slice io iN ic) vs ss (.slice lo lN lc) al) := by have h3 := HLB.out; rw [HTKN.out] at h3; exact h3
      have HROWS := Lib.hid HLBN.out.rows
      have HALLS : Hid (Src wr (.slice lo lN lc) (al.map bV)) := Src.of_row HLBN.out.all
      have HNL : Hid ((ss.length : Int) ≤ 9223372036854775807) := by have := HN.out; unfold Hid; omega
      have HALEN : Hid ((al.length : Int) ≤ 140737488351232) := by have := HAN.out; unfold Hid; omega
      obtain ⟨wq, rfl⟩ : ∃ wq : World, wq = wr := ⟨_, rfl⟩
      obtain ⟨er, her⟩ : ∃ er, er = erS kind ss := ⟨_, rfl⟩
      have hee : (er != er) = false := by simp
      have HER := Lib.hid her
      obtain ⟨sm, hsm⟩ : ∃ sm : Int, sm = (crcP ss.flatten : Int) := ⟨_, rfl⟩
      have hss : (sm != sm) = false := by simp
      have HSM := Lib.hid hsm
      have HC1 := Lib.hid (seal_any (kind := kind) HROWS.out HL.out HNL.out)
      rw [← HKV.out] at HC1
      have hni : (n : Int) ≤ 9223372036854775807 := by omega
      clear her hsm hig hbig HTKN HLB HAL
      go_wp2_with fail
      refine HC1.out.mono ?_
      intro e w2 hh
      obtain ⟨vb, rfl, hb, hob⟩ := seal_res hh
      rw [← HER.out]
      have HB12 := Lib.hid hb
      have HOB := Lib.hid hob
      have HC2 := Lib.hid (seal_any (kind := kind) (HROWS.out.below hb) HL.out HNL.out)
      rw [← HKV.out] at HC2
      obtain ⟨bo, bn, bc, rfl⟩ := row_form hob
      clear hh hb hob HC1
      go_wp2_with fail
      refine HC2.out.mono ?_
      intro e w3 hh
      obtain ⟨vc, rfl, hb, hoc⟩ := seal_res hh
      rw [← HER.out]
      have HB23 := Lib.hid hb
      have HOC := Lib.hid hoc
      have HW3 : Hid (BW w w3) := (HBX.out.trans HB12.out).trans hb
      have HC3 := Lib.hid (refSeal_any (kind := kind) (H1.out.below HW3.out) HL.out HNL.out)
      rw [← HKV.out] at HC3
      obtain ⟨co, cn, cc, rfl⟩ := row_form hoc
      clear hh hb hoc HC2
      go_wp2_with fail
      refine HC3.out.mono ?_
      intro e w4 hh
      obtain ⟨vd, rfl, hb, hod⟩ := seal_res hh
      rw [← HER.out]
      have HB34 := Lib.hid hb
      have HB14 : Hid (BW wq w4) := (HB12.out.trans HB23.out).trans hb
      have HB24 : Hid (BW w2 w4) := HB23.out.trans hb
      have HSD := Lib.hid (Src.of_row hod)
      obtain ⟨do', dn, dc, rfl⟩ := row_form hod
      clear hh hb hod HC3
      go_wp2_with fail
      refine (bytes_b ((Src.of_row HOB.out).below HB24.out) HSD.out).mono ?_
      rintro e w5 ⟨rfl, hb5⟩
      have HB45 := Lib.hid hb5
      clear hb5
      go_wp2_with fail
      refine (bytes_b ((Src.of_row HOC.out).below (HB34.out.trans HB45.out)) (HSD.out.below HB45.out)).mono ?_
      rintro e w6 ⟨rfl, hb6⟩
      have HB46 : Hid (BW w4 w6) := HB45.out.trans hb6
      have HB16 : Hid (BW wq w6) := HB14.out.trans HB46.out
      clear hb6
      go_wp2_with fail
      refine (sum_any (HROWS.out.below HB16.out) HL.out HNL.out).mono ?_
      rintro e w7 ⟨rfl, hb7⟩
      rw [← HSM.out]
      have HB47 : Hid (BW w4 w7) := HB46.out.trans hb7
      have HB17 : Hid (BW wq w7) := HB14.out.trans HB47.out
      have HSUM7 := Lib.hid (refSum_any (HALLS.out.below HB17.out) HALEN.out)
      rw [HFL.out, ← HSM.out] at HSUM7
      clear hb7
      go_wp2_with fail
      refine HSUM7.out.mono ?_
      rintro e w8 ⟨rfl, rfl⟩
      go_wp2
      go_loopg [15] n (fun g s15 wx => ∃ i : Nat, i + g = n ∧ s15 = .int .i64 i ∧ ∃ nn, wx = w7.drewN nn)
      case atStart => exact ⟨0, by omega, rfl, 0, rfl⟩
      case round =>
        obtain ⟨j, hjg, rfl, nn, rfl⟩ := hrel
        have HJG := Lib.hid hjg
        cases gk with
        | succ g =>
          have hi : (j : Int) < (n : Int) := by omega
          have hdj : decide (j < n) = true := decide_eq_true (by omega)
          have hi0 : (0 : Int) ≤ (j : Int) := by omega
          have hil : j < ss.length := by have := HN.out; omega
          have hin : (j : Int) < (iN : Int) := by omega
          obtain ⟨x, hx⟩ : ∃ x, x = ss[j] := ⟨_, rfl⟩
          obtain ⟨b0, off, xo, xc, rfl, hc0, hsrc⟩ := (H1.out.below (HBX.out.trans HB17.out)).get (i := j) (s := x) (by rw [hx]; exact List.getElem?_eq_getElem hil)
          obtain ⟨ib, g2, gc2, _, ⟨_, _, ei⟩, hci, hlent⟩ := (HLBN.out.below HB17.out).get (i := j) (s := x) (by rw [hx]; exact List.getElem?_eq_getElem hil)
          cases ei
          have HXL : Hid ((x.length : Int) ≤ 140737488351232) := by unfold Hid; rw [hx]; exact HL.out _ (List.getElem_mem _)
          have HKEPT : Hid (∀ k, Calls Try.prog 15 #[.slice (some ⟨g2, 0, none⟩) x.length gc2, .slice xo x.length xc] (w7.drewN k) (DrewTrue (w7.drewN k))) := fun k => kept_any (hlent.keep rfl) (hsrc.drew k) HXL.out
          generalize x.length = sl at *
          clear hjg hx hil hsrc hlent
          go_wp2
          go_quiet ((go_at_call 15; refine (HKEPT.out _).mono ?_; rintro e w' ⟨he, m, rfl⟩; exact ⟨he, _, by rw [World.drewN_drewN, Nat.add_assoc]⟩))
          go_wp2
          go_roundg g
          case measure => omega
          case rel => exact ⟨j + 1, by have := HJG.out; omega, by first | rfl | simp, _, rfl⟩
        | zero =>
          have hge2 : (n : Int) ≤ (j : Int) := by omega
          have hdj : decide (j < n) = false := decide_eq_false (by omega)
          obtain ⟨w9, hw9⟩ : ∃ w9, w9 = w7.drewN nn := ⟨_, rfl⟩
          have HB29 : Hid (BW w2 w9) := by unfold Hid; rw [hw9]; exact bw_drew (HB24.out.trans HB47.out) nn
          have HB39 : Hid (BW w3 w9) := by unfold Hid; rw [hw9]; exact bw_drew (HB34.out.trans HB47.out) nn
          have HW9 : Hid (BW w w9) := by unfold Hid; rw [hw9]; exact bw_drew (HBX.out.trans HB17.out) nn
          have HB19 : Hid (BW wq w9) := by unfold Hid; rw [hw9]; exact bw_drew HB17.out nn
          rw [← hw9]
          clear hjg hw9
          obtain ⟨wa, hwa⟩ : ∃ wa, wa = w9.alloc (.cells #[.slice bo bn bc, .slice co cn cc] 23) := ⟨_, rfl⟩
          have hba : BW w9 wa := by rw [hwa]; exact bw_alloc _ _
          obtain ⟨V, nv, role, hV, hap, hrn, hrb, hnv⟩ := two_apart (W := wa) HOB.out HOC.out HB12.out.size HB23.out.size (fun b _ h2 => (HB29.out.trans hba).block b h2) (fun b _ h2 => (HB39.out.trans hba).block b h2)
          have HSV : Hid (Src wa (.slice (some ⟨w9.heap.size, 0, none⟩) 2 2) ((List.range 2).map V)) := by
            unfold Hid; rw [hV, hwa]; exact src_new w9 #[.slice bo bn bc, .slice co cn cc] 23 2 rfl (by decide)
          have hsa : w9.heap.size < wa.heap.size := by rw [hwa]; simp
          have HCALL := Lib.hid (AK.apart_some (B := wq.heap.size) HSV.out (by
            cases hr : role w9.heap.size with
            | none => rfl
            | some y =>
              have h9 := hrb w9.heap.size (by rw [hr]; simp)
              have := HB39.out.size; omega) hsa hap hrn (HB19.out.trans hba).size (fun k hk => by
            have h9 := bsS_len kind ss
            rcases hnv k hk with e | e <;> · rw [e]; omega) (by decide))
          have HWA : Hid (BW w wa) := HW9.out.trans hba
          rw [hwa] at HCALL
          clear hap hV hrn hrb hnv hba hsa
          go_wp2_with fail
          refine HCALL.out.mono ?_
          rintro e w10 ⟨rfl, hb10, _⟩
          rw [← hwa] at hb10
          have HW10 : Hid (BW w w10) := RowKit.Below.trans HWA.out (below_lessF hb10 HBX.out.size)
          clear hb10
          go_wp2_with fail
          refine (awake_any _).mono ?_
          rintro e w11 ⟨rfl, hb11⟩
          have HW11 : Hid (BW w w11) := HW10.out.trans hb11
          clear hb11
          go_wp2
          go_ret
          exact ⟨rfl, HW11.out⟩
end Go.Proofs.Ytaaeaaahllicbaa
