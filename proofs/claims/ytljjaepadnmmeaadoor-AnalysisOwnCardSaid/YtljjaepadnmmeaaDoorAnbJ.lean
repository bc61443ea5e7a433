/- Stage 6, the program: a text without its marks; shortened texts. -/
import Derived.Test.YtljjaepadnmmeaaDoorAnbI
namespace Go.Proofs.YtljjaepadnmmeaaDoor
open Go.RowKit Go.Maps Fld Ana Go.Shelf
attribute [local go_sem] Oper.semAt_some

theorem bare_step {l : List UInt8} (h : l ≠ []) : bare l = (if markI ((nextL l).1 : Int) = true then [] else l.take (nextL l).2) ++ bare (l.drop (nextL l).2) := by
  unfold bare
  rw [cuts_step h, List.filter_cons]
  by_cases hm : markI ((nextL l).1 : Int) = true
  · rw [if_neg (by simp [hm]), if_pos hm, List.nil_append]
  · rw [if_pos (by simpa using hm), if_neg hm, List.flatMap_cons]
theorem bare_nil : bare [] = [] := rfl
/-- where the taking out stands: the places that came, what is written, how far the text was copied and read -/
structure BareAt (l : List UInt8) (pre : List RX) (acc : List UInt8) (c k : Nat) : Prop where
  places : placesL l = vals pre ++ placesC k (cutsL (l.drop k))
  ck : c ≤ k
  kl : k ≤ l.length
  len : acc.length ≤ c
  all : acc ++ (l.drop c).take (k - c) ++ bare (l.drop k) = bare l
def BareI (l : List UInt8) (B b tb D n0 : Nat) (w0 : World) (pre : List RX) (W : World) : Prop :=
  ∃ acc c k, BareAt l pre acc c k ∧ Boxed W tb 9 (textV l) ∧ Bld B b acc W ∧ Boxed W D 3 (.int .i64 (c : Int)) ∧ RowKit.Below n0 w0 W ∧ B ≤ W.heap.size
theorem bareI_own {l : List UInt8} {B b tb D n0 N : Nat} {w0 : World} (h0 : n0 ≤ w0.heap.size) (hN : n0 ≤ N) : OwnFrom N (BareI l B b tb D n0 w0) := by
  rintro pre W W' row ⟨acc, c, k, hF, h1, h2, h3, h4, h5⟩ hg hr
  refine ⟨acc, c, k, hF, boxed_own1 h1 hg (fun r e => (hr r e).2), bld_kept h2 hg (fun r e => (hr r e).2), boxed_own1 h3 hg (fun r e => (hr r e).2), ?_, Nat.le_trans h5 hg.size⟩
  exact ownFrom_below (β := Unit) h0 hN () W W' row h4 hg hr
theorem bareAt_skip {l : List UInt8} {pre : List RX} {acc : List UInt8} {c k : Nat} (h : BareAt l pre acc c k) (hk : k < l.length) {x : RX} (hx : x.1 = (k, (nextL (l.drop k)).1)) (hl : markI ((nextL (l.drop k)).1 : Int) = false) :
    BareAt l (pre ++ [x]) acc c (k + (nextL (l.drop k)).2) := by
  have hne := drop_ne hk
  have hp := next_pos hne
  rw [List.length_drop] at hp
  refine ⟨?_, Nat.le_trans h.ck (Nat.le_add_right _ _), by omega, h.len, ?_⟩
  · rw [h.places, places_step hk]; unfold vals; rw [List.map_append, List.map_cons, hx]; simp
  · rw [← h.all, bare_step hne, if_neg (by simp [hl]), List.drop_drop]
    have e2 : (l.drop c).take (k + (nextL (l.drop k)).2 - c) = (l.drop c).take (k - c) ++ (l.drop k).take (nextL (l.drop k)).2 := by
      have hck := h.ck
      rw [show k + (nextL (l.drop k)).2 - c = (k - c) + (nextL (l.drop k)).2 by omega, List.take_add, List.drop_drop, show c + (k - c) = k by omega]
    rw [e2]; simp only [List.append_assoc]
theorem bareAt_mark {l : List UInt8} {pre : List RX} {acc : List UInt8} {c k : Nat} (h : BareAt l pre acc c k) (hk : k < l.length) {x : RX} (hx : x.1 = (k, (nextL (l.drop k)).1)) (hl : markI ((nextL (l.drop k)).1 : Int) = true) :
    BareAt l (pre ++ [x]) (acc ++ (l.drop c).take (k - c)) (k + (nextL (l.drop k)).2) (k + (nextL (l.drop k)).2) := by
  have hne := drop_ne hk
  have hp := next_pos hne
  rw [List.length_drop] at hp
  refine ⟨?_, Nat.le_refl _, by omega, ?_, ?_⟩
  · rw [h.places, places_step hk]; unfold vals; rw [List.map_append, List.map_cons, hx]; simp
  · have h1 := h.ck; have h2 := h.len
    rw [List.length_append, List.length_take, List.length_drop]; omega
  · rw [← h.all, bare_step hne, if_pos hl, List.drop_drop, Nat.sub_self, List.take_zero, List.append_nil, List.nil_append]
theorem bareAt_next {l : List UInt8} {pre : List RX} {acc : List UInt8} {c k : Nat} (h : BareAt l pre acc c k) {x : RX} (hx : vals (pre ++ [x]) <+: placesL l) : k < l.length ∧ x.1 = (k, (nextL (l.drop k)).1) := by
  rw [h.places] at hx
  unfold vals at hx
  rw [List.map_append, List.prefix_append_right_inj] at hx
  by_cases hk : k < l.length
  · rw [places_step hk, List.map_cons, List.map_nil, List.cons_prefix_cons] at hx
    exact ⟨hk, hx.1⟩
  · rw [List.drop_eq_nil_of_le (by omega), cuts_nil] at hx
    simp [placesC] at hx
theorem bareAt_end {l : List UInt8} {pre : List RX} {acc : List UInt8} {c k : Nat} (h : BareAt l pre acc c k) (hx : vals pre = placesL l) : acc ++ l.drop c = bare l := by
  have hk : k = l.length := by
    by_cases hk : k < l.length
    · have := h.places
      rw [places_step hk, hx] at this
      have := congrArg List.length this
      simp at this
    · have := h.kl; omega
  have := h.all
  rw [hk, List.drop_length, bare_nil, List.append_nil, List.take_of_length_le (by rw [List.length_drop]; omega)] at this
  exact this
theorem bld_new {w : World} {B b : Nat} (hb : w.heap[b]? = some (.cells #[.pointer none, .slice none 0 0] 92 (0, 0))) (hB : B ≤ b) : Bld B b [] w :=
  .inl (Lib.BuilderAtF.of ⟨hB, _, hb, World.ownsRow_nil _ _ _ _, by simp [Value.ownBlock]⟩)
set_option maxRecDepth 100000 in
set_option maxHeartbeats 4000000 in
theorem unmark_any (l : List UInt8) (hl : (l.length : Int) ≤ 1000000000000) (w : World) (hN : NextOk w) : Calls Tryd.prog 66 #[textV l] w (TextPost w (bare l)) := by
  obtain ⟨tx, htx⟩ : ∃ tx, tx = ByteArray.mk l.toArray := ⟨_, rfl⟩
  have hts : tx.size = l.length := by rw [htx]; exact text_size l
  have hsz : (tx.size : Int) ≤ 1000000000000 := by omega
  have HIN := Lib.hid (fun W => runes_in l W)
  have HST := Lib.hid (fun (m Bn : Nat) (hm : 1 ≤ m) (W : World) (hB : Bn < W.heap.size) (hc : W.cell? ⟨Bn, 0, none⟩ = some (textV l)) => runes_all l (by omega) m Bn hm W hB hc)
  have HBO := Lib.hid (fun (W : World) (hW : BW w W) (k : Nat) (hk : k ≤ l.length) => behind_one l (by omega) k hk W (hN.bw hW))
  have HTX := Lib.hid htx
  have HTS := Lib.hid hts
  have hTv : textV l = .string tx := by rw [htx]; rfl
  have HTV := Lib.hid hTv
  have HSZ := Lib.hid hsz
  rw [hTv] at HIN HST HBO ⊢
  refine (callsIn_wide (n := 5)).1 ?_
  refine callsIn_of_wp_marks Tryd.func66 rfl trivial ?_ rfl
  simp only [Tryd.ntmps66, List.size_toArray, List.length_cons, List.length_nil, Nat.reduceAdd, Nat.reduceSub, Array.replicate_succ, Array.replicate_zero, List.push_toArray, List.append_toArray, List.nil_append, List.cons_append]
  clear htx hTv hl hts hN
  obtain ⟨D, hD⟩ : ∃ D, D = w.heap.size + 2 := ⟨_, rfl⟩
  obtain ⟨w3, hw3⟩ : ∃ w3, w3 = ((w.alloc (.cells #[.string tx] 9)).alloc (.cells #[.pointer none, .slice none 0 0] 92)).alloc (.cells #[.int .i64 0] 3) := ⟨_, rfl⟩
  have HT3 : Hid (Boxed w3 w.heap.size 9 (.string tx)) := by unfold Hid; rw [hw3]; exact ((Boxed.new w 9 _).alloc _).alloc _
  have HB3 : Hid (BW w w3) := by unfold Hid; rw [hw3]; exact ((bw_alloc w _).alloc _).alloc _
  have HS3 : Hid (w3.heap.size = D + 1) := by unfold Hid; rw [hw3, hD]; simp
  have HD3 : Hid (Boxed w3 D 3 (.int .i64 0)) := by
    unfold Hid; rw [hw3, hD]
    have := Boxed.new ((w.alloc (.cells #[.string tx] 9)).alloc (.cells #[.pointer none, .slice none 0 0] 92)) 3 (.int .i64 0)
    rw [World.size_alloc, World.size_alloc] at this; exact this
  have HBL3 : Hid (Bld (w.heap.size + 1) (w.heap.size + 1) [] w3) := by
    unfold Hid
    refine bld_new ?_ (Nat.le_refl _)
    have h1 := World.alloc_heap_new (w.alloc (.cells #[.string tx] 9)) (.cells #[.pointer none, .slice none 0 0] 92)
    rw [World.size_alloc] at h1
    rw [hw3]
    exact (Below.heap_alloc _ _ _ (by simp)).trans h1
  have HDD : Hid (w.heap.size + 2 ≤ D) := by unfold Hid; omega
  have ct3 := HT3.out.cell
  rw [hw3] at ct3
  gi_wp2
  rw [← hw3, show w.heap.size + 1 + 1 = D by omega]
  clear ct3 hw3 hD
  refine ⟨trivial, ?_⟩
  refine (callsIn_wide.2 (HIN.out _)).mono ?_
  rintro e w4 ⟨rfl, hw4⟩
  have HT4 : Hid (Boxed w4 w.heap.size 9 (.string tx)) := by unfold Hid; rw [← hw4]; exact HT3.out.alloc _
  have HBL4 : Hid (Bld (w.heap.size + 1) (w.heap.size + 1) [] w4) := by unfold Hid; rw [← hw4]; exact bld_kept HBL3.out (World.grownBy_alloc w3 _ none) (fun r e => by cases e)
  have HD4 : Hid (Boxed w4 D 3 (.int .i64 0)) := by unfold Hid; rw [← hw4]; exact HD3.out.alloc _
  have HB4 : Hid (BW w w4) := by unfold Hid; rw [← hw4]; exact HB3.out.alloc _
  have HS4 : Hid (w4.heap.size = D + 2) := by unfold Hid; rw [← hw4, World.size_alloc, HS3.out]
  have HR4 : Hid (Boxed w4 (D + 1) 9 (.string tx)) := by
    unfold Hid; rw [← hw4, ← HS3.out]; exact Boxed.new w3 9 _
  have hs3 := HS3.out
  rw [hs3]
  clear hw4 hs3 HIN HT3 HBL3 HD3 HB3 HS3
  have hnn := func_is_not_nil w4 Tryd.underlying73 ⟨_, _, _, rfl⟩ (.func 74) #[] #[.pointer (some ⟨D + 1, 0, none⟩)]
  gi_wp2
  refine range_all (S := fun xs => vals xs = placesL l) (Tr := fun pre => vals pre <+: placesL l) (j1 := 5) (j2 := 6) (by decide) (gf := 74) (lb := #[.pointer (some ⟨D + 1, 0, none⟩)]) rfl (enters_of Tryd.func74 (by kernel_rfl) rfl)
    (HST.out (5 - 1) (D + 1) (by decide) w4 (by have := HS4.out; omega) HR4.out.cell)
    (BareI l (w.heap.size + 1) (w.heap.size + 1) w.heap.size D w.heap.size w) (bareI_own (Nat.le_refl _) HB4.out.size) ?start ?assign ?body ?done
  case start => exact ⟨[], 0, 0, ⟨rfl, Nat.le_refl _, Nat.zero_le _, Nat.le_refl _, rfl⟩, by rw [HTV.out]; exact HT4.out, HBL4.out, HD4.out, HB4.out, by have := HDD.out; have := HS4.out; omega⟩
  case assign =>
    intro l' x W K hK
    gi_wp2
    simpa [fr4, fr2] using hK
  case body =>
    rintro l' pre x W ⟨acc, c, k, hF, hT, hB, hD, hbel, hBs⟩ htr
    obtain ⟨hk, hx⟩ := bareAt_next hF htr
    have hsk := fun h => bareAt_skip hF hk hx h
    have hlo := fun h => bareAt_mark hF hk hx h
    have hpl := piece_le (drop_ne hk)
    have hnp := next_pos (drop_ne hk)
    rw [List.length_drop] at hnp
    have hna : nextAt l (k : Int) = nextL (l.drop k) := by unfold nextAt; rw [if_neg (by omega), Int.toNat_natCast]
    obtain ⟨⟨x1, x2⟩, hxb⟩ := x
    simp only [Prod.mk.injEq] at hx
    obtain ⟨rfl, rfl⟩ := hx
    obtain ⟨r, hr⟩ : ∃ r, r = (nextL (l.drop x1)).1 := ⟨_, rfl⟩
    obtain ⟨q, hq⟩ : ∃ q, q = (nextL (l.drop x1)).2 := ⟨_, rfl⟩
    obtain ⟨X, hX⟩ : ∃ X : RX, X = ⟨(x1, (nextL (l.drop x1)).1), hxb⟩ := ⟨_, rfl⟩
    rw [← hX] at hsk hlo htr ⊢
    have hX1 : X.1.1 = x1 := by rw [hX]
    have hX2 : X.1.2 = r := by rw [hX, hr]
    rw [← hr] at hsk hlo hpl
    rw [← hq] at hsk hlo hnp
    have HBO1 : Hid (∀ (Y : World), BW w Y → Calls Tryd.prog 65 #[.string tx, .int .i64 (x1 : Int), .int .i64 1] Y fun e w' => e = .returned (.int .i64 ((x1 + q : Nat) : Int)) ∧ BW Y w') := fun Y hY => by
      have h := HBO.out Y hY x1 (by omega)
      rw [hna, ← hq] at h; exact h
    have HMK := Lib.hid (fun W => mark_any (r : Int) (by omega) (by omega) W)
    have HF := Lib.hid hF
    have hkl := hF.kl
    have hck := hF.ck
    have hal := hF.len
    have HSK := Lib.hid hsk
    have HLO := Lib.hid hlo
    have HT := Lib.hid hT; have HB := Lib.hid hB; have HD := Lib.hid hD; have HBEL := Lib.hid hbel; have HBS := Lib.hid hBs
    have hDD := HDD.out
    simp only [fr4, fr2, hX1, hX2, List.setIfInBounds_toArray, List.set_cons_zero, List.set_cons_succ]
    clear hF hsk hlo hr hq hX hX1 hX2 htr hxb hT hB hD hbel hBs hna
    obtain ⟨mk, hmk⟩ : ∃ mk, markI (r : Int) = mk := ⟨_, rfl⟩
    rw [hmk] at HMK HSK HLO
    clear hmk
    cases mk with
    | false =>
      gi_wp2
      refine ⟨trivial, ?_⟩
      refine (CallsIn.inRound l' (callsIn_wide.2 (HMK.out _))).mono ?_
      rintro e W2 ⟨rfl, hq2⟩
      have HQ := Lib.hid hq2
      clear hq2
      gi_wp2
      refine ⟨(KeepsOthers.of_bw HQ.out).from _, KpB.bw (B := 0) HQ.out, acc, c, x1 + q, HSK.out (by first | rfl | trivial), boxed_on HT.out HQ.out, bld_kept HB.out (bw_grows HQ.out) (fun r e => by cases e), boxed_on HD.out HQ.out, RowKit.Below.trans HBEL.out (HQ.out.mono HBEL.out.size), Nat.le_trans HBS.out HQ.out.size⟩
    | true =>
      have hr3 := HLO.out (by first | rfl | trivial)
      have HNX := Lib.hid hr3
      clear hr3
      gi_wp2
      refine ⟨trivial, ?_⟩
      refine (CallsIn.inRound l' (callsIn_wide.2 (HMK.out _))).mono ?_
      rintro e W2 ⟨rfl, hq2⟩
      have hB2 := bld_kept HB.out (bw_grows hq2) (fun r e => by cases e)
      have hT2 : Boxed W2 w.heap.size 9 (textV l) := boxed_on HT.out hq2
      have hD2 : Boxed W2 D 3 (.int .i64 (c : Int)) := boxed_on HD.out hq2
      have hS2 : w.heap.size + 1 ≤ W2.heap.size := Nat.le_trans HBS.out hq2.size
      have HQ := Lib.hid hq2
      have ct := hT2.cell
      rw [HTV.out] at ct
      have cd := hD2.cell
      obtain ⟨pc, hpc⟩ : ∃ pc, pc = (l.drop c).take (x1 - c) := ⟨_, rfl⟩
      have hex : tx.extract c x1 = ⟨pc.toArray⟩ := by rw [hpc]; exact extract_text HTX.out c x1
      have HWS := Lib.hid (writeString_any (w.heap.size + 1) (w.heap.size + 1) acc pc W2 hB2 (by rw [hpc, List.length_take, List.length_drop]; have := HTS.out; omega) hS2)
      rw [← hex] at HWS
      have HT2 := Lib.hid hT2; have HD2 := Lib.hid hD2; have HBK := Lib.hid (bld_blk hB2)
      have HPC := Lib.hid hpc
      have hts := HTS.out
      have s1 : (c : Int) ≤ (x1 : Int) := by omega
      have s2 : (x1 : Int) ≤ (tx.size : Int) := by omega
      have s3 : 0 ≤ (c : Int) := by omega
      have s4 : 0 ≤ (x1 : Int) := by omega
      clear hq2 hB2 hT2 hD2 hS2 hpc hex hts
      gi_wp2
      refine ⟨trivial, ?_⟩
      refine (CallsIn.inRound l' (callsIn_wide.2 HWS.out)).mono ?_
      rintro e W3 ⟨rfl, hB3, hbe3, ho3⟩
      have hD3 : Boxed W3 D 3 (.int .i64 (c : Int)) := box_oth ho3 HD2.out (by have := HDD.out; omega)
      have hT3 : Boxed W3 w.heap.size 9 (textV l) := (hbe3.block w.heap.size (Nat.lt_succ_self _)).trans HT2.out
      have HK3 := Lib.hid (KeepsOthers.of_oth ho3 hbe3.size HBK.out)
      have hS3 : w.heap.size + 1 ≤ W3.heap.size := Nat.le_trans (Nat.le_trans HBS.out HQ.out.size) hbe3.size
      have HD3 := Lib.hid hD3; have HT3 := Lib.hid hT3; have HS3 := Lib.hid hS3; have HBE3 := Lib.hid hbe3; have HB3 := Lib.hid hB3
      have HBW3 : Hid (BW w W3) := RowKit.Below.trans HBEL.out (RowKit.Below.trans (HQ.out.mono HBEL.out.size) (hbe3.mono (Nat.le_succ _)))
      have HBO2 := Lib.hid (HBO1.out W3 HBW3.out)
      have ct3 := hT3.cell
      rw [HTV.out] at ct3
      clear hD3 hT3 hS3 hbe3 ho3 hB3 ct cd
      gi_wp2
      refine ⟨trivial, ?_⟩
      refine (CallsIn.inRound l' (callsIn_wide.2 HBO2.out)).mono ?_
      rintro e W4 ⟨rfl, hq4⟩
      have hD4 : Boxed W4 D 3 (.int .i64 (c : Int)) := boxed_on HD3.out hq4
      have HD4 := Lib.hid hD4; have HQ4 := Lib.hid hq4
      have cd := hD4.cell
      have fd := hD4.frozen
      clear hD4 hq4 ct3
      gi_wp2
      have HKA : Hid (KeepsOthers W W4) := ((KeepsOthers.of_bw HQ.out).trans HK3.out).trans (KeepsOthers.of_bw HQ4.out)
      refine ⟨(HKA.out.trans (KeepsOthers.setCell _ _ _)).from _, HKA.out.walks.trans (KeepsWalks.setCell _ _ _), acc ++ pc, x1 + q, x1 + q, ?_, (boxed_on HT3.out HQ4.out).other (by omega) _, bld_set (bld_kept HB3.out (bw_grows HQ4.out) (fun r e => by cases e)) HD4.out (by omega) _, HD4.out.set _, ?_, ?_⟩
      · have := HNX.out; rw [← HPC.out] at this; exact this
      · refine RowKit.Below.setCell (p := ⟨D, 0, none⟩) ?_ (by show w.heap.size ≤ D; omega) _
        exact HBW3.out.trans HQ4.out
      · have h1 := HS3.out; have h2 := HQ4.out.size; simp [World.setCell]; omega
  case done =>
    rintro D' ys W hD' hys ⟨acc, c, k, hF, hT, hB, hD, hbel, hBs⟩ hK
    have hend := bareAt_end hF hys
    have hcl : c ≤ l.length := Nat.le_trans hF.ck hF.kl
    have hal := hF.len
    have ct := hT.cell
    rw [HTV.out] at ct
    have cd := hD.cell
    obtain ⟨pc, hpc⟩ : ∃ pc, pc = l.drop c := ⟨_, rfl⟩
    have hts := HTS.out
    have hex : tx.extract c tx.size = ⟨pc.toArray⟩ := by
      rw [extract_text HTX.out c tx.size, hpc, List.take_of_length_le (by rw [List.length_drop]; omega)]
    have HWS := Lib.hid (writeString_any (w.heap.size + 1) (w.heap.size + 1) acc pc W hB (by rw [hpc, List.length_drop]; have := HSZ.out; omega) hBs)
    rw [← hex] at HWS
    have HBK := Lib.hid (bld_blk hB)
    have HBEL := Lib.hid hbel; have HBS := Lib.hid hBs; have HKD := Lib.hid hK; have HEND : Hid (acc ++ pc = bare l) := by unfold Hid; rw [hpc]; exact hend
    have s1 : (c : Int) ≤ (tx.size : Int) := by omega
    have s3 : 0 ≤ (c : Int) := by omega
    clear hend hpc hex hF hT hB hD hbel hBs hK hts hys
    gi_wp2
    refine ⟨trivial, ?_⟩
    refine (callsIn_wide.2 HWS.out).mono ?_
    rintro e W3 ⟨rfl, hB3, hbe3, ho3⟩
    have hS3 : w.heap.size + 1 ≤ W3.heap.size := Nat.le_trans HBS.out hbe3.size
    have hK3 : KeepsOthers W W3 := KeepsOthers.of_oth ho3 hbe3.size HBK.out
    have HBB3 := Lib.hid (bld_blk hB3)
    rw [HEND.out] at hB3
    have HGS := Lib.hid (bString_any (w.heap.size + 1) (w.heap.size + 1) (bare l) W3 hB3 hS3)
    have HKD3 : Hid (W3.heap[D']? = some (.deferred (some []))) := hK3.same D' _ HKD.out rfl
    have HBEL3 := Lib.hid (RowKit.Below.trans HBEL.out (hbe3.mono (Nat.le_succ _)))
    unfold textV at HGS
    clear hS3 hK3 hB3 hbe3 ho3
    gi_wp2
    refine ⟨trivial, ?_⟩
    refine (callsIn_wide.2 HGS.out).mono ?_
    rintro e W4 ⟨rfl, hbe4, ho4⟩
    have hK4 : W4.heap[D']? = some (.deferred (some [])) := (KeepsOthers.of_oth ho4 hbe4.size HBB3.out).same D' _ HKD3.out rfl
    have HBEL4 := Lib.hid (RowKit.Below.trans HBEL3.out (hbe4.mono (Nat.le_succ _)))
    clear hbe4 ho4
    gi_wp2
    refine ⟨by simp, .inl ⟨_, _, rfl, run_takeDeferred hK4, ?_⟩⟩
    refine ⟨.string ⟨(bare l).toArray⟩, by simp [results, Tryd.results66, go_sem], rfl, ?_⟩
    exact RowKit.Below.trans HBEL4.out (belowK_b (w := w) (Nat.le_refl _) _ D' _ _ (by have := HS4.out; have := HDD.out; omega) hK4 rfl rfl)
end Go.Proofs.YtljjaepadnmmeaaDoor
