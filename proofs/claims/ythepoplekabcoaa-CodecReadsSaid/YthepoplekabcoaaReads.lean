/- CodecReads: the walk. -/
import Derived.Test.YthepoplekabcoaaOneB
import Derived.Test.YthepoplekabcoaaOneC
import Derived.Test.YthepoplekabcoaaOneD
import Derived.Test.YthepoplekabcoaaOneF
import Derived.Test.YthepoplekabcoaaKitB
namespace Go.Proofs.Ythepoplekabcoaa
open Go.RowKit Go.Maps

theorem one_pair {w : World} {r c s : Nat} {v : Value} {bs : List UInt8} {p : Nat} {e : Int} (h : Pair w r c s v bs p e) (k n : Int) (hm1 : -9223372036854775808 ≤ n) (hm2 : n ≤ 9223372036854775807) :
    Calls Try.prog 21 #[.pointer (some ⟨r, 0, none⟩), .pointer (some ⟨s, 0, none⟩), .agg #[.int .i64 k, .int .i64 n]] w (OnePost w r c s v bs e) := by
  rcases h.ee with rfl | rfl
  · by_cases h0 : k = 0
    · subst h0; exact one_0_ok h n hm1 hm2
    by_cases h1 : k = 1
    · subst h1; exact one_1_ok h n hm1 hm2
    by_cases h2 : k = 2
    · subst h2; exact one_2_ok h n hm1 hm2
    by_cases h3 : k = 3
    · subst h3; exact one_3_ok h n hm1 hm2
    by_cases h4 : k = 4
    · subst h4; exact one_4_ok h n hm1 hm2
    by_cases h5 : k = 5
    · subst h5; exact one_5_ok h n
    exact one_other h k n h0 h1 h2 h3 h4 h5
  · by_cases h0 : k = 0
    · subst h0; exact one_0_bad h n
    by_cases h1 : k = 1
    · subst h1; exact one_1_bad h n
    by_cases h2 : k = 2
    · subst h2; exact one_2_bad h n
    by_cases h3 : k = 3
    · subst h3; exact one_3_bad h n
    by_cases h4 : k = 4
    · subst h4; exact one_4_bad h n
    by_cases h5 : k = 5
    · subst h5; exact one_5_ok h n
    exact one_other h k n h0 h1 h2 h3 h4 h5
theorem one_nilp {w : World} (k n : Int) : Calls Try.prog 21 #[.pointer none, .pointer none, .agg #[.int .i64 k, .int .i64 n]] w (TruePost w) := by
  by_cases h0 : k = 0
  · subst h0; exact one_0_nil n
  by_cases h1 : k = 1
  · subst h1; exact one_1_nil n
  by_cases h2 : k = 2
  · subst h2; exact one_2_nil n
  by_cases h3 : k = 3
  · subst h3; exact one_3_nil n
  by_cases h4 : k = 4
  · subst h4; exact one_4_nil n
  by_cases h5 : k = 5
  · subst h5; exact one_5_nil n
  exact one_other_nil k n h0 h1 h2 h3 h4 h5

/-- a row of calls -/
def Cls (W : World) (v : Value) (l : List (Int × Int)) : Prop :=
  (∃ ao cap, v = .slice ao 0 cap ∧ l = []) ∨ ∃ b off cap, v = .slice (some ⟨b, off, none⟩) l.length cap ∧ b < W.heap.size ∧ (l.length : Int) ≤ 140737488351232 ∧
    ∀ i (h : i < l.length), (-9223372036854775808 ≤ l[i].2 ∧ l[i].2 ≤ 9223372036854775807) ∧ W.cell? ⟨b, off + i * 2, none⟩ = some (.int .i64 l[i].1) ∧ W.cell? ⟨b, off + i * 2 + 1, none⟩ = some (.int .i64 l[i].2)
theorem Cls.len {W : World} {v : Value} {l : List (Int × Int)} (h : Cls W v l) : ∃ ao cap, v = .slice ao l.length cap := by
  rcases h with ⟨ao, cap, h, h2⟩ | ⟨b, off, cap, hv, _⟩
  · rw [h2]; exact ⟨_, _, h⟩
  · exact ⟨_, _, hv⟩

theorem bw_rs {w W W' : World} {r s : Nat} (h : BW w W) (m : Moves (RS r s) W W') (hr : w.heap.size ≤ r) (hs : w.heap.size ≤ s) : BW w W' := RowKit.Below.trans h (Moves.below m (fun k e => by rcases e with e | e <;> omega) h.size)

/-- both readers, new -/
theorem pair_new {w w2 : World} {r c : Nat} {v : Value} {bs : List UInt8} (h : Rd w2 r c bs 0) (hr : w.heap.size ≤ r) (hb : BW w w2) (hs : Src w v (bs.map bV)) :
    Pair (w2.alloc (.cells #[v, .int .i64 0, .int .i64 0] 41)) r c w2.heap.size v bs 0 0 := by
  have hlt : bs ≠ [] → ∀ a n k, v = .slice (some a) n k → a.block < w.heap.size := by
    intro hne a n k e
    rcases hs with ⟨_, _, _, hx, _⟩ | ⟨b, off, cap, hv', _, _, h3, _⟩
    · exact absurd (by simpa using hx) hne
    · rw [hv'] at e; cases e; exact h3
  have hsz := hb.size
  have hrl := h.ltr
  refine ⟨by rw [List.drop_zero]; exact h.below (bw_alloc _ _), ⟨heap_new _ _, hs.below (hb.trans (bw_alloc _ _)), Nat.zero_le _, h.len, fun hne a n k e => by have := hlt hne a n k e; omega⟩, by omega, by have := h.lt; omega, fun hne a n k e => by have := hlt hne a n k e; omega, .inl rfl⟩

set_option maxHeartbeats 8000000 in
set_option maxRecDepth 100000 in
theorem reads_any {w : World} {v cv : Value} {bs : List UInt8} {cs : List (Int × Int)} (h : Src w v (bs.map bV)) (hn : (bs.length : Int) ≤ 140737488351232) (hcs : Cls w cv cs) : Calls Try.prog 4 #[v, cv] w (TruePost w) := by
  obtain ⟨ao, cap, rfl⟩ := h.len
  rw [List.length_map] at h ⊢
  obtain ⟨co, cc, rfl⟩ := hcs.len
  have H := Lib.hid h
  have HLE := Lib.hid hn
  have HCS := Lib.hid hcs
  obtain ⟨n, hln⟩ : ∃ n, bs.length = n := ⟨_, rfl⟩
  have HLN := Lib.hid hln
  obtain ⟨N, hN⟩ : ∃ N, cs.length = N := ⟨_, rfl⟩
  have HN := Lib.hid hN
  have H' : Hid (Src w (.slice ao n cap) (bs.map bV)) := by have := h; rw [hln] at this; exact this
  have hNb : (N : Int) ≤ 140737488351232 := by
    rcases hcs with ⟨_, _, h1, h2⟩ | ⟨_, _, _, _, _, h3, _⟩
    · rw [← hN, h2]; decide
    · rw [← hN]; exact h3
  rw [hN]
  rw [hln] at hn ⊢
  clear h hln hN hcs
  go_enter Try.func4, Try.ntmps4
  go_wp2_with fail
  refine (lent_any H'.out HLE.out).mono ?_
  rintro e w1 ⟨g, gc, rfl, hl, hb⟩
  have HL1 := Lib.hid hl; have HB1 := Lib.hid hb
  obtain ⟨_, hgc, hgb, hgl⟩ := hl.mark
  have HG := Lib.hid hgb; have HGL := Lib.hid hgl
  have hgn : n + 1 ≤ gc := by rw [← HLN.out]; exact hgc
  rw [HLN.out]
  have HLS : Hid (Src w1 (.slice (some ⟨g, 0, none⟩) n gc) (bs.map bV)) := by have := HL1.out.src; rw [HLN.out] at this; exact this
  clear hl hb hgb hgl hgc
  go_wp2_with fail
  refine (new_any HLS.out HLE.out).mono ?_
  rintro e w2 ⟨r, c, rfl, hr, hc, hrd, hb⟩
  have HRD := Lib.hid hrd; have HB2 := Lib.hid (HB1.out.trans hb)
  have HR : Hid (w.heap.size ≤ r) := Nat.le_trans HB1.out.size hr
  have HGR : Hid (g ≠ r ∧ g ≠ c) := ⟨by have := HGL.out; omega, by have := HGL.out; omega⟩
  have HL2 := Lib.hid (HL1.out.keep (hb.block g HGL.out))
  clear hrd hb hr hc HL1
  have HP0 := Lib.hid (pair_new HRD.out HR.out HB2.out H'.out)
  have HSS : Hid (w.heap.size ≤ w2.heap.size ∧ g < w2.heap.size) := ⟨HB2.out.size, by have := HL2.out.mark; exact this.2.2.2⟩
  have HB3 : Hid (BW w (w2.alloc (.cells #[.slice ao n cap, .int .i64 0, .int .i64 0] 41))) := HB2.out.alloc _
  have HKP := Lib.hid (kept_any (HL2.out.keep (w' := w2.alloc (.cells #[.slice ao n cap, .int .i64 0, .int .i64 0] 41)) (Below.heap_alloc _ _ _ HSS.out.2)) (H'.out.below HB3.out) HLE.out)
  rw [HLN.out] at HKP
  unfold ptr
  go_wp2_with fail
  refine HKP.out.mono ?_
  rintro e w3 ⟨rfl, nn, rfl⟩
  obtain ⟨s, hs⟩ : ∃ s, w2.heap.size = s := ⟨_, rfl⟩
  generalize hW3 : (w2.alloc (.cells #[.slice ao n cap, .int .i64 0, .int .i64 0] 41)).drewN nn = w3
  have HP3 : Hid (Pair w3 r c s (.slice ao n cap) bs 0 0) := by unfold Hid; rw [← hW3, ← hs]; exact HP0.out.below (drewN_below _ _)
  have HB4 : Hid (BW w w3) := by unfold Hid; rw [← hW3]; exact HB3.out.trans (drewN_below _ _)
  have HL4 : Hid (Lent w3 w.heap.size g gc bs) := by unfold Hid; rw [← hW3]; exact (HL2.out.keep (w' := w2.alloc (.cells #[.slice ao n cap, .int .i64 0, .int .i64 0] 41)) (Below.heap_alloc _ _ _ HSS.out.2)).keep rfl
  have HS4 : Hid (w.heap.size ≤ s ∧ g < s) := by unfold Hid; rw [← hs]; exact HSS.out
  clear hW3 HKP HP0 HB3 HL2 HRD HSS HB1 HB2 HLS
  rw [hs]
  clear hs
  go_wp2
  go_loopw [10] (fun i wr => ∃ k : Nat, k ≤ n ∧ i = .int .i64 (k : Int) ∧ (∃ zs : List UInt8, wr.ownsRow w.heap.size 5 1 (.slice (some ⟨g, 0, none⟩) (n + 1) gc) (n + 1) (zs.map bV)) ∧ Pair wr r c s (.slice ao n cap) bs 0 0 ∧ BW w wr) (fun i _ => n - (intOf i).toNat)
  case atStart => exact ⟨0, Nat.zero_le _, rfl, ⟨bs ++ [201], by have := HL4.out; unfold Lent at this; rw [HLN.out] at this; exact this⟩, HP3.out, HB4.out⟩
  case round =>
    obtain ⟨k, hk, rfl, ⟨zs, hz⟩, hp, hb⟩ := hrel
    have HZ := Lib.hid hz; have HP := Lib.hid hp; have HB := Lib.hid hb
    clear hz hp hb
    by_cases hlt : k < n
    · obtain ⟨g', hxo, _, ⟨x, hx0, hx1, hcx⟩, hfx, _⟩ := row_set_cell HZ.out (i := k) (by omega) 0 (by decide) (by decide)
      cases hxo
      have HS : Hid (∀ y : Int, 0 ≤ y → y < 256 → (wr.setCell ⟨g, k, none⟩ (.int .u8 y)).ownsRow w.heap.size 5 1 (.slice (some ⟨g, 0, none⟩) (n + 1) gc) (n + 1) ((zs.set k (UInt8.ofNat y.toNat)).map bV)) := fun y h0 h1 => by
        obtain ⟨g', e1, _, _, _, h9⟩ := row_set_cell HZ.out (i := k) (by omega) y h0 h1
        cases e1
        exact h9
      have hki : (0 : Int) ≤ (k : Int) := by omega
      have hki2 : (k : Int) < (n : Int) := by omega
      go_wp2
      go_roundw
      case rel =>
        have hms : ∀ y, Moves (fun b => b = g) wr (wr.setCell ⟨g, k, none⟩ y) := fun y => Moves.setCell (F := fun b => b = g) (Moves.refl _ _) (fun _ => rfl) _
        refine ⟨k + 1, by omega, by go_num, ⟨_, HS.out _ (by omega) (by omega)⟩, HP.out.moved (hms _) (fun e => HGR.out.1 e.symm) (fun e => HGR.out.2 e.symm) (by have := HS4.out.2; omega) (fun hne a n' k' e => by
          have h1 : a.block < w.heap.size := by
            rcases H'.out with ⟨_, _, _, hx, _⟩ | ⟨b, off, cap, hv', _, _, h3, _⟩
            · exact absurd (by simpa using hx) hne
            · rw [hv'] at e; cases e; exact h3
          have := HG.out; omega), bw_moves HB.out (hms _) HG.out⟩
      case measure => simp [intOf]; omega
    · clear HZ
      go_wp2
      go_loopw [11] (fun i wr => ∃ k : Nat, k ≤ N ∧ i = .int .i64 (k : Int) ∧ ∃ p e, Pair wr r c s (.slice ao n cap) bs p e ∧ BW w wr) (fun i _ => N - (intOf i).toNat)
      case atStart => exact ⟨0, Nat.zero_le _, rfl, 0, 0, HP.out, HB.out⟩
      case round =>
        clear hlt hk HP HB
        obtain ⟨k, hk, rfl, p, e, hp, hb⟩ := hrel
        have HP := Lib.hid hp; have HB := Lib.hid hb
        clear hp hb
        by_cases hlt : k < N
        · have hcl : ∃ cb cof, co = some ⟨cb, cof, none⟩ ∧ cb < w.heap.size ∧ ∃ kk nn : Int, (-9223372036854775808 ≤ nn ∧ nn ≤ 9223372036854775807) ∧ w.cell? ⟨cb, cof + k * 2, none⟩ = some (.int .i64 kk) ∧ w.cell? ⟨cb, cof + k * 2 + 1, none⟩ = some (.int .i64 nn) := by
            rcases HCS.out with ⟨_, _, h1, h2⟩ | ⟨cb, cof, cap', hv, h1, _, h3⟩
            · have := HN.out; rw [h2] at this; simp at this; omega
            · injection hv with e1 _ _
              obtain ⟨a1, a2, a3⟩ := h3 k (by rw [HN.out]; exact hlt)
              exact ⟨cb, cof, e1, h1, _, _, a1, a2, a3⟩
          obtain ⟨cb, cof, rfl, hcb, kk, nk, hnk, hk0, hk1⟩ := hcl
          have HK : Hid (∀ W, BW w W → W.cell? ⟨cb, cof + k * 2, none⟩ = some (.int .i64 kk) ∧ W.cell? ⟨cb, cof + k * 2 + 1, none⟩ = some (.int .i64 nk)) := fun W hW => ⟨(World.cell?_of_block (w := w) (a := ⟨cb, cof + k * 2, none⟩) (hW.block cb hcb)).trans hk0, (World.cell?_of_block (w := w) (a := ⟨cb, cof + k * 2 + 1, none⟩) (hW.block cb hcb)).trans hk1⟩
          obtain ⟨d0, d1⟩ := HK.out wr HB.out
          obtain ⟨vv, g1, _, _⟩ := HP.out.rd.ex
          have G1 := Lib.hid g1
          have HNK := Lib.hid hnk
          have HEE := Lib.hid HP.out.ee
          have hki : (0 : Int) ≤ (k : Int) := by omega
          have hki2 : (k : Int) < (N : Int) := by omega
          clear hk0 hk1 hcb g1 hnk
          go_wp2_with fail
          refine (err_c G1.out).mono ?_
          rintro en w' ⟨rfl, rfl⟩
          go_wp2_with fail
          refine (one_pair HP.out kk nk HNK.out.1 HNK.out.2).mono ?_
          rintro en w1 ⟨rfl, p', e', hp', hmv, h20⟩
          have HP1 := Lib.hid hp'
          have HB1 := Lib.hid (bw_rs HB.out hmv HR.out HS4.out.1)
          have H20 := Lib.hid h20
          obtain ⟨f0, f1⟩ := HK.out w1 HB1.out
          clear hp' hmv h20 d0 d1
          go_wp2_with fail
          refine (one_nilp kk nk).mono ?_
          rintro en w2' ⟨rfl, hb⟩
          have HP2 := Lib.hid (HP1.out.below hb)
          have HB2' := Lib.hid (HB1.out.trans hb)
          clear hb f0 f1
          obtain ⟨q, hq⟩ : ∃ q, bs.length - p' = q := ⟨_, rfl⟩
          obtain ⟨ao2, cap2, g2, _, _⟩ := HP2.out.rd.form
          rw [List.length_drop, hq] at g2
          have G2 := Lib.hid g2
          have HLF := Lib.hid (refLeft_any HP2.out.rf)
          rw [hq] at HLF
          clear g2
          go_wp2_with fail
          refine (left_c G2.out).mono ?_
          rintro en w' ⟨rfl, rfl⟩
          go_wp2_with fail
          refine HLF.out.mono ?_
          rintro en w' ⟨rfl, m1, rfl⟩
          have HP3' := Lib.hid (HP2.out.below (drewN_below _ m1))
          have HB3' := Lib.hid (HB2'.out.trans (drewN_below _ m1))
          obtain ⟨v3, g3, _, _⟩ := HP3'.out.rd.ex
          have G3 := Lib.hid g3
          have hqq : ((q : Int) != (q : Int)) = false := by simp
          have hee : (e' != e') = false := by simp
          clear g3 hq
          rcases HEE.out with he | he
          · subst he
            go_wp2_with (first | (go_at_call 20; refine (err_c G3.out).mono ?_; rintro en w' ⟨rfl, rfl⟩) | (go_at_call 24; refine (refErr_any HP3'.out.rf).mono ?_; rintro en w' ⟨rfl, rfl⟩))
            go_roundw
            case rel => exact ⟨k + 1, by omega, by go_num, p', e', HP3'.out, HB3'.out⟩
            case measure => simp [intOf]; omega
          · subst he
            obtain rfl := H20.out rfl
            go_wp2_with (first | (go_at_call 20; refine (err_c G3.out).mono ?_; rintro en w' ⟨rfl, rfl⟩) | (go_at_call 24; refine (refErr_any HP3'.out.rf).mono ?_; rintro en w' ⟨rfl, rfl⟩))
            go_roundw
            case rel => exact ⟨k + 1, by omega, by go_num, p', 20, HP3'.out, HB3'.out⟩
            case measure => simp [intOf]; omega
        · obtain ⟨q, hq⟩ : ∃ q, bs.length - p = q := ⟨_, rfl⟩
          obtain ⟨ao2, cap2, g2, _, _⟩ := HP.out.rd.form
          rw [List.length_drop, hq] at g2
          have G2 := Lib.hid g2
          have HLF := Lib.hid (refLeft_any HP.out.rf)
          rw [hq] at HLF
          have hqq : ((q : Int) == (q : Int)) = true := by simp
          clear g2 hq
          go_wp2_with fail
          refine (left_c G2.out).mono ?_
          rintro en w' ⟨rfl, rfl⟩
          go_wp2_with fail
          refine HLF.out.mono ?_
          rintro en w' ⟨rfl, m1, rfl⟩
          have HB3' := Lib.hid (HB.out.trans (drewN_below _ m1))
          go_wp2_with (first | (go_at_call 22; refine (left_nil _).mono ?_; rintro en w' ⟨rfl, rfl⟩) | (go_at_call 20; refine (err_nil _).mono ?_; rintro en w' ⟨rfl, rfl⟩) | (go_at_call 24; refine (refErr_nil).mono ?_; rintro en w' ⟨rfl, rfl⟩) | (go_at_call 18; refine (awake_any _).mono ?_; rintro e w5 ⟨rfl, hb⟩; have HB5 := Lib.hid (HB3'.out.trans hb); clear hb))
          go_ret
          exact ⟨rfl, HB5.out⟩

end Go.Proofs.Ythepoplekabcoaa
