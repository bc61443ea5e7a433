/- Stage 7, the program: a reader over a text, step by step; zeros, scaled, Decimal. -/
import Derived.Test.YtghghekdheeknaaDoorOrdB
import Derived.Test.YtghghekdheeknaaDoorOrdK
namespace Go.Proofs.YtghghekdheeknaaDoor
open Go.RowKit Go.Maps Odr Go.Shelf
attribute [local go_sem] Oper.semAt_some

/-- a reader that the call has made, and what is left -/
structure RdS (w0 : World) (b : Nat) (l : List UInt8) (w : World) : Prop where
  bw : BW w0 w
  blk : w.heap[b]? = some (rdr l)
  new : w0.heap.size ≤ b
theorem RdS.alloc {w0 : World} {b : Nat} {l : List UInt8} {w : World} (h : RdS w0 b l w) (o : Obj) : RdS w0 b l (w.alloc o) := ⟨h.bw.alloc o, (Below.heap_alloc _ _ _ (lt_of_heap h.blk)).trans h.blk, h.new⟩
theorem RdS.on {w0 : World} {b : Nat} {l : List UInt8} {w W : World} (h : RdS w0 b l w) (hb : BW w W) : RdS w0 b l W := ⟨h.bw.trans hb, (hb.block b (lt_of_heap h.blk)).trans h.blk, h.new⟩
theorem RdS.set {w0 : World} {b : Nat} {l : List UInt8} {w : World} (h : RdS w0 b l w) (r : List UInt8) : RdS w0 b r (w.setCell ⟨b, 0, none⟩ (textV r)) :=
  ⟨h.bw.setCell h.new _, by rw [heap_set h.blk]; rfl, h.new⟩
theorem RdS.begin (w : World) (l : List UInt8) : RdS w w.heap.size l (w.alloc (.cells #[textV l] 76)) := ⟨bw_alloc w _, heap_new w _, Nat.le_refl _⟩
theorem take_rd {f : Nat} {lb : Array Value} {p : UInt8 → Bool} (ef : ∀ args w, (callFunc f args).run Tryd.prog w = .ok (.enter f args) w) {b m : Nat} {l : List UInt8} {w0 w : World} (hb : RdS w0 b l w) (hm : (m : Int) ≤ 4611686018427387904) (hl : (l.length : Int) ≤ 4611686018427387904) (hf : Tells f lb p w) :
    Calls Tryd.prog 49 #[.pointer (some ⟨b, 0, none⟩), .int .i64 (m : Int), .func (.func f) #[] lb] w fun e W => e = .returned (textV (tk p m l)) ∧ RdS w0 b (rs p m l) W := by
  refine (take_any ef hb.blk hm hl hf).mono ?_
  rintro e W ⟨rfl, rfl⟩
  exact ⟨rfl, hb.set _⟩
theorem e_digit : ∀ args w, (callFunc 51 args).run Tryd.prog w = .ok (.enter 51 args) w := enters_of Tryd.func51 (by kernel_rfl) rfl
theorem e_each : ∀ args w, (callFunc 60 args).run Tryd.prog w = .ok (.enter 60 args) w := enters_of Tryd.func60 (by kernel_rfl) rfl
theorem e_just : ∀ args w, (callFunc 66 args).run Tryd.prog w = .ok (.enter 66 args) w := enters_of Tryd.func66 (by kernel_rfl) rfl
theorem e_but : ∀ args w, (callFunc 99 args).run Tryd.prog w = .ok (.enter 99 args) w := enters_of Tryd.func99 (by kernel_rfl) rfl
theorem take_digit {b m : Nat} {l : List UInt8} {w0 w : World} (hb : RdS w0 b l w) (hm : (m : Int) ≤ 4611686018427387904) (hl : (l.length : Int) ≤ 4611686018427387904) :
    Calls Tryd.prog 49 #[.pointer (some ⟨b, 0, none⟩), .int .i64 (m : Int), .func (.func 51) #[] #[]] w fun e W => e = .returned (textV (tk isDig m l)) ∧ RdS w0 b (rs isDig m l) W := take_rd e_digit hb hm hl (tells_digit w)
theorem take_just {b m : Nat} {o : UInt8} {l : List UInt8} {w0 w : World} (hb : RdS w0 b l w) (hm : (m : Int) ≤ 4611686018427387904) (hl : (l.length : Int) ≤ 4611686018427387904) :
    Calls Tryd.prog 49 #[.pointer (some ⟨b, 0, none⟩), .int .i64 (m : Int), .func (.func 66) #[] #[.pointer (some ⟨w.heap.size, 0, none⟩)]] (w.alloc (.cells #[.int .u8 (o.toNat : Int)] 5)) fun e W => e = .returned (textV (tk (fun c => c == o) m l)) ∧ RdS w0 b (rs (fun c => c == o) m l) W :=
  take_rd e_just (hb.alloc _) hm hl (tells_just (cell_of (heap_new w _) rfl))
theorem repeat_zero : ∀ c, Lib.repeatL [48] c = List.replicate c 48
  | 0 => rfl
  | c + 1 => by rw [Lib.repeatL, repeat_zero c, List.replicate_succ]; rfl
theorem zeros_any (c : Nat) (hc : (c : Int) ≤ 1000) (w : World) : Calls Tryd.prog 39 #[.int .i64 c] w (BwVal (textV (List.replicate c 48)) w) := by
  have HR := Lib.hid (fun W => repeat_any [48] c (by simp; omega) (by omega) W)
  rw [repeat_zero] at HR
  generalize textV (List.replicate c 48) = v at HR ⊢
  go_enter Tryd.func39, Tryd.ntmps39
  go_wp2_with (go_at_call 56; refine (HR.out _).mono ?_; rintro e w' ⟨rfl, hw⟩)
  go_ret
  exact ⟨rfl, hw⟩
def ScaledPost (w : World) (r : Option (List UInt8)) (e : Ending) (w' : World) : Prop := e = .returned (.tuple #[textV (r.getD []), .bool r.isSome]) ∧ BW w w'
theorem rs_le (p : UInt8 → Bool) (m : Nat) (l : List UInt8) : (rs p m l).length ≤ l.length := by unfold rs; rw [List.length_drop]; omega
theorem text_cat {a b : ByteArray} {x y : List UInt8} (h1 : a = ⟨x.toArray⟩) (h2 : b = ⟨y.toArray⟩) : a ++ b = ⟨(x ++ y).toArray⟩ := by
  subst h1; subst h2
  apply ByteArray.ext
  simp
set_option maxRecDepth 100000 in
set_option maxHeartbeats 4000000 in
theorem scaled_any (s : List UInt8) (sc : Nat) (hsc : sc ≤ 9) (hl : (s.length : Int) ≤ 4611686018427387904) (w : World) : Calls Tryd.prog 34 #[textV s, .int .i64 sc] w (ScaledPost w (scaledF s sc)) := by
  obtain ⟨q, hq⟩ : ∃ q, q = scaledF s sc := ⟨_, rfl⟩
  rw [← hq]
  unfold scaledF at hq
  dsimp only at hq
  obtain ⟨m, hm⟩ : ∃ m, m = tk is45 1 s := ⟨_, rfl⟩
  obtain ⟨r1, hr1⟩ : ∃ r, r = rs is45 1 s := ⟨_, rfl⟩
  rw [← hm, ← hr1] at hq
  obtain ⟨d, hd⟩ : ∃ m, m = tk isDig 19 r1 := ⟨_, rfl⟩
  obtain ⟨r2, hr2⟩ : ∃ r, r = rs isDig 19 r1 := ⟨_, rfl⟩
  rw [← hd, ← hr2] at hq
  obtain ⟨pt, hpt⟩ : ∃ m, m = tk is46 (min sc 1) r2 := ⟨_, rfl⟩
  obtain ⟨r3, hr3⟩ : ∃ r, r = rs is46 (min sc 1) r2 := ⟨_, rfl⟩
  simp only [← hpt, ← hr3] at hq
  obtain ⟨f, hf⟩ : ∃ m, m = tk isDig (sc * pt.length) r3 := ⟨_, rfl⟩
  obtain ⟨r4, hr4⟩ : ∃ r, r = rs isDig (sc * pt.length) r3 := ⟨_, rfl⟩
  simp only [← hf, ← hr4] at hq
  have l1 : r1.length ≤ s.length := by rw [hr1]; exact rs_le _ _ _
  have l2 : r2.length ≤ r1.length := by rw [hr2]; exact rs_le _ _ _
  have l3 : r3.length ≤ r2.length := by rw [hr3]; exact rs_le _ _ _
  have l4 : r4.length ≤ r3.length := by rw [hr4]; exact rs_le _ _ _
  have b1 : m.length ≤ 1 := by rw [hm]; exact (tk_le _ _ _).1
  have b2 : d.length ≤ 19 := by rw [hd]; exact (tk_le _ _ _).1
  have b3 : pt.length ≤ min sc 1 := by rw [hpt]; exact (tk_le _ _ _).1
  have b4 : f.length ≤ sc * pt.length := by rw [hf]; exact (tk_le _ _ _).1
  have b5 : sc * pt.length ≤ sc := by
    have : pt.length ≤ 1 := by omega
    calc sc * pt.length ≤ sc * 1 := Nat.mul_le_mul_left _ this
      _ = sc := Nat.mul_one _
  obtain ⟨z, hz⟩ : ∃ z, z = sc * pt.length := ⟨_, rfl⟩
  obtain ⟨mn, hmn⟩ : ∃ mn, mn = min sc 1 := ⟨_, rfl⟩
  rw [← hz] at b4 b5 hf hr4
  rw [← hmn] at b3 hpt hr3
  -- the steps
  have S1 : Hid (∀ W, RdS w w.heap.size s W → Calls Tryd.prog 49 #[.pointer (some ⟨w.heap.size, 0, none⟩), .int .i64 1, .func (.func 66) #[] #[.pointer (some ⟨W.heap.size, 0, none⟩)]] (W.alloc (.cells #[.int .u8 45] 5)) fun e W' => e = .returned (textV m) ∧ RdS w w.heap.size r1 W') := fun W h => by
    rw [hm, hr1]; exact take_just (o := 45) (m := 1) h (by decide) hl
  have S2 : Hid (∀ W, RdS w w.heap.size r1 W → Calls Tryd.prog 49 #[.pointer (some ⟨w.heap.size, 0, none⟩), .int .i64 19, .func (.func 51) #[] #[]] W fun e W' => e = .returned (textV d) ∧ RdS w w.heap.size r2 W') := fun W h => by
    rw [hd, hr2]; exact take_digit (m := 19) h (by decide) (by omega)
  have S3 : Hid (∀ W, RdS w w.heap.size r2 W → Calls Tryd.prog 49 #[.pointer (some ⟨w.heap.size, 0, none⟩), .int .i64 (mn : Int), .func (.func 66) #[] #[.pointer (some ⟨W.heap.size, 0, none⟩)]] (W.alloc (.cells #[.int .u8 46] 5)) fun e W' => e = .returned (textV pt) ∧ RdS w w.heap.size r3 W') := fun W h => by
    rw [hpt, hr3]; exact take_just (o := 46) h (by omega) (by omega)
  have S4 : Hid (∀ W, RdS w w.heap.size r3 W → Calls Tryd.prog 49 #[.pointer (some ⟨w.heap.size, 0, none⟩), .int .i64 (z : Int), .func (.func 51) #[] #[]] W fun e W' => e = .returned (textV f) ∧ RdS w w.heap.size r4 W') := fun W h => by
    rw [hf, hr4]; exact take_digit h (by omega) (by omega)
  have SZ := Lib.hid (fun W => zeros_any (sc - f.length) (by omega) W)
  have hmi : min (sc : Int) 1 = (mn : Int) := by omega
  have hpr : (sc : Int) * (pt.length : Int) = (z : Int) := by rw [hz]; push_cast; rfl
  have hsub : (sc : Int) - (f.length : Int) = ((sc - f.length : Nat) : Int) := by omega
  have H0 := Lib.hid (RdS.begin w s)
  have HQ := Lib.hid hq
  have SQ : Hid (RdS w w.heap.size r4 = RdS w w.heap.size r4) := rfl
  have HZ0 := Lib.hid hz
  -- the four texts
  obtain ⟨tm, htm⟩ : ∃ t, t = ByteArray.mk m.toArray := ⟨_, rfl⟩
  obtain ⟨td, htd⟩ : ∃ t, t = ByteArray.mk d.toArray := ⟨_, rfl⟩
  obtain ⟨tf, htf⟩ : ∃ t, t = ByteArray.mk f.toArray := ⟨_, rfl⟩
  obtain ⟨tz, htz⟩ : ∃ t, t = ByteArray.mk (List.replicate (sc - f.length) (48 : UInt8)).toArray := ⟨_, rfl⟩
  obtain ⟨tp, htp⟩ : ∃ t, t = ByteArray.mk pt.toArray := ⟨_, rfl⟩
  obtain ⟨t4, ht4⟩ : ∃ t, t = ByteArray.mk r4.toArray := ⟨_, rfl⟩
  have vm : textV m = .string tm := by rw [htm]; rfl
  have vd : textV d = .string td := by rw [htd]; rfl
  have vf : textV f = .string tf := by rw [htf]; rfl
  have vz : textV (List.replicate (sc - f.length) 48) = .string tz := by rw [htz]; rfl
  have vp : textV pt = .string tp := by rw [htp]; rfl
  have sm : tm.size = m.length := by rw [htm]; exact text_size m
  have sd : td.size = d.length := by rw [htd]; exact text_size d
  have sf : tf.size = f.length := by rw [htf]; exact text_size f
  have sz : tz.size = sc - f.length := by rw [htz, text_size, List.length_replicate]
  have sp : tp.size = pt.length := by rw [htp]; exact text_size pt
  have HCAT : Hid (Value.string (((tm ++ td) ++ tf) ++ tz) = textV (m ++ d ++ f ++ List.replicate (sc - f.length) 48)) := by
    unfold Hid textV; rw [text_cat (text_cat (text_cat htm htd) htf) htz]
  have ild : td.toList = d := by rw [htd]; exact text_list d
  have R4 : Hid (∀ W, RdS w w.heap.size r4 W → W.cell? ⟨w.heap.size, 0, none⟩ = some (.string t4)) := fun W h => by rw [ht4]; exact cell_of h.blk rfl
  have il4 : t4.toList = r4 := by rw [ht4]; exact text_list r4
  have HD0 := Lib.hid htd
  rw [vm] at S1; rw [vd] at S2; rw [vp] at S3; rw [vf] at S4; rw [vz] at SZ
  rw [← sp] at hpr; rw [← sf] at hsub SZ
  have is1 : (tm.size : Int) ≤ 1 := by omega
  have is2 : (td.size : Int) ≤ 19 := by omega
  have is3 : (tf.size : Int) ≤ 9 := by omega
  have is4 : (tz.size : Int) ≤ 9 := by omega
  have is5 : (tp.size : Int) ≤ 1 := by omega
  have hz9 : (z : Int) ≤ 9 := by omega
  have hsc9 : (sc : Int) ≤ 9 := by omega
  have htext : textV s = .string ⟨s.toArray⟩ := rfl
  obtain ⟨ts, hts⟩ : ∃ t, t = ByteArray.mk s.toArray := ⟨_, rfl⟩
  rw [htext, ← hts] at H0 ⊢
  have PRE : Hid (tf.size < tp.size ↔ f.length < pt.length) := by unfold Hid; rw [sf, sp]
  have HR4 : Hid (t4.toList = r4) := il4
  have HILD : Hid (td.toList = d) := ild
  have HSD := Lib.hid sd
  clear hq hm hr1 hd hr2 hpt hr3 hf hr4 l1 l2 l3 l4 b1 b2 b3 b4 b5 hz hmn htm htd htf htz htp ht4 vm vd vf vz vp sm sf sz sp htext hts ild il4 sd hsc SQ
  by_cases g1 : d = []
  · subst g1
    have hq : q = none := by rw [HQ.out, if_pos (.inl rfl)]
    subst hq
    have htd : td = ⟨#[]⟩ := HD0.out
    subst htd
    clear HQ HCAT SZ PRE HR4 HILD HSD HD0 is2 HZ0
    go_enter Tryd.func34, Tryd.ntmps34
    go_wp2_with fail
    obtain ⟨W1, hW1⟩ : ∃ W1, W1 = w.alloc (.cells #[.string ts] 76) := ⟨_, rfl⟩
    obtain ⟨N, hN⟩ : ∃ N, N = w.heap.size := ⟨_, rfl⟩
    rw [← hW1] at H0 ⊢
    rw [← hN] at H0 S1 S2 S3 S4 R4 ⊢
    clear hW1 hN
    refine (just_any _ _).mono ?_; rintro e w2 ⟨rfl, rfl⟩
    go_wp2_with fail
    (with_reducible refine (S1.out _ H0.out).mono ?_); rintro e w3 ⟨rfl, h3⟩
    have H3 := Lib.hid h3
    clear h3 H0 S1
    go_wp2_with fail
    (with_reducible refine (S2.out _ H3.out).mono ?_); rintro e w4 ⟨rfl, h4⟩
    have H4 := Lib.hid h4
    clear h4 H3 S2
    go_wp2
    go_ret2
    exact ⟨rfl, H4.out.bw⟩
  · have hpos : 0 < td.size := by rw [HSD.out]; exact List.length_pos_iff.2 g1
    have hpi : (0 : Int) < (td.size : Int) := by omega
    have e1 : td.toList.isEmpty = false := by rw [HILD.out]; cases d with | nil => exact absurd rfl g1 | cons c t => rfl
    have e2 : ¬ td.toList = [] := by rw [HILD.out]; exact g1
    obtain ⟨x, hx⟩ : ∃ x : Nat, x = (td[0]'hpos).toNat := ⟨_, rfl⟩
    have hxi : ((td[0]'hpos).toNat : Int) = (x : Int) := by rw [hx]
    have HX : Hid (x = 48 ↔ d.head? = some 48) := by
      unfold Hid
      have hd := HD0.out
      subst hd
      cases d with
      | nil => exact absurd rfl g1
      | cons c t =>
        have : x = c.toNat := hx
        rw [this, List.head?_cons, Option.some.injEq]
        exact ⟨fun h => UInt8.toNat_inj.1 h, fun h => by rw [h]; rfl⟩
    clear hx
    by_cases g2 : 1 < d.length ∧ d.head? = some 48
    · have hq : q = none := by rw [HQ.out, if_pos (.inr g2)]
      subst hq
      have hgt : (1 : Int) < (td.size : Int) := by have := HSD.out; omega
      have hx48 : x = 48 := HX.out.2 g2.2
      subst hx48
      clear HQ HCAT SZ PRE HR4 HILD HSD HD0 HZ0 HX g1 g2
      go_enter Tryd.func34, Tryd.ntmps34
      go_wp2_with fail
      obtain ⟨W1, hW1⟩ : ∃ W1, W1 = w.alloc (.cells #[.string ts] 76) := ⟨_, rfl⟩
      obtain ⟨N, hN⟩ : ∃ N, N = w.heap.size := ⟨_, rfl⟩
      rw [← hW1] at H0 ⊢
      rw [← hN] at H0 S1 S2 S3 S4 R4 ⊢
      clear hW1 hN
      refine (just_any _ _).mono ?_; rintro e w2 ⟨rfl, rfl⟩
      go_wp2_with fail
      (with_reducible refine (S1.out _ H0.out).mono ?_); rintro e w3 ⟨rfl, h3⟩
      have H3 := Lib.hid h3
      clear h3 H0 S1
      go_wp2_with fail
      (with_reducible refine (S2.out _ H3.out).mono ?_); rintro e w4 ⟨rfl, h4⟩
      have H4 := Lib.hid h4
      clear h4 H3 S2
      go_wp2
      go_ret2
      exact ⟨rfl, H4.out.bw⟩
    · have HQ2 : Hid (q = if f.length < pt.length ∨ r4 ≠ [] then none else some (m ++ d ++ f ++ List.replicate (sc - f.length) 48)) := by
        unfold Hid; rw [HQ.out, if_neg (by rintro (h | h); · exact g1 h
                                           · exact g2 h)]
      have hcase : (td.size : Int) ≤ 1 ∨ ((1 : Int) < (td.size : Int) ∧ ((x : Int) == 48) = false) := by
        by_cases h1 : 1 < d.length
        · refine .inr ⟨by have := HSD.out; omega, ?_⟩
          have : ¬ x = 48 := fun h => g2 ⟨h1, HX.out.1 h⟩
          simp; omega
        · exact .inl (by have := HSD.out; omega)
      clear HQ HX g1 g2 HD0 HILD HSD
      by_cases k1 : tf.size < tp.size
      · have hq : q = none := by rw [HQ2.out, if_pos (.inl (PRE.out.1 k1))]
        subst hq
        have k1i : (tf.size : Int) < (tp.size : Int) := by omega
        clear HQ2 HCAT SZ PRE HR4 HZ0
        rcases hcase with hle | ⟨hgt, h48⟩
        · skip
          go_enter Tryd.func34, Tryd.ntmps34
          go_wp2_with fail
          obtain ⟨W1, hW1⟩ : ∃ W1, W1 = w.alloc (.cells #[.string ts] 76) := ⟨_, rfl⟩
          obtain ⟨N, hN⟩ : ∃ N, N = w.heap.size := ⟨_, rfl⟩
          rw [← hW1] at H0 ⊢
          rw [← hN] at H0 S1 S2 S3 S4 R4 ⊢
          clear hW1 hN
          refine (just_any _ _).mono ?_; rintro e w2 ⟨rfl, rfl⟩
          go_wp2_with fail
          (with_reducible refine (S1.out _ H0.out).mono ?_); rintro e w3 ⟨rfl, h3⟩
          have H3 := Lib.hid h3
          clear h3 H0 S1
          go_wp2_with fail
          (with_reducible refine (S2.out _ H3.out).mono ?_); rintro e w4 ⟨rfl, h4⟩
          have H4 := Lib.hid h4
          clear h4 H3 S2
          go_wp2_with fail
          refine (just_any _ _).mono ?_; rintro e w5 ⟨rfl, rfl⟩
          go_wp2_with fail
          (with_reducible refine (S3.out _ H4.out).mono ?_); rintro e w6 ⟨rfl, h6⟩
          have H6 := Lib.hid h6
          clear h6 H4 S3
          go_wp2_with fail
          (with_reducible refine (S4.out _ H6.out).mono ?_); rintro e w7 ⟨rfl, h7⟩
          have c4 := R4.out _ h7
          have H7 := Lib.hid h7
          clear h7 H6 S4 R4
          go_wp2
          go_ret2
          exact ⟨rfl, H7.out.bw⟩
        · skip
          go_enter Tryd.func34, Tryd.ntmps34
          go_wp2_with fail
          obtain ⟨W1, hW1⟩ : ∃ W1, W1 = w.alloc (.cells #[.string ts] 76) := ⟨_, rfl⟩
          obtain ⟨N, hN⟩ : ∃ N, N = w.heap.size := ⟨_, rfl⟩
          rw [← hW1] at H0 ⊢
          rw [← hN] at H0 S1 S2 S3 S4 R4 ⊢
          clear hW1 hN
          refine (just_any _ _).mono ?_; rintro e w2 ⟨rfl, rfl⟩
          go_wp2_with fail
          (with_reducible refine (S1.out _ H0.out).mono ?_); rintro e w3 ⟨rfl, h3⟩
          have H3 := Lib.hid h3
          clear h3 H0 S1
          go_wp2_with fail
          (with_reducible refine (S2.out _ H3.out).mono ?_); rintro e w4 ⟨rfl, h4⟩
          have H4 := Lib.hid h4
          clear h4 H3 S2
          go_wp2_with fail
          refine (just_any _ _).mono ?_; rintro e w5 ⟨rfl, rfl⟩
          go_wp2_with fail
          (with_reducible refine (S3.out _ H4.out).mono ?_); rintro e w6 ⟨rfl, h6⟩
          have H6 := Lib.hid h6
          clear h6 H4 S3
          go_wp2_with fail
          (with_reducible refine (S4.out _ H6.out).mono ?_); rintro e w7 ⟨rfl, h7⟩
          have c4 := R4.out _ h7
          have H7 := Lib.hid h7
          clear h7 H6 S4 R4
          go_wp2
          go_ret2
          exact ⟨rfl, H7.out.bw⟩
      · have k1i : (tp.size : Int) ≤ (tf.size : Int) := by omega
        by_cases k2 : r4 = []
        · have hq : q = some (m ++ d ++ f ++ List.replicate (sc - f.length) 48) := by
            rw [HQ2.out, if_neg]
            rintro (h | h)
            · exact k1 (PRE.out.2 h)
            · exact h k2
          have h4e : t4.toList = [] := by rw [HR4.out, k2]
          have h4e2 : t4.toList.isEmpty = true := by rw [h4e]; rfl
          subst hq
          clear HQ2 PRE HR4 k2 k1 HZ0
          rcases hcase with hle | ⟨hgt, h48⟩
          · skip
            go_enter Tryd.func34, Tryd.ntmps34
            go_wp2_with fail
            obtain ⟨W1, hW1⟩ : ∃ W1, W1 = w.alloc (.cells #[.string ts] 76) := ⟨_, rfl⟩
            obtain ⟨N, hN⟩ : ∃ N, N = w.heap.size := ⟨_, rfl⟩
            rw [← hW1] at H0 ⊢
            rw [← hN] at H0 S1 S2 S3 S4 R4 ⊢
            clear hW1 hN
            refine (just_any _ _).mono ?_; rintro e w2 ⟨rfl, rfl⟩
            go_wp2_with fail
            (with_reducible refine (S1.out _ H0.out).mono ?_); rintro e w3 ⟨rfl, h3⟩
            have H3 := Lib.hid h3
            clear h3 H0 S1
            go_wp2_with fail
            (with_reducible refine (S2.out _ H3.out).mono ?_); rintro e w4 ⟨rfl, h4⟩
            have H4 := Lib.hid h4
            clear h4 H3 S2
            go_wp2_with fail
            refine (just_any _ _).mono ?_; rintro e w5 ⟨rfl, rfl⟩
            go_wp2_with fail
            (with_reducible refine (S3.out _ H4.out).mono ?_); rintro e w6 ⟨rfl, h6⟩
            have H6 := Lib.hid h6
            clear h6 H4 S3
            go_wp2_with fail
            (with_reducible refine (S4.out _ H6.out).mono ?_); rintro e w7 ⟨rfl, h7⟩
            have c4 := R4.out _ h7
            have H7 := Lib.hid h7
            clear h7 H6 S4 R4
            go_wp2_with fail
            refine (SZ.out _).mono ?_; rintro e w8 ⟨rfl, h8⟩
            have H8 := Lib.hid h8
            clear h8 SZ
            go_wp2
            go_ret2
            exact ⟨by rw [HCAT.out]; rfl, H7.out.bw.trans H8.out⟩
          · skip
            go_enter Tryd.func34, Tryd.ntmps34
            go_wp2_with fail
            obtain ⟨W1, hW1⟩ : ∃ W1, W1 = w.alloc (.cells #[.string ts] 76) := ⟨_, rfl⟩
            obtain ⟨N, hN⟩ : ∃ N, N = w.heap.size := ⟨_, rfl⟩
            rw [← hW1] at H0 ⊢
            rw [← hN] at H0 S1 S2 S3 S4 R4 ⊢
            clear hW1 hN
            refine (just_any _ _).mono ?_; rintro e w2 ⟨rfl, rfl⟩
            go_wp2_with fail
            (with_reducible refine (S1.out _ H0.out).mono ?_); rintro e w3 ⟨rfl, h3⟩
            have H3 := Lib.hid h3
            clear h3 H0 S1
            go_wp2_with fail
            (with_reducible refine (S2.out _ H3.out).mono ?_); rintro e w4 ⟨rfl, h4⟩
            have H4 := Lib.hid h4
            clear h4 H3 S2
            go_wp2_with fail
            refine (just_any _ _).mono ?_; rintro e w5 ⟨rfl, rfl⟩
            go_wp2_with fail
            (with_reducible refine (S3.out _ H4.out).mono ?_); rintro e w6 ⟨rfl, h6⟩
            have H6 := Lib.hid h6
            clear h6 H4 S3
            go_wp2_with fail
            (with_reducible refine (S4.out _ H6.out).mono ?_); rintro e w7 ⟨rfl, h7⟩
            have c4 := R4.out _ h7
            have H7 := Lib.hid h7
            clear h7 H6 S4 R4
            go_wp2_with fail
            refine (SZ.out _).mono ?_; rintro e w8 ⟨rfl, h8⟩
            have H8 := Lib.hid h8
            clear h8 SZ
            go_wp2
            go_ret2
            exact ⟨by rw [HCAT.out]; rfl, H7.out.bw.trans H8.out⟩
        · have hq : q = none := by rw [HQ2.out, if_pos (.inr k2)]
          subst hq
          have h4e : ¬ t4.toList = [] := by rw [HR4.out]; exact k2
          have h4e2 : t4.toList.isEmpty = false := by
            cases h : t4.toList with
            | nil => exact absurd h h4e
            | cons _ _ => rfl
          clear HQ2 HCAT SZ PRE HR4 k2 k1 HZ0
          rcases hcase with hle | ⟨hgt, h48⟩
          · skip
            go_enter Tryd.func34, Tryd.ntmps34
            go_wp2_with fail
            obtain ⟨W1, hW1⟩ : ∃ W1, W1 = w.alloc (.cells #[.string ts] 76) := ⟨_, rfl⟩
            obtain ⟨N, hN⟩ : ∃ N, N = w.heap.size := ⟨_, rfl⟩
            rw [← hW1] at H0 ⊢
            rw [← hN] at H0 S1 S2 S3 S4 R4 ⊢
            clear hW1 hN
            refine (just_any _ _).mono ?_; rintro e w2 ⟨rfl, rfl⟩
            go_wp2_with fail
            (with_reducible refine (S1.out _ H0.out).mono ?_); rintro e w3 ⟨rfl, h3⟩
            have H3 := Lib.hid h3
            clear h3 H0 S1
            go_wp2_with fail
            (with_reducible refine (S2.out _ H3.out).mono ?_); rintro e w4 ⟨rfl, h4⟩
            have H4 := Lib.hid h4
            clear h4 H3 S2
            go_wp2_with fail
            refine (just_any _ _).mono ?_; rintro e w5 ⟨rfl, rfl⟩
            go_wp2_with fail
            (with_reducible refine (S3.out _ H4.out).mono ?_); rintro e w6 ⟨rfl, h6⟩
            have H6 := Lib.hid h6
            clear h6 H4 S3
            go_wp2_with fail
            (with_reducible refine (S4.out _ H6.out).mono ?_); rintro e w7 ⟨rfl, h7⟩
            have c4 := R4.out _ h7
            have H7 := Lib.hid h7
            clear h7 H6 S4 R4
            go_wp2
            go_ret2
            exact ⟨rfl, H7.out.bw⟩
          · skip
            go_enter Tryd.func34, Tryd.ntmps34
            go_wp2_with fail
            obtain ⟨W1, hW1⟩ : ∃ W1, W1 = w.alloc (.cells #[.string ts] 76) := ⟨_, rfl⟩
            obtain ⟨N, hN⟩ : ∃ N, N = w.heap.size := ⟨_, rfl⟩
            rw [← hW1] at H0 ⊢
            rw [← hN] at H0 S1 S2 S3 S4 R4 ⊢
            clear hW1 hN
            refine (just_any _ _).mono ?_; rintro e w2 ⟨rfl, rfl⟩
            go_wp2_with fail
            (with_reducible refine (S1.out _ H0.out).mono ?_); rintro e w3 ⟨rfl, h3⟩
            have H3 := Lib.hid h3
            clear h3 H0 S1
            go_wp2_with fail
            (with_reducible refine (S2.out _ H3.out).mono ?_); rintro e w4 ⟨rfl, h4⟩
            have H4 := Lib.hid h4
            clear h4 H3 S2
            go_wp2_with fail
            refine (just_any _ _).mono ?_; rintro e w5 ⟨rfl, rfl⟩
            go_wp2_with fail
            (with_reducible refine (S3.out _ H4.out).mono ?_); rintro e w6 ⟨rfl, h6⟩
            have H6 := Lib.hid h6
            clear h6 H4 S3
            go_wp2_with fail
            (with_reducible refine (S4.out _ H6.out).mono ?_); rintro e w7 ⟨rfl, h7⟩
            have c4 := R4.out _ h7
            have H7 := Lib.hid h7
            clear h7 H6 S4 R4
            go_wp2
            go_ret2
            exact ⟨rfl, H7.out.bw⟩
end Go.Proofs.YtghghekdheeknaaDoor
