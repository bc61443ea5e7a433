/- VfsKnown: the walk. -/
import Derived.Test.YtjiklpoggpdngaaLawK
namespace Go.Proofs.Ytjiklpoggpdngaa
open Go.RowKit Go.Maps Go.Sort

/-- nothing that was in w has turned -/
def BW (w W : World) : Prop := RowKit.Below w.heap.size w W
theorem BW.refl (w : World) : BW w w := RowKit.Below.refl _ _
theorem BW.alloc {w W : World} (h : BW w W) (o : Obj) : BW w (W.alloc o) := RowKit.Below.alloc h (RowKit.Below.size h) o
theorem BW.trans {w W W' : World} (h : BW w W) (h' : BW W W') : BW w W' := RowKit.Below.trans h (RowKit.Below.mono h' (RowKit.Below.size h))
theorem BW.holds {w W W' : World} {d : Nat} {S : DS} (h : BW w W) (h' : Holds (fun b => b < W.heap.size) W W' d S) : BW w W' := h.trans (h'.below (fun _ h => h))
theorem bw_alloc (W : World) (o : Obj) : BW W (W.alloc o) := (BW.refl W).alloc o
theorem Holds.across {PB : Nat → Prop} {wP W W' : World} {d d' : Nat} {S S' : DS} (h : Holds PB wP W d S) (h' : Holds (fun b => b < W.heap.size) W W' d' S') : Holds PB wP W' d S := h.moved (h'.below (fun _ h => h))
theorem Holds.al {PB : Nat → Prop} {wP W : World} {d : Nat} {S : DS} (h : Holds PB wP W d S) (o : Obj) : Holds PB wP (W.alloc o) d S := h.moved (bw_alloc W o)
theorem Holds.dlt {PB : Nat → Prop} {wP W : World} {d : Nat} {S : DS} (h : Holds PB wP W d S) : d < W.heap.size := by obtain ⟨g, hr, _⟩ := h.ex; exact lt_of_heap hr.dir

/-- held of one file, its bytes in a new row -/
theorem held3 {PB : Nat → Prop} {wP w2 : World} {d : Nat} {S : DS} (h : Holds PB wP w2 d S) (hcalm : Calm S) {n : ByteArray} {f k m : Nat} {bs : List UInt8} (hnow : S.now = [(n.data.toList, f)]) (hfs : S.fs f = (bs, k)) (hgn : goodNm n.data.toList = true) {xs : Array Value} (hx : xs.toList = bs.map bV) (hm : xs.size = m) (hmm : m ≤ 1000) :
    Calls Try.prog 26 #[.pointer (some ⟨d, 0, none⟩), .slice (some ⟨w2.heap.size, 0, none⟩) 1 1, .slice (some ⟨w2.heap.size + 1 + 1, 0, none⟩) 1 1] (((w2.alloc (.cells #[.string n] 9)).alloc (.cells xs 5)).alloc (.cells #[.slice (some ⟨w2.heap.size + 1, 0, none⟩) m m] 30))
      fun e w' => e = .returned (.bool true) ∧ BW w2 w' := by
  have h1 := held_one (((h.al _).al _).al _) hcalm hnow hfs hgn (((src_new w2 #[.string n] 9 1 rfl (by decide)).below (bw_alloc _ (.cells xs 5))).below (bw_alloc _ (.cells #[.slice (some ⟨w2.heap.size + 1, 0, none⟩) m m] 30)))
    (src_new' (n := 1) (k := w2.heap.size + 1 + 1) _ #[.slice (some ⟨w2.heap.size + 1, 0, none⟩) m m] _ (by simp) rfl (by decide)) (by rw [← hx]; exact ((src_new' (k := w2.heap.size + 1) _ xs _ (by simp) hm (by omega)).below (bw_alloc _ _)))
  refine h1.mono fun e w' ⟨he, hb⟩ => ⟨he, ?_⟩
  exact (((bw_alloc _ _).alloc _).alloc _).trans hb
/-- .. an empty one, its bytes nil -/
theorem held2 {PB : Nat → Prop} {wP w2 : World} {d : Nat} {S : DS} (h : Holds PB wP w2 d S) (hcalm : Calm S) {n : ByteArray} {f k : Nat} (hnow : S.now = [(n.data.toList, f)]) (hfs : S.fs f = ([], k)) (hgn : goodNm n.data.toList = true) :
    Calls Try.prog 26 #[.pointer (some ⟨d, 0, none⟩), .slice (some ⟨w2.heap.size, 0, none⟩) 1 1, .slice (some ⟨w2.heap.size + 1, 0, none⟩) 1 1] ((w2.alloc (.cells #[.string n] 9)).alloc (.cells #[.slice none 0 0] 30))
      fun e w' => e = .returned (.bool true) ∧ BW w2 w' := by
  have h1 := held_one ((h.al _).al _) hcalm hnow hfs hgn ((src_new w2 #[.string n] 9 1 rfl (by decide)).below (bw_alloc _ (.cells #[.slice none 0 0] 30)))
    (src_new' (n := 1) (k := w2.heap.size + 1) _ #[.slice none 0 0] _ (by simp) rfl (by decide)) (Src.nil _)
  refine h1.mono fun e w' ⟨he, hb⟩ => ⟨he, ?_⟩
  exact ((bw_alloc _ _).alloc _).trans hb
/-- .. none -/
theorem held0 {PB : Nat → Prop} {wP w2 : World} {d : Nat} {S : DS} (h : Holds PB wP w2 d S) (hcalm : Calm S) (hnow : S.now = []) :
    Calls Try.prog 26 #[.pointer (some ⟨d, 0, none⟩), .slice none 0 0, .slice none 0 0] w2 fun e w' => e = .returned (.bool true) ∧ BW w2 w' :=
  held_h h (calm_not_halted hcalm) (by rw [hnow]; exact Nat.zero_le _) (vs := []) (bss := []) (by rw [hnow]; exact Src.nil _) (Src.nil _) (by rw [hnow]; rfl) (by rw [hnow]; rfl) (fun i h1 => by simp at h1) (fun i h1 h2 => by simp at h2)

theorem rename_w {PB : Nat → Prop} {wP w : World} {d : Nat} {S S' : DS} {r : Int} (h : Holds PB wP w d S) (hc : Sm S) (s t : ByteArray) (hs : s.size ≤ maxLen) (ht : t.size ≤ maxLen) (ho : opRename S s.data.toList t.data.toList = (r, S')) : Calls Try.prog 30 #[.pointer (some ⟨d, 0, none⟩), .string s, .string t] w (HPost PB wP d r S') := by
  have := rename_h h hc s t hs ht; rw [ho] at this; exact this
theorem create_w {PB : Nat → Prop} {wP w : World} {d : Nat} {S : DS} {r : Int} {St : Nat → DS} (h : Holds PB wP w d S) (hc : Sm S) (s : ByteArray) (hs : s.size ≤ maxLen) (ho : ∀ f, opCreate S s.data.toList f = (r, St f)) :
    Calls Try.prog 28 #[.pointer (some ⟨d, 0, none⟩), .string s] w fun e w' => ∃ f, e = .returned (.int .i64 r) ∧ Holds PB wP w' d (St f) := by
  refine (create_h h hc s hs).mono ?_
  rintro e w' ⟨f, _, he, hh⟩
  rw [ho] at he hh
  exact ⟨f, he, hh⟩
theorem syncdir_w {PB : Nat → Prop} {wP w : World} {d : Nat} {S S' : DS} {r : Int} (h : Holds PB wP w d S) (hc : Sm S) (ho : opSyncDir S = (r, S')) : Calls Try.prog 29 #[.pointer (some ⟨d, 0, none⟩)] w (HPost PB wP d r S') := by
  have := syncdir_h h hc; rw [ho] at this; exact this
theorem delete_w {PB : Nat → Prop} {wP w : World} {d : Nat} {S S' : DS} {r : Int} (h : Holds PB wP w d S) (hc : Sm S) (s : ByteArray) (hs : s.size ≤ maxLen) (ho : opDelete S s.data.toList = (r, S')) : Calls Try.prog 33 #[.pointer (some ⟨d, 0, none⟩), .string s] w (HPost PB wP d r S') := by
  have := delete_h h hc s hs; rw [ho] at this; exact this
/-- Append of a row that was just made -/
theorem append_w {PB : Nat → Prop} {wP w : World} {d : Nat} {S S' : DS} {r : Int} (h : Holds PB wP w d S) (hc : Sm S) (s : ByteArray) (hs : s.size ≤ maxLen) (xs : Array Value) (bs : List UInt8) (m : Nat) (hx : xs.toList = bs.map bV) (hm : xs.size = m) (hmm : m ≤ 1000) (ho : opAppend S s.data.toList bs = (r, S')) :
    Calls Try.prog 32 #[.pointer (some ⟨d, 0, none⟩), .string s, .slice (some ⟨w.heap.size, 0, none⟩) m m] (w.alloc (.cells xs 5)) (HPost PB wP d r S') := by
  have hl : bs.length = m := by have := congrArg List.length hx; simp at this; omega
  have := append_h (bs := bs) (h.al _) hc s hs (by rw [← hx]; exact src_new w xs 5 m hm (by omega)) (by omega) (fun _ a n c e => by cases e; have := h.dlt; show w.heap.size ≠ d; omega)
  rw [ho] at this; exact this
theorem append_nil_w {PB : Nat → Prop} {wP w : World} {d : Nat} {S S' : DS} {r : Int} (h : Holds PB wP w d S) (hc : Sm S) (s : ByteArray) (hs : s.size ≤ maxLen) (ho : opAppend S s.data.toList [] = (r, S')) :
    Calls Try.prog 32 #[.pointer (some ⟨d, 0, none⟩), .string s, .slice none 0 0] w (HPost PB wP d r S') := by
  have := append_h (bs := []) h hc s hs (Src.nil _) (by decide) (fun _ a n c e => by cases e)
  rw [ho] at this; exact this

def KPost (w : World) (e : Ending) (w' : World) : Prop := e = .returned (.bool true) ∧ BW w w'
theorem szs (a : Array UInt8) (h : a.size ≤ 100) : (⟨a⟩ : ByteArray).size ≤ maxLen := by
  unfold maxLen
  have : (⟨a⟩ : ByteArray).size = a.size := rfl
  omega
theorem sm10 {S : DS} (h1 : S.calls ≤ 10) (h2 : S.bd ≤ 10) : Sm S := sm_of h1 h2

set_option maxHeartbeats 20000000 in
set_option maxRecDepth 100000 in
theorem known_any (w : World) : Calls Try.prog 4 #[] w (KPost w) := by
  go_enter Try.func4, Try.ntmps4
  go_wp2_with fail
  refine (awake_any _).mono ?_
  rintro e w1 ⟨rfl, hb1⟩
  have HB1 : Hid (BW w w1) := hb1
  clear hb1
  go_wp2_with fail
  refine (first_any false _).mono ?_
  rintro e w2 ⟨d1, S1, rfl, _, hh1, hS1⟩
  have H1 := Lib.hid hh1; have HS1 := Lib.hid hS1
  have HB2 : Hid (BW w w2) := HB1.out.holds hh1
  clear hh1 hS1
  unfold ptr
  go_wp2_with fail
  refine (crash_h (cs := [0]) (H1.out.al _) (by obtain ⟨_, _, _, _, h, _⟩ := HS1.out; exact h) (src_new w2 #[.int .i64 0] _ 1 rfl (by decide)) (by decide)).mono ?_
  rintro e w3 ⟨d2, S2, rfl, hh2, hc2⟩
  have H2 := Lib.hid hh2; have HC2 := Lib.hid hc2
  have HB3 : Hid (BW w w3) := (HB2.out.alloc _).holds hh2
  clear hh2 hc2
  unfold ptr
  go_wp2_with fail
  refine (held0 H2.out (crashed_calm HC2.out) (first_crash_f0 HS1.out HC2.out)).mono ?_
  rintro e w4 ⟨rfl, hb4⟩
  have HB4 := Lib.hid (HB3.out.trans hb4)
  clear hb4
  go_wp2_with fail
  refine (first_any true _).mono ?_
  rintro e w5 ⟨d3, S3, rfl, _, hh3, hS3⟩
  have H3 := Lib.hid hh3; have HS3 := Lib.hid hS3
  have HB5 : Hid (BW w w5) := HB4.out.holds hh3
  clear hh3 hS3
  unfold ptr
  go_wp2_with fail
  refine (crash_h (cs := []) H3.out (by obtain ⟨_, _, _, _, h, _⟩ := HS3.out; exact h) (Src.nil _) (by decide)).mono ?_
  rintro e w6 ⟨d4, S4, rfl, hh4, hc4⟩
  have H4 := Lib.hid hh4; have HC4 := Lib.hid hc4
  have HB6 : Hid (BW w w6) := HB5.out.holds hh4
  obtain ⟨f4, hn4, hf4⟩ := first_crash_tn HS3.out hc4
  have HN4 := Lib.hid hn4; have HF4 := Lib.hid hf4
  clear hh4 hc4 hn4 hf4
  unfold ptr
  go_wp2_with fail
  refine (held3 (n := ⟨#[97]⟩) H4.out (crashed_calm HC4.out) HN4.out HF4.out rfl (xs := #[.int .u8 1, .int .u8 2]) rfl rfl (by decide)).mono ?_
  rintro e w7 ⟨rfl, hb7⟩
  have HB7 := Lib.hid (HB6.out.trans hb7)
  clear hb7
  clear HS1 HS3 HC2 HC4 HN4 HF4 H1 H2 H3 H4 HB1 HB2 HB3 HB4 HB5 HB6
  go_wp2_with fail
  refine (new_h _).mono ?_
  rintro e w8 ⟨dc, rfl, _, hc0⟩
  have HC0 := Lib.hid hc0
  clear hc0
  unfold ptr
  go_wp2_with fail
  refine (create_w HC0.out (sm10 (by decide) (by decide)) ⟨#[97]⟩ sz97 op1).mono ?_
  rintro e w9 ⟨fc, rfl, hc1⟩
  have HC1 := Lib.hid hc1
  clear hc1
  go_wp2_with fail
  refine (syncdir_w HC1.out (sm10 (show 1 ≤ 10 by decide) (show 1 ≤ 10 by decide)) (opc2 fc)).mono ?_
  rintro e w10 ⟨rfl, hc2⟩
  have HC2 := Lib.hid hc2
  clear hc2 HC1
  go_wp2_with fail
  refine (rename_w HC2.out (sm10 (show 2 ≤ 10 by decide) (show 2 ≤ 10 by decide)) ⟨#[97]⟩ ⟨#[98]⟩ sz97 (szs _ (by decide)) (opc3 fc)).mono ?_
  rintro e w11 ⟨rfl, hc3⟩
  have HC3 := Lib.hid hc3
  clear hc3 HC2
  go_wp2_with fail
  refine (crash_h (cs := [0]) (HC3.out.al _) (sm10 (show 3 ≤ 10 by decide) (show 3 ≤ 10 by decide)) (src_new w11 #[.int .i64 0] _ 1 rfl (by decide)) (by decide)).mono ?_
  rintro e w12 ⟨d5, S5, rfl, hh5, hc5⟩
  obtain ⟨f5, hn5, hf5⟩ := c3_crash0 hc5
  have H5 := Lib.hid hh5; have HC5 := Lib.hid (crashed_calm hc5); have HN5 := Lib.hid hn5; have HF5 := Lib.hid hf5
  have HD12 : Hid (Holds (fun b => b < w7.heap.size) w7 w12 dc (c3 fc)) := (HC3.out.al _).across hh5
  clear hh5 hc5 hn5 hf5 HC3
  unfold ptr
  go_wp2_with fail
  refine (held2 (n := ⟨#[97]⟩) H5.out HC5.out HN5.out HF5.out rfl).mono ?_
  rintro e w13 ⟨rfl, hb13⟩
  have HD13 : Hid (Holds (fun b => b < w7.heap.size) w7 w13 dc (c3 fc)) := HD12.out.moved hb13
  clear hb13 H5 HC5 HN5 HF5 HD12
  go_wp2_with fail
  refine (crash_h (cs := [1]) (HD13.out.al _) (sm10 (show 3 ≤ 10 by decide) (show 3 ≤ 10 by decide)) (src_new w13 #[.int .i64 1] _ 1 rfl (by decide)) (by decide)).mono ?_
  rintro e w14 ⟨d6, S6, rfl, hh6, hc6⟩
  obtain ⟨f6, hn6, hf6⟩ := c3_crash1 hc6
  have H6 := Lib.hid hh6; have HC6 := Lib.hid (crashed_calm hc6); have HN6 := Lib.hid hn6; have HF6 := Lib.hid hf6
  have HD14 : Hid (Holds (fun b => b < w7.heap.size) w7 w14 dc (c3 fc)) := (HD13.out.al _).across hh6
  clear hh6 hc6 hn6 hf6 HD13
  unfold ptr
  go_wp2_with fail
  refine (held2 (n := ⟨#[98]⟩) H6.out HC6.out HN6.out HF6.out rfl).mono ?_
  rintro e w15 ⟨rfl, hb15⟩
  have HD15 : Hid (Holds (fun b => b < w7.heap.size) w7 w15 dc (c3 fc)) := HD14.out.moved hb15
  clear hb15 H6 HC6 HN6 HF6 HD14
  have HCL : Hid (Calls Try.prog 31 #[.pointer (some ⟨dc, 0, none⟩)] w15 fun e w' => e = .returned (.int .i64 3) ∧ w15 = w') := by
    obtain ⟨g, hr, _⟩ := HD15.out.ex
    exact calls_any hr
  go_wp2_with fail
  refine HCL.out.mono ?_
  rintro e w' ⟨rfl, rfl⟩
  have HB15 : Hid (BW w w15) := HB7.out.trans (HD15.out.below (fun _ h => h))
  clear HD15 HCL HB7
  go_wp2_with fail
  refine (new_h _).mono ?_
  rintro e w16 ⟨dx, rfl, _, hx0⟩
  have HX0 := Lib.hid hx0
  clear hx0
  unfold ptr
  go_wp2_with fail
  have hfl : Calls Try.prog 15 #[.pointer (some ⟨dx, 0, none⟩), .int .i64 2, .int .i64 12, .int .i64 4] w16 fun e w' => e = .returned (.tuple #[]) ∧ Holds (fun b => b < w15.heap.size) w15 w' dx x0 := by
    obtain ⟨g, hr, hg⟩ := HX0.out.ex
    refine (fail_any hr 2 12 4 (by decide) (by decide)).mono ?_
    rintro e w' ⟨he, hr', hm⟩
    exact ⟨he, HX0.out.step hg (Step.of hr' hm)⟩
  refine hfl.mono ?_
  clear hfl
  rintro e w17 ⟨rfl, hx1⟩
  have HX1 := Lib.hid hx1
  clear hx1 HX0
  go_wp2_with fail
  refine (create_w HX1.out (sm10 (by decide) (by decide)) ⟨#[97]⟩ sz97 opx1).mono ?_
  rintro e w18 ⟨fx, rfl, hx2⟩
  have HX2 := Lib.hid hx2
  clear hx2 HX1
  go_wp2_with fail
  refine (append_w HX2.out (sm10 (show 1 ≤ 10 by decide) (show 1 ≤ 10 by decide)) ⟨#[97]⟩ sz97 #[.int .u8 1, .int .u8 2, .int .u8 3] [1, 2, 3] 3 rfl rfl (by decide) (opx2 fx)).mono ?_
  rintro e w19 ⟨rfl, hx3⟩
  have HX3 := Lib.hid hx3
  clear hx3 HX2
  go_wp2_with fail
  refine (append_w HX3.out (sm10 (show 2 ≤ 10 by decide) (show 2 ≤ 10 by decide)) ⟨#[97]⟩ sz97 #[.int .u8 9] [9] 1 rfl rfl (by decide) (opx3 fx)).mono ?_
  rintro e w20 ⟨rfl, hx4⟩
  have HX4 := Lib.hid hx4
  clear hx4 HX3
  go_wp2_with fail
  refine (new_h _).mono ?_
  rintro e w21 ⟨dy, rfl, _, hy0⟩
  have HY0 := Lib.hid hy0
  have HX5 : Hid (Holds (fun b => b < w15.heap.size) w15 w21 dx (x3 fx)) := HX4.out.across hy0
  clear hy0
  unfold ptr
  go_wp2_with fail
  have hha : Calls Try.prog 17 #[.pointer (some ⟨dy, 0, none⟩), .int .i64 1] w21 fun e w' => e = .returned (.tuple #[]) ∧ Holds (fun b => b < w20.heap.size) w20 w' dy y0 := by
    obtain ⟨g, hr, hg⟩ := HY0.out.ex
    refine (halt_any hr 1 (by decide)).mono ?_
    rintro e w' ⟨he, hr', hm⟩
    exact ⟨he, HY0.out.step hg (Step.of hr' hm)⟩
  refine hha.mono ?_
  clear hha
  rintro e w22 ⟨rfl, hy1⟩
  have HY1 := Lib.hid hy1
  clear hy1 HY0
  go_wp2_with fail
  refine (create_w HY1.out (sm10 (by decide) (by decide)) ⟨#[97]⟩ sz97 opy1).mono ?_
  rintro e w23 ⟨fy, rfl, hy2⟩
  have HY2 := Lib.hid hy2
  clear hy2 HY1
  go_wp2_with fail
  refine (create_w HY2.out (sm10 (show 1 ≤ 10 by decide) (show 1 ≤ 10 by decide)) ⟨#[98]⟩ (szs _ (by decide)) (opy2 fy)).mono ?_
  rintro e w24 ⟨_, rfl, hy3⟩
  have HY3 := Lib.hid hy3
  clear hy3 HY2
  have HRY : Hid (Calls Try.prog 11 #[.pointer (some ⟨dy, 0, none⟩), .string ⟨#[97]⟩] w24 fun e w' => ∃ v, e = .returned (.tuple #[v, .int .i64 14]) ∧ BW w24 w') := by
    obtain ⟨g, hr, _⟩ := HY3.out.ex
    refine (read_any hr ⟨#[97]⟩ sz97).mono ?_
    rintro e w' ⟨v, he, _, hb⟩
    exact ⟨v, he, hb⟩
  go_wp2_with fail
  refine HRY.out.mono ?_
  rintro e w25 ⟨v25, rfl, hb25⟩
  have HX6 : Hid (Holds (fun b => b < w15.heap.size) w15 w25 dx (x3 fx)) := (HX4.out.across (HY3.out)).moved hb25
  clear hb25 HRY HX5 HX4 HY3
  go_wp2_with fail
  refine (new_h _).mono ?_
  rintro e w26 ⟨dz, rfl, _, hz0⟩
  have HZ0 := Lib.hid hz0
  have HX7 : Hid (Holds (fun b => b < w15.heap.size) w15 w26 dx (x3 fx)) := HX6.out.across hz0
  clear hz0
  unfold ptr
  go_wp2_with fail
  refine (held3 (n := ⟨#[97]⟩) (f := fx) (k := 0) (bs := [9]) HX7.out ⟨rfl, rfl⟩ rfl (upd_same _ _ _) rfl (xs := #[.int .u8 9]) rfl rfl (by decide)).mono ?_
  rintro e w27 ⟨rfl, hb27⟩
  have HZ1 : Hid (Holds (fun b => b < w25.heap.size) w25 w27 dz DS0) := HZ0.out.moved hb27
  have HXW : Hid (BW w15 w25) := HX6.out.below (fun _ h => h)
  clear hb27 HX6 HX7 HZ0
  go_wp2_with fail
  refine (create_w HZ1.out (sm10 (by decide) (by decide)) ⟨#[65]⟩ (szs _ (by decide)) opz1).mono ?_
  rintro e w28 ⟨_, rfl, hz2⟩
  have HZ2 := Lib.hid hz2
  clear hz2 HZ1
  go_wp2_with fail
  refine (create_w HZ2.out (sm10 (show 1 ≤ 10 by decide) (show 1 ≤ 10 by decide)) ⟨#[]⟩ (szs _ (by decide)) opz2).mono ?_
  rintro e w29 ⟨_, rfl, hz3⟩
  have HZ3 := Lib.hid hz3
  clear hz3 HZ2
  go_wp2_with fail
  refine (create_w HZ3.out (sm10 (show 2 ≤ 10 by decide) (show 2 ≤ 10 by decide)) ⟨#[97]⟩ sz97 opz3).mono ?_
  rintro e w30 ⟨fz, rfl, hz4⟩
  have HZ4 := Lib.hid hz4
  clear hz4 HZ3
  go_wp2_with fail
  refine (create_w HZ4.out (sm10 (show 3 ≤ 10 by decide) (show 3 ≤ 10 by decide)) ⟨#[97]⟩ sz97 (opz4 fz)).mono ?_
  rintro e w31 ⟨_, rfl, hz5⟩
  have HZ5 := Lib.hid hz5
  clear hz5 HZ4
  go_wp2_with fail
  refine (append_nil_w HZ5.out (sm10 (show 4 ≤ 10 by decide) (show 4 ≤ 10 by decide)) ⟨#[98]⟩ (szs _ (by decide)) (opz5 fz)).mono ?_
  rintro e w32 ⟨rfl, hz6⟩
  have HZ6 := Lib.hid hz6
  clear hz6 HZ5
  go_wp2_with fail
  refine (rename_w HZ6.out (sm10 (show 5 ≤ 10 by decide) (show 5 ≤ 10 by decide)) ⟨#[98]⟩ ⟨#[99]⟩ (szs _ (by decide)) (szs _ (by decide)) (opz6 fz)).mono ?_
  rintro e w33 ⟨rfl, hz7⟩
  have HZ7 := Lib.hid hz7
  clear hz7 HZ6
  go_wp2_with fail
  refine (rename_w HZ7.out (sm10 (show 6 ≤ 10 by decide) (show 6 ≤ 10 by decide)) ⟨#[97]⟩ ⟨#[97]⟩ (szs _ (by decide)) (szs _ (by decide)) (opz7 fz)).mono ?_
  rintro e w34 ⟨rfl, hz8⟩
  have HZ8 := Lib.hid hz8
  clear hz8 HZ7
  go_wp2_with fail
  refine (delete_w HZ8.out (sm10 (show 7 ≤ 10 by decide) (show 7 ≤ 10 by decide)) ⟨#[98]⟩ (szs _ (by decide)) (opz8 fz)).mono ?_
  rintro e w35 ⟨rfl, hz9⟩
  have HZ9 := Lib.hid hz9
  clear hz9 HZ8
  have HFZ : Hid (Calls Try.prog 19 #[.pointer (some ⟨dz, 0, none⟩), .string ⟨#[97]⟩, .int .i64 0, .int .u8 1] w35 fun e w' => e = .returned (.int .i64 1) ∧ w35 = w') := by
    obtain ⟨g, hr, _⟩ := HZ9.out.ex
    exact flip_no hr ⟨#[97]⟩ sz97 rfl (f := fz) rfl (Go.Proofs.Ytjiklpoggpdngaa.fz fz) 1
  go_wp2_with fail
  refine HFZ.out.mono ?_
  rintro e w' ⟨rfl, rfl⟩
  go_wp2
  go_ret
  exact ⟨rfl, (HB15.out.trans HXW.out).trans (HZ9.out.below (fun _ h => h))⟩

end Go.Proofs.Ytjiklpoggpdngaa
