/- pack.blockForm. -/
import Derived.Test.YtdoliejihinpkaaPackH
namespace Go.Proofs.Ytdoliejihinpkaa
open Go.RowKit Go.Maps

theorem unbits_any {w : World} {v : Value} {bs : List UInt8} (h : Src w v (bs.map bV)) (k n : Nat) (hk : k ≤ 64) (hn : n ≤ 1048576) : Calls Try.prog 14 #[v, .int .i64 (k : Int), .int .i64 (n : Int)] w (UnbPost w bs k n) := by
  by_cases hl : bs.length = packed n k
  · exact unbits_walk h k n hk hn hl
  · have hb : (bs.length : Int) ≤ 9223372036854775807 := by
      rcases h with ⟨_, _, _, h2, _⟩ | ⟨_, _, _, _, h2, h3, _⟩
      · have : bs = [] := by simpa using h2
        subst this; decide
      · rw [List.length_map] at h2; omega
    obtain ⟨ao, cap, rfl⟩ := h.len
    rw [List.length_map]
    exact unbits_len hk hn hb hl

/-- a row that is filled from its head on -/
theorem fill_set {α : Type} (A : List α) (n i : Nat) (z y : α) (hA : A.length = i) (hi : i < n) : (A ++ List.replicate (n - i) z).set i y = (A ++ [y]) ++ List.replicate (n - (i + 1)) z := by
  rw [List.set_append_right _ _ (by omega), hA, Nat.sub_self, show n - i = (n - (i + 1)) + 1 by omega, List.replicate_succ, List.set_cons_zero, List.append_assoc]
  rfl
def upN (m : Int) (x : Int) : Nat := (x - m).toNat
theorem above_upN (l : List Int) : aboveP l = l.map (upN (minL l)) := rfl
theorem up_wrap {m x : Int} (hm : I64 m) (hx : I64 x) (h : m ≤ x) : IntKind.u64.wrap (IntKind.u64.wrap x - IntKind.u64.wrap m) = (upN m x : Int) := by
  unfold I64 at hm hx
  unfold upN
  rw [IntKind.wrap_u64, IntKind.wrap_u64, IntKind.wrap_u64]
  omega
theorem up_lt {m x : Int} (hm : I64 m) (hx : I64 x) : upN m x < 18446744073709551616 := by unfold I64 at hm hx; unfold upN; omega

set_option maxRecDepth 100000 in
set_option maxHeartbeats 2000000 in
theorem blockForm_any {w : World} {v : Value} {l : List Int} (h : Src w v (l.map iV)) (h0 : l ≠ []) (hl : I64s l) (hlen : l.length ≤ 128) : Calls Try.prog 40 #[v] w (BytesPost w (blockP l)) := by
  obtain ⟨ao, cap, rfl⟩ := h.len
  rw [List.length_map] at h ⊢
  have HMIN := Lib.hid (min_any h h0 hl)
  have H := Lib.hid h
  have HL := Lib.hid hl
  have hpos : 0 < l.length := List.length_pos_iff.2 h0
  have hle : (l.length : Int) ≤ 128 := by omega
  obtain ⟨n, hn⟩ : ∃ n, n = l.length := ⟨_, rfl⟩
  rw [← hn] at HMIN H hle ⊢
  obtain ⟨m, hm⟩ : ∃ m, m = minL l := ⟨_, rfl⟩
  have HM64 : Hid (I64 m) := by unfold Hid; rw [hm]; exact hl _ (minL_mem h0)
  have HMLE : Hid (∀ x ∈ l, m ≤ x) := by unfold Hid; rw [hm]; exact fun x hx => minL_le hx
  rw [← hm] at HMIN
  have HN := Lib.hid hn
  have HM := Lib.hid hm
  obtain ⟨w1, hrun, hown, hbw⟩ := make_zero (t := 22) (z := .int .u64 0) (bytes := 8) Try.underlying22 info_u64 rfl n (by omega) (by omega) w
  have HOWN := Lib.hid hown
  have HBW := Lib.hid hbw
  clear h h0 hl hlen hn hm hown hbw hpos
  go_enter Try.func40, Try.ntmps40
  go_wp2_with (go_at_call 49; refine HMIN.out.mono ?_; rintro e w' ⟨rfl, rfl⟩)
  clear HMIN hrun
  go_loopg [16] n (fun g s16 wx => ∃ i : Nat, i + g = n ∧ s16 = .int .i64 i ∧ wx.ownsRow w.heap.size 52 1 (.slice (some ⟨w.heap.size, 0, none⟩) n n) n (((l.take i).map (upN m) ++ List.replicate (n - i) 0).map uV) ∧ BW w wx)
  case atStart => exact ⟨0, by omega, rfl, by have := HOWN.out; simpa [uV] using this, HBW.out⟩
  case round =>
    obtain ⟨i, hig, rfl, hrow, hbx⟩ := hrel
    have HROW := Lib.hid hrow
    have HBX := Lib.hid hbx
    clear hrow hbx
    cases gk with
    | zero =>
      have hge : (n : Int) ≤ (i : Int) := by omega
      have hin : i = n := by omega
      have HIN := Lib.hid hin
      have HAB : Hid (wr.ownsRow w.heap.size 52 1 (.slice (some ⟨w.heap.size, 0, none⟩) n n) n ((aboveP l).map uV)) := by
        unfold Hid
        have h1 := HROW.out
        rw [hin, Nat.sub_self, List.replicate_zero, List.append_nil, List.take_of_length_le (by have := HN.out; omega)] at h1
        rw [above_upN, ← HM.out]; exact h1
      have HU : Hid (U64s (aboveP l)) := above_lt HL.out
      have HWID := Lib.hid (width_any (Src.of_row HAB.out) HU.out)
      clear hin
      go_wp2_with fail
      refine HWID.out.mono ?_
      rintro e w2 ⟨rfl, nn, hw2⟩
      have HB2 : Hid (BW w w2) := by rw [hw2]; exact bw_drew HBX.out nn
      have HAB2 : Hid (w2.ownsRow w.heap.size 52 1 (.slice (some ⟨w.heap.size, 0, none⟩) n n) n ((aboveP l).map uV)) := by rw [hw2]; exact HAB.out
      obtain ⟨wd, hwd⟩ : ∃ wd, wd = widP (aboveP l) := ⟨_, rfl⟩
      have HWD := Lib.hid hwd
      have hwd64 : (wd : Int) ≤ 64 := by rw [hwd]; have := widP_64 (aboveP l); omega
      rw [← hwd]
      have HPI := Lib.hid (putInt_any (w := w2) (bv := .slice none 0 0) (bs := []) (Src.nil w2) m HM64.out.1 HM64.out.2 (by decide))
      clear hw2 hwd
      go_wp2_with fail
      refine HPI.out.mono ?_
      rintro e w3 ⟨v3, rfl, ho3, hb3⟩
      rw [List.nil_append] at ho3
      have HO3 := Lib.hid (row_base ho3 HB2.out.size)
      have ho3' := Lib.hid ho3
      have hb3' := Lib.hid hb3.size
      have HB3 := Lib.hid (HB2.out.trans hb3)
      have HAB3 := Lib.hid (Src.below (Src.of_row HAB2.out) hb3)
      have hww : IntKind.u8.wrap (wd : Int) = (wd : Int) := by rw [IntKind.wrap_u8']; omega
      clear ho3 hb3
      have HF10 : Hid ((form (turned m)).length ≤ 10) := form_len10 (turned_lt HM64.out.1 HM64.out.2)
      have HU64 := Lib.hid HU.out
      go_wp2_with (at_builtin; refine append_bytes rfl (.tmp 33) (.tmp 36) rfl w.heap.size v3 (form (turned m)).length (form (turned m)) rfl (HO3.out.alloc _) (.slice (some ⟨w3.heap.size, 0, none⟩) 1 1) rfl [UInt8.ofNat wd] (src_byte rfl (by omega)) ?_ ?_ ?_)
      · have := HF10.out; simp; omega
      · have := HB3.out.size; simp; omega
      intro v4 w4 ho4 hg4
      have HO4 := Lib.hid ho4
      have HB4 := Lib.hid (bw_grown (HB3.out.alloc _) hg4 (row_own HO3.out))
      have HAB4 : Hid (Src w4 (.slice (some ⟨w.heap.size, 0, none⟩) n n) ((aboveP l).map uV)) := by
        unfold Hid
        refine HAB3.out.keep ?_ fun _ a n c e => ?_
        · exact Nat.le_trans (by simp) hg4.size
        · cases e
          have hlt : w.heap.size < w2.heap.size := row_lt HAB2.out rfl
          have hw23 : w2.heap.size ≤ w3.heap.size := hb3'.out
          have h1 : (w3.alloc (.cells #[.int .u8 (wd : Int)] 5)).heap[w.heap.size]? = w3.heap[w.heap.size]? := Below.heap_alloc _ _ _ (by omega)
          refine (hg4.block _ (by simp; omega) ?_).trans h1
          intro e
          obtain ⟨a, n1, c1, hv3, hab⟩ := own_some e.symm
          have h5 := new_of_row ho3'.out hv3
          have hab : a.block = w.heap.size := hab
          omega
      have HBITS := Lib.hid (bits_any HAB4.out HU64.out (by rw [above_len]; have := HN.out; omega) wd (by omega))
      clear ho4 hg4
      go_wp2_with fail
      refine HBITS.out.mono ?_
      rintro e w5 ⟨v5, rfl, ho5, hb5⟩
      have HO5 := Lib.hid (Src.of_row ho5)
      have HB5 := Lib.hid (HB4.out.trans hb5)
      have HO45 : Hid (w5.ownsRow w.heap.size 5 1 v4 ((form (turned m)).length + 1) ((form (turned m) ++ [UInt8.ofNat wd]).map bV)) := by
        unfold Hid
        have h1 : w4.ownsRow w.heap.size 5 1 v4 ((form (turned m)).length + 1) ((form (turned m) ++ [UInt8.ofNat wd]).map bV) := by
          have := HO4.out
          simpa using this
        refine row_keep h1 fun a n c e => hb5.block _ ?_
        exact row_lt h1 e
      have HWN : Hid (wd ≤ 64) := by unfold Hid; omega
      have HNL : Hid (n ≤ 128) := by unfold Hid; omega
      clear ho5 hb5
      obtain ⟨o5, n5, c5, rfl⟩ := row_form HO45.out
      go_wp2_with (at_builtin; refine append_bytes rfl (.tmp 38) (.tmp 41) rfl w.heap.size _ ((form (turned m)).length + 1) (form (turned m) ++ [UInt8.ofNat wd]) rfl HO45.out v5 rfl (bitsP (aboveP l) wd) HO5.out ?_ ?_ ?_)
      · rw [bitsP_len]; have := HF10.out; have := packed_le (k := (aboveP l).length) HWN.out; rw [above_len, ← HN.out] at *; have := HNL.out; omega
      · exact HB5.out.size
      intro v6 w6 ho6 hg6
      have e1 : form (turned m) ++ [UInt8.ofNat wd] ++ bitsP (aboveP l) wd = blockP l := by
        unfold blockP; rw [← HM.out, ← HWD.out, List.append_assoc]; rfl
      have e2 : (form (turned m)).length + 1 + (bitsP (aboveP l) wd).length = (blockP l).length := by rw [← e1]; simp; omega
      have HO6 : Hid (w6.ownsRow w.heap.size 5 1 v6 (blockP l).length ((blockP l).map bV)) := by
        unfold Hid
        rw [← e2, ← e1]
        simpa using ho6
      have HB6 := Lib.hid (bw_grown HB5.out hg6 (row_own HO45.out))
      clear ho6 hg6 e1 e2
      go_wp2
      go_ret
      exact ⟨_, rfl, HO6.out, HB6.out⟩
    | succ g =>
      have hi : (i : Int) < (n : Int) := by omega
      have hi0 : (0 : Int) ≤ (i : Int) := by omega
      have hil : i < l.length := by have := HN.out; omega
      have hx : l[i]? = some l[i] := List.getElem?_eq_getElem hil
      obtain ⟨b0, o0, rfl, hc0⟩ := (H.out.below HBX.out).get (i := i) (u := .int .i64 l[i]) (by rw [List.getElem?_map, hx]; rfl)
      have hup := up_wrap HM64.out (HL.out _ (List.getElem_mem hil)) (HMLE.out _ (List.getElem_mem hil))
      have HTK : Hid (l.take (i + 1) = l.take i ++ [l[i]]) := List.take_succ_eq_append_getElem hil
      have HTL : Hid ((l.take i).length = i) := by unfold Hid; rw [List.length_take]; omega
      obtain ⟨x, hxe⟩ : ∃ x, x = l[i] := ⟨_, rfl⟩
      rw [← hxe] at hc0 hup HTK
      obtain ⟨y, hy⟩ : ∃ y, y = upN m x := ⟨_, rfl⟩
      rw [← hy] at hup
      obtain ⟨g0, eg, _, _, ⟨x0, hx1, hx2⟩, hfr, hrow3⟩ := own_set (y := .int .u64 (y : Int)) HROW.out (show i < n by omega) rfl
      cases eg
      have HROW3 : Hid ((wr.setCell ⟨w.heap.size, i, none⟩ (.int .u64 (y : Int))).ownsRow w.heap.size 52 1 (.slice (some ⟨w.heap.size, 0, none⟩) n n) n (((l.take (i + 1)).map (upN m) ++ List.replicate (n - (i + 1)) 0).map uV)) := by
        unfold Hid
        rw [show Value.int .u64 (y : Int) = uV y from rfl, ← List.map_set, fill_set _ _ _ _ _ (by rw [List.length_map]; exact HTL.out) (by omega)] at hrow3
        have e : (l.take (i + 1)).map (upN m) = (l.take i).map (upN m) ++ [y] := by rw [HTK.out, List.map_append, hy]; rfl
        rw [e]; exact hrow3
      have HBX3 : Hid (BW w (wr.setCell ⟨w.heap.size, i, none⟩ (.int .u64 (y : Int)))) := HBX.out.setCell (Nat.le_refl _) _
      clear hrow3 hx1 hxe hy hx hil
      go_wp2
      go_roundg g
      case measure => omega
      case rel => exact ⟨i + 1, by omega, by first | rfl | simp, HROW3.out, HBX3.out⟩
end Go.Proofs.Ytdoliejihinpkaa
