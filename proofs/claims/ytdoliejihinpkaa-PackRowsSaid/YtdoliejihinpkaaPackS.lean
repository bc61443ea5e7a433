/- PackShort: the walk. -/
import Derived.Test.YtdoliejihinpkaaPackR
namespace Go.Proofs.Ytdoliejihinpkaa
open Go.RowKit Go.Maps

theorem and_mask (t : Int) (M : Nat) (hM : M < 9223372036854775808) : ∃ k : Nat, k ≤ M ∧ bits .and .i64 t (M : Int) = (k : Int) := by
  refine ⟨(BitVec.ofInt 64 t &&& BitVec.ofInt 64 (M : Int)).toNat, ?_, ?_⟩
  · rw [BitVec.toNat_and]
    refine Nat.le_trans Nat.and_le_right ?_
    rw [ofInt_u64 M (by omega)]; exact Nat.le_refl _
  · have h : (BitVec.ofInt 64 t &&& BitVec.ofInt 64 (M : Int)).toNat ≤ M := by
      rw [BitVec.toNat_and]
      refine Nat.le_trans Nat.and_le_right ?_
      rw [ofInt_u64 M (by omega)]; exact Nat.le_refl _
    show IntKind.i64.wrap ((BitVec.ofInt 64 t &&& BitVec.ofInt 64 (M : Int)).toNat : Int) = _
    rw [IntKind.wrap_i64]
    omega
theorem same_block (j : Nat) (n : Int) : blockP (List.replicate (j + 1) n) = form (turned n) ++ [0] := by
  have hm : minL (List.replicate (j + 1) n) = n := minL_eq (List.mem_replicate.2 ⟨by omega, rfl⟩) (fun x hx => by rw [(List.mem_replicate.1 hx).2]; exact Int.le_refl _)
  have ha : aboveP (List.replicate (j + 1) n) = List.replicate (j + 1) 0 := by unfold aboveP; rw [hm, List.map_replicate]; simp
  have hw : widP (List.replicate (j + 1) 0) = 0 := widP_eq (fun x hx => by rw [(List.mem_replicate.1 hx).2]; decide) (fun x hx => by rw [(List.mem_replicate.1 hx).2]; decide) (fun _ _ => Nat.zero_le _)
  unfold blockP
  rw [hm, ha, hw]
  have hb : bitsP (List.replicate (j + 1) 0) 0 = [] := by unfold bitsP packed; simp [bytesOf]
  rw [hb]; rfl
theorem same_put {j : Nat} (hj : j ≤ 127) (n : Int) : putP (List.replicate (j + 1) n) = form (turned n) ++ [0] := by
  rw [putP_one (by simp) (by rw [List.length_replicate]; omega), same_block]
theorem last_zero {w : World} {base : Nat} {v : Value} {l : List UInt8} (h : w.ownsRow base 5 1 v (l ++ [0]).length ((l ++ [0]).map bV)) : ∃ g c, v = .slice (some ⟨g, 0, none⟩) (l.length + 1) c ∧ w.cell? ⟨g, l.length, none⟩ = some (.int .u8 0) := by
  obtain ⟨h1, h2 | ⟨g, cp, cur, hv', hg, hh, hn', hc', hcs', htk⟩⟩ := id h
  · have := h2.2; simp at this
  · refine ⟨g, cp, by rw [hv']; simp, ?_⟩
    have h3 := (row_cell h hv' (i := l.length) (by simp)).1
    rw [Nat.zero_add] at h3
    simp only [List.map_append, List.map_cons, List.map_nil] at h3
    rw [h3]
    simp [bV]

theorem short_far {w : World} {ao : Option Addr} {ln cap : Nat} {n t : Int} (h : (1000 : Int) < (ln : Int)) : Calls Try.prog 8 #[.slice ao ln cap, .int .i64 n, .int .i64 t] w (TruePost w) := by
  have hd : decide (1000 < ln) = true := decide_eq_true (by omega)
  have hd2 : decide ((1000 : Int) < (ln : Int)) = true := decide_eq_true h
  go_enter Try.func8, Try.ntmps8
  go_wp2_with (first | (go_at_call 9; refine (awake_any _).mono ?_; rintro e w' ⟨rfl, hb⟩))
  go_ret
  exact ⟨rfl, hb⟩

set_option maxHeartbeats 4000000 in
set_option maxRecDepth 100000 in
theorem short_any {w : World} {v : Value} {us : List Nat} (h : Src w v (us.map uV)) (hus : U64s us) (n t : Int) (hn : I64 n) : Calls Try.prog 8 #[v, .int .i64 n, .int .i64 t] w (TruePost w) := by
  obtain ⟨ao, cap, rfl⟩ := h.len
  rw [List.length_map] at h ⊢
  by_cases hf : (1000 : Int) < (us.length : Int)
  · exact short_far hf
  obtain ⟨ln, hln⟩ : ∃ ln, ln = us.length := ⟨_, rfl⟩
  rw [← hln] at h hf ⊢
  have hd : decide (1000 < ln) = false := decide_eq_false (by omega)
  have hd2 : decide ((1000 : Int) < (ln : Int)) = false := decide_eq_false hf
  have hl0 : (ln : Int) ≤ 1000 := by omega
  obtain ⟨wd, hwd⟩ : ∃ wd, wd = widP us := ⟨_, rfl⟩
  have hw64 : wd ≤ 64 := by rw [hwd]; exact widP_64 us
  obtain ⟨P, hP⟩ : ∃ P, P = wd * ln := ⟨_, rfl⟩
  have hPb : P ≤ 64 * 1000 := by rw [hP]; exact Nat.mul_le_mul hw64 (by omega)
  have hmul : IntKind.i64.wrap ((wd : Int) * (ln : Int)) = (P : Int) := by rw [hP, ← Int.natCast_mul]; exact IntWalk.i64_in _ (by rw [← hP]; omega)
  have hP0 : 0 ≤ (P : Int) := by omega
  have hP1 : (P : Int) ≤ 64000 := by omega
  obtain ⟨pk, hpk⟩ : ∃ pk, pk = (P + 7) / 8 := ⟨_, rfl⟩
  have hpk1 : ((P : Int) + 7) / 8 = (pk : Int) := by omega
  have hpk2 : ((pk : Int) != (pk : Int)) = false := by simp
  have hpkl : (bitsP us wd).length = pk := by rw [bitsP_len, ← hln, hpk, hP]; unfold packed; rw [Nat.mul_comm]
  obtain ⟨k, hk, hand⟩ := and_mask t 127 (by decide)
  have hand' : bits .and .i64 t 127 = (k : Int) := hand
  have H := Lib.hid h; have HUS := Lib.hid hus; have HN := Lib.hid hn; have HWD := Lib.hid hwd; have HPK := Lib.hid hpkl; have HLN := Lib.hid hln
  have hk0 : 0 ≤ (k : Int) := by omega
  have hk1 : (k : Int) ≤ 127 := by omega
  clear h hus hn hwd hf hP hPb hpk hpkl hand hln
  go_enter Try.func8, Try.ntmps8
  go_wp2_with fail
  refine (awake_any _).mono ?_
  rintro e w1 ⟨rfl, hb1⟩
  have HB1 := Lib.hid hb1
  have HWID := Lib.hid (width_any (H.out.below hb1) HUS.out)
  unfold WidPost at HWID
  rw [← HWD.out] at HWID
  clear hb1
  go_wp2_with fail
  refine HWID.out.mono ?_
  rintro e w2 ⟨rfl, n2, hw2⟩
  have HB2 : Hid (BW w w2) := by rw [hw2]; exact bw_drew HB1.out n2
  have HBITS := Lib.hid (bits_any (H.out.below HB2.out) HUS.out (by have := HLN.out; omega) wd hw64)
  clear hw2
  go_wp2_with fail
  refine HBITS.out.mono ?_
  rintro e w3 ⟨v3, rfl, ho3, hb3⟩
  have HB3 := Lib.hid (HB2.out.trans hb3)
  rw [HPK.out] at ho3
  obtain ⟨o3, n3, c3, rfl⟩ := row_form ho3
  obtain rfl := row_len ho3 rfl
  obtain ⟨w4, hrun, hown, hbw⟩ := make_zero (t := 41) (z := .int .i64 0) (bytes := 8) Try.underlying41 info_i64 rfl (k + 1) (by omega) (by omega) w3
  rw [Int.natCast_add] at hrun
  have hrun' : (Instr.makeSlice 41 (.int .i64 ((k : Int) + 1)) (.int .i64 ((k : Int) + 1))).run Try.prog w3 = .ok (.slice (some ⟨w3.heap.size, 0, none⟩) (k + 1) (k + 1)) w4 := hrun
  have HOWN := Lib.hid hown; have HB4 := Lib.hid (HB3.out.trans hbw); have HBW4 := Lib.hid hbw
  clear ho3 hb3 hrun hown hbw
  go_wp2
  go_loopg [10] (k + 1) (fun g s10 wx => ∃ i : Nat, i + g = k + 1 ∧ s10 = .int .i64 i ∧ wx.ownsRow w3.heap.size 2 1 (.slice (some ⟨w3.heap.size, 0, none⟩) (k + 1) (k + 1)) (k + 1) ((List.replicate i n ++ List.replicate (k + 1 - i) 0).map iV) ∧ BW w3 wx)
  case atStart => exact ⟨0, by omega, rfl, by have := HOWN.out; simpa [iV] using this, HBW4.out⟩
  case round =>
    obtain ⟨i, hig, rfl, hrow, hbx⟩ := hrel
    have HROW := Lib.hid hrow
    have HBX := Lib.hid hbx
    clear hrow hbx hrun'
    cases gk with
    | zero =>
      have hge : (k : Int) < (i : Int) := by omega
      have hin : i = k + 1 := by omega
      have HFULL : Hid (Src wr (.slice (some ⟨w3.heap.size, 0, none⟩) (k + 1) (k + 1)) ((List.replicate (k + 1) n).map iV)) := by
        unfold Hid
        have h1 := HROW.out
        rw [hin, Nat.sub_self, List.replicate_zero, List.append_nil] at h1
        exact Src.of_row h1
      have HPUT := Lib.hid (put_any HFULL.out (fun x hx => by rw [(List.mem_replicate.1 hx).2]; exact HN.out) (by rw [List.length_replicate]; omega))
      have HB5 := Lib.hid (HB3.out.trans HBX.out)
      rw [same_put hk] at HPUT
      clear hin
      go_wp2_with fail
      refine HPUT.out.mono ?_
      rintro e w6 ⟨v6, rfl, ho6, hb6⟩
      obtain ⟨g6, c6, rfl, hc6⟩ := last_zero ho6
      have HB6 := Lib.hid (HB5.out.trans hb6)
      have HPUT2 := Lib.hid (put_any (l := [n]) (src_newI w6 #[.int .i64 n] 1 [n] rfl (by decide) rfl) (fun x hx => by rw [List.mem_singleton.1 hx]; exact HN.out) (show 1 ≤ 1048576 by decide))
      rw [show putP [n] = form (turned n) ++ [0] from same_put (j := 0) (by decide) n] at HPUT2
      have hfl := form_len10 (turned_lt HN.out.1 HN.out.2)
      have hfp := form_pos (turned n)
      obtain ⟨fl, hfe⟩ : ∃ fl, fl = (form (turned n)).length := ⟨_, rfl⟩
      have HFE := Lib.hid hfe
      rw [← hfe] at hc6 hfl hfp
      have hg6 : g6 < w6.heap.size := row_lt ho6 rfl
      have hcl : (form (turned n) ++ [0]).length = fl + 1 := by rw [List.length_append, ← hfe]; rfl
      have HCL := Lib.hid hcl
      rw [← hfe]
      have hfl1 : (fl : Int) ≤ 10 := by omega
      have hfp1 : 1 ≤ (fl : Int) := by omega
      clear ho6 hb6 hfe hcl
      go_wp2_with fail
      refine HPUT2.out.mono ?_
      rintro e w7 ⟨v7, rfl, ho7, hb7⟩
      have hc7 : w7.cell? ⟨g6, fl, none⟩ = some (.int .u8 0) := by
        have h1 : w7.heap[g6]? = w6.heap[g6]? := ((bw_alloc w6 _).trans hb7).block _ hg6
        exact (World.cell?_of_block (w := w6) (a := ⟨g6, fl, none⟩) h1).trans hc6
      rw [HCL.out] at ho7
      have HB7 := Lib.hid ((HB6.out.alloc _).trans hb7)
      obtain ⟨o7, n7, c7, rfl⟩ := row_form ho7
      obtain rfl := row_len ho7 rfl
      clear ho7 hb7 hc6
      have hq1 : (((fl + 1 : Nat) : Int) == ((fl + 1 : Nat) : Int)) = true := by simp
      have hq2 : decide ((2 : Int) ≤ (fl : Int) + 1) = true := decide_eq_true (by omega)
      have hq3 : decide ((fl : Int) + 1 ≤ 11) = true := decide_eq_true (by omega)
      go_wp2
      go_ret
      refine ⟨ret_bool ?_, HB7.out⟩
      rfl
    | succ g =>
      have hi : (i : Int) ≤ (k : Int) := by omega
      have hi0 : (0 : Int) ≤ (i : Int) := by omega
      have hi1 : (i : Int) < (k : Int) + 1 := by omega
      obtain ⟨g0, eg, _, _, ⟨x0, hx1, hx2⟩, hfr, hrow3⟩ := own_set (y := .int .i64 n) HROW.out (show i < k + 1 by omega) rfl
      cases eg
      have HROW3 : Hid ((wr.setCell ⟨w3.heap.size, i, none⟩ (.int .i64 n)).ownsRow w3.heap.size 2 1 (.slice (some ⟨w3.heap.size, 0, none⟩) (k + 1) (k + 1)) (k + 1) ((List.replicate (i + 1) n ++ List.replicate (k + 1 - (i + 1)) 0).map iV)) := by
        unfold Hid
        rw [show Value.int .i64 n = iV n from rfl, ← List.map_set, fill_set _ _ _ _ _ (by rw [List.length_replicate]) (by omega)] at hrow3
        rw [List.replicate_succ']; exact hrow3
      have HBX3 : Hid (BW w3 (wr.setCell ⟨w3.heap.size, i, none⟩ (.int .i64 n))) := HBX.out.setCell (Nat.le_refl _) _
      clear hrow3 hx1
      go_wp2
      go_roundg g
      case measure => omega
      case rel => exact ⟨i + 1, by omega, by first | rfl | simp, HROW3.out, HBX3.out⟩
end Go.Proofs.Ytdoliejihinpkaa
