/- CodecBack: the walk. -/
import Derived.Test.YthepoplekabcoaaBackA
import Derived.Deep.RegionWith
import Derived.IntWalk
namespace Go.Proofs.Ythepoplekabcoaa
open Go.RowKit Go.Maps

def uV (u : Nat) : Value := .int .u64 (u : Int)
def nV (n : Int) : Value := .int .i64 n
def tV (s : ByteArray) : Value := .string s

theorem bw_drew2 {w w' : World} (h : BW w w') : BW w w'.drew := ⟨h.os, h.tape, h.output, h.size, h.block⟩

theorem elem_at {w : World} {ao : Option Addr} {N cap : Nat} {xs : List Value} (h : Src w (.slice ao N cap) xs) {k : Nat} {u : Value} (hk : xs[k]? = some u) : ∃ b off, ao = some ⟨b, off, none⟩ ∧ ∀ W, BW w W → W.cell? ⟨b, off + k, none⟩ = some u := by
  rcases h with ⟨_, _, _, hx, _⟩ | ⟨b, off, c, hv, _, _, h3, h4⟩
  · rw [hx] at hk; simp at hk
  · injection hv with e1 _ _
    exact ⟨b, off, e1, fun W hW => (World.cell?_of_block (w := w) (a := ⟨b, off + k, none⟩) (hW.block b h3)).trans (h4 k u hk)⟩
theorem take_one {α : Type} {l : List α} {k : Nat} {x : α} (h : l[k]? = some x) : l.take (k + 1) = l.take k ++ [x] := by
  obtain ⟨h1, h2⟩ := List.getElem?_eq_some_iff.1 h
  rw [List.take_succ_eq_append_getElem h1, h2]
theorem drop_one {α : Type} {l : List α} {k : Nat} {x : α} (h : l[k]? = some x) : l.drop k = x :: l.drop (k + 1) := by
  obtain ⟨h1, h2⟩ := List.getElem?_eq_some_iff.1 h
  rw [List.drop_eq_getElem_cons h1, h2]
theorem sum_take_le (l : List Nat) (k : Nat) : (l.take k).sum ≤ l.sum := by
  conv => rhs; rw [← List.take_append_drop k l, List.sum_append]
  omega

theorem le_sum : ∀ {l : List Nat} {x : Nat}, x ∈ l → x ≤ l.sum
  | [], _, h => by cases h
  | y :: r, x, h => by
    rw [List.sum_cons]
    rcases List.mem_cons.1 h with e | e
    · omega
    · have := le_sum e; omega

theorem tmod_bounds (a : Int) {n : Int} (hn : 0 < n) : -n < a.tmod n ∧ a.tmod n < n := by
  rcases Int.le_total 0 a with h | h
  · rw [Int.tmod_eq_emod_of_nonneg h]
    have h1 := Int.emod_nonneg a (show n ≠ 0 by omega)
    have h2 := Int.emod_lt_of_pos a hn
    omega
  · have e : a.tmod n = -((-a).tmod n) := by rw [Int.neg_tmod, Int.neg_neg]
    rw [e, Int.tmod_eq_emod_of_nonneg (by omega)]
    have h1 := Int.emod_nonneg (-a) (show n ≠ 0 by omega)
    have h2 := Int.emod_lt_of_pos (-a) hn
    omega
theorem encT_size {ts : List ByteArray} {k : Nat} {x : ByteArray} (h : ts[k]? = some x) : x.size ≤ (encT ts).length := by
  have h1 := List.mem_of_getElem? h
  clear h
  induction ts with
  | nil => cases h1
  | cons y r ih =>
    have h3 : y.data.toList.length = y.size := rfl
    rw [encT_cons, List.length_append, List.length_append]
    rcases List.mem_cons.1 h1 with e | e
    · subst e; omega
    · have := ih e; omega

/-- what comes in -/
structure BackIn (w : World) (uv nv tv : Value) (us : List Nat) (ns : List Int) (ts : List ByteArray) (cut : Int) : Prop where
  u : Src w uv (us.map uV)
  n : Src w nv (ns.map nV)
  t : Src w tv (ts.map tV)
  wu : ∀ x ∈ us, x < 18446744073709551616
  wn : ∀ x ∈ ns, -9223372036854775808 ≤ x ∧ x ≤ 9223372036854775807
  wc : -9223372036854775808 ≤ cut ∧ cut ≤ 9223372036854775807
  lu : us.length ≤ 1048576
  ln : ns.length ≤ 1048576
  lt : ts.length + (ts.map (·.size)).sum ≤ 1048576

theorem BackIn.st {w : World} {uv nv tv : Value} {us : List Nat} {ns : List Int} {ts : List ByteArray} {cut : Int} (h : BackIn w uv nv tv us ns ts cut) : ∀ s ∈ ts, s.size ≤ 1048576 := by
  intro s hs
  have h1 : s.size ≤ (ts.map (·.size)).sum := le_sum (List.mem_map.2 ⟨s, hs, rfl⟩)
  have := h.lt
  omega

set_option maxHeartbeats 20000000 in
set_option maxRecDepth 100000 in
theorem back_any {w : World} {uv nv tv : Value} {us : List Nat} {ns : List Int} {ts : List ByteArray} {cut : Int} (h : BackIn w uv nv tv us ns ts cut) :
    Calls Try.prog 6 #[uv, nv, tv, .int .i64 cut] w (TruePost w) := by
  obtain ⟨uo, uc, rfl⟩ := h.u.len
  obtain ⟨no, nc, rfl⟩ := h.n.len
  obtain ⟨xo, tc, rfl⟩ := h.t.len
  rw [List.length_map, List.length_map, List.length_map] at h ⊢
  have H := Lib.hid h
  have hlu := h.lu; have hln := h.ln; have hlt0 := h.lt
  obtain ⟨N1, hN1⟩ : ∃ N, us.length = N := ⟨_, rfl⟩
  obtain ⟨N2, hN2⟩ : ∃ N, ns.length = N := ⟨_, rfl⟩
  obtain ⟨N3, hN3⟩ : ∃ N, ts.length = N := ⟨_, rfl⟩
  have HN1 := Lib.hid hN1; have HN2 := Lib.hid hN2; have HN3 := Lib.hid hN3
  rw [hN1] at hlu H; rw [hN2] at hln H; rw [hN3] at hlt0 H
  rw [hN1, hN2, hN3]
  have hb1 : (N1 : Int) ≤ 1048576 := by omega
  have hb2 : (N2 : Int) ≤ 1048576 := by omega
  have hb3 : (N3 : Int) ≤ 1048576 := by omega
  have HL3 := Lib.hid hlt0
  have HB12 : Hid (N1 ≤ 1048576 ∧ N2 ≤ 1048576) := ⟨hlu, hln⟩
  have HEL1 : Hid (∀ k ≤ N1, (encU (us.take k)).length ≤ 10485760) := fun k hk => by
    have := encU_len (us.take k) (fun x hx => H.out.wu x (List.mem_of_mem_take hx)); rw [List.length_take] at this; omega
  have HEL2 : Hid (∀ k ≤ N2, (encI (ns.take k)).length ≤ 10485760) := fun k hk => by
    have := encI_len (ns.take k) (fun x hx => H.out.wn x (List.mem_of_mem_take hx)); rw [List.length_take] at this; omega
  have HEL3 : Hid (∀ k ≤ N3, (encT (ts.take k)).length ≤ 11534336) := fun k hk => by
    have h1 := encT_len (ts.take k) (fun x hx => by have := H.out.st x (List.mem_of_mem_take hx); omega)
    have h2 := sum_take_le (ts.map (·.size)) k
    rw [← List.map_take] at h2
    rw [List.length_take] at h1; omega
  clear h hN1 hN2 hN3 hlu hln hlt0
  by_cases hbig : 200 < N1 + N2 + N3
  · have hbi : (200 : Int) < (N1 : Int) + (N2 : Int) + (N3 : Int) := by omega
    clear hbig
    go_enter Try.func6, Try.ntmps6
    go_wp2_with fail
    refine (awake_any _).mono ?_
    rintro e w5 ⟨rfl, hb⟩
    have HB := Lib.hid hb
    clear hb
    go_wp2
    go_ret
    exact ⟨rfl, HB.out⟩
  · have hbi : ¬ (200 : Int) < (N1 : Int) + (N2 : Int) + (N3 : Int) := by omega
    clear hbig
    go_enter Try.func6, Try.ntmps6
    go_wp2_with fail
    refine (awake_any _).mono ?_
    rintro e w5 ⟨rfl, hb⟩
    have HB0 := Lib.hid hb
    clear hb
    go_wp2
    go_loopw [9, 10] (fun v i wr => ∃ k : Nat, k ≤ N1 ∧ i = .int .i64 (k : Int) ∧ wr.ownsRow w.heap.size 5 1 v (encU (us.take k)).length ((encU (us.take k)).map bV) ∧ BW w wr) (fun _ i _ => N1 - (intOf i).toNat)
    case atStart => exact ⟨0, Nat.zero_le _, rfl, ⟨rfl, .inl ⟨rfl, rfl⟩⟩, HB0.out⟩
    case round =>
      obtain ⟨k, hk, rfl, ho, hb⟩ := hrel
      have HO := Lib.hid ho; have HB := Lib.hid hb
      clear ho hb
      by_cases hlt : k < N1
      · obtain ⟨u, hu⟩ : ∃ u, us[k]? = some u := ⟨_, List.getElem?_eq_getElem (by rw [HN1.out]; exact hlt)⟩
        obtain ⟨ub, uof, huo, hcl⟩ := elem_at H.out.u (k := k) (u := uV u) (by rw [List.getElem?_map, hu]; rfl)
        subst huo
        have ck : wr.cell? ⟨ub, uof + k, none⟩ = some (.int .u64 (u : Int)) := hcl wr HB.out
        have HT := Lib.hid (take_one hu)
        have hu64 := H.out.wu u (List.mem_of_getElem? hu)
        have HPU := Lib.hid (putUint_any (Src.of_row HO.out) u hu64 (by have := HEL1.out k hk; omega))
        have hi0 : (0 : Int) ≤ (k : Int) := by omega
        have hi1 : (k : Int) < (N1 : Int) := by omega
        clear hu hcl hu64
        go_wp2_with fail
        refine HPU.out.mono ?_
        rintro e w6 ⟨v6, rfl, ho, hb⟩
        have HO6 : Hid (w6.ownsRow w.heap.size 5 1 v6 (encU (us.take (k + 1))).length ((encU (us.take (k + 1))).map bV)) := by
          unfold Hid; rw [HT.out, encU_snoc]; exact row_base ho HB.out.size
        have HB6 := Lib.hid (HB.out.trans hb)
        clear ho hb
        go_wp2
        go_roundw
        case rel => exact ⟨k + 1, by omega, by go_num, HO6.out, HB6.out⟩
        case measure => simp [intOf]; omega
      · obtain rfl : N1 = k := by omega
        have HO1 : Hid (wr.ownsRow w.heap.size 5 1 u9 (encU us).length ((encU us).map bV)) := by
          have := HO.out; rw [List.take_of_length_le (by rw [HN1.out]; exact Nat.le_refl _)] at this; exact this
        have HE1 : Hid ((encU us).length ≤ 10485760) := by have := HEL1.out N1 (Nat.le_refl _); rw [List.take_of_length_le (by rw [HN1.out]; exact Nat.le_refl _)] at this; exact this
        have HBx := HB
        clear HO HB hlt hk
        go_wp2
        go_loopw [9, 11] (fun v i wr => ∃ k : Nat, k ≤ N2 ∧ i = .int .i64 (k : Int) ∧ wr.ownsRow w.heap.size 5 1 v (encU us ++ encI (ns.take k)).length ((encU us ++ encI (ns.take k)).map bV) ∧ BW w wr) (fun _ i _ => N2 - (intOf i).toNat)
        case atStart => exact ⟨0, Nat.zero_le _, rfl, by simpa [encI] using HO1.out, HBx.out⟩
        case round =>
          clear HO1 HBx
          obtain ⟨k, hk, rfl, ho, hb⟩ := hrel
          have HO := Lib.hid ho; have HB := Lib.hid hb
          clear ho hb
          by_cases hlt : k < N2
          · obtain ⟨x, hx⟩ : ∃ x, ns[k]? = some x := ⟨_, List.getElem?_eq_getElem (by rw [HN2.out]; exact hlt)⟩
            obtain ⟨nb, nof, hno, hcl⟩ := elem_at H.out.n (k := k) (u := nV x) (by rw [List.getElem?_map, hx]; rfl)
            subst hno
            have ck : wr.cell? ⟨nb, nof + k, none⟩ = some (.int .i64 x) := hcl wr HB.out
            have HT := Lib.hid (take_one hx)
            have hx64 := H.out.wn x (List.mem_of_getElem? hx)
            have HPI := Lib.hid (putInt_any (Src.of_row HO.out) x hx64.1 hx64.2 (by have := HEL2.out k hk; have := HE1.out; rw [List.length_append]; omega))
            have hi0 : (0 : Int) ≤ (k : Int) := by omega
            have hi1 : (k : Int) < (N2 : Int) := by omega
            clear hx hcl hx64
            go_wp2_with fail
            refine HPI.out.mono ?_
            rintro e w6 ⟨v6, rfl, ho, hb⟩
            have HO6 : Hid (w6.ownsRow w.heap.size 5 1 v6 (encU us ++ encI (ns.take (k + 1))).length ((encU us ++ encI (ns.take (k + 1))).map bV)) := by
              unfold Hid; rw [HT.out, encI_snoc, ← List.append_assoc]; exact row_base ho HB.out.size
            have HB6 := Lib.hid (HB.out.trans hb)
            clear ho hb
            go_wp2
            go_roundw
            case rel => exact ⟨k + 1, by omega, by go_num, HO6.out, HB6.out⟩
            case measure => simp [intOf]; omega
          · obtain rfl : N2 = k := by omega
            have HO1 : Hid (wr.ownsRow w.heap.size 5 1 u9 (encU us ++ encI ns).length ((encU us ++ encI ns).map bV)) := by
              have := HO.out; rw [List.take_of_length_le (by rw [HN2.out]; exact Nat.le_refl _)] at this; exact this
            have HE2 : Hid ((encI ns).length ≤ 10485760) := by have := HEL2.out N2 (Nat.le_refl _); rw [List.take_of_length_le (by rw [HN2.out]; exact Nat.le_refl _)] at this; exact this
            have HBx := HB
            clear HO HB hlt hk
            go_wp2
            go_loopw [9, 12] (fun v i wr => ∃ k : Nat, k ≤ N3 ∧ i = .int .i64 (k : Int) ∧ wr.ownsRow w.heap.size 5 1 v (encU us ++ encI ns ++ encT (ts.take k)).length ((encU us ++ encI ns ++ encT (ts.take k)).map bV) ∧ BW w wr) (fun _ i _ => N3 - (intOf i).toNat)
            case atStart => exact ⟨0, Nat.zero_le _, rfl, by simpa [encT] using HO1.out, HBx.out⟩
            case round =>
              clear HO1 HBx
              obtain ⟨k, hk, rfl, ho, hb⟩ := hrel
              have HO := Lib.hid ho; have HB := Lib.hid hb
              clear ho hb
              by_cases hlt : k < N3
              · obtain ⟨x, hx⟩ : ∃ x, ts[k]? = some x := ⟨_, List.getElem?_eq_getElem (by rw [HN3.out]; exact hlt)⟩
                obtain ⟨tb, tof, hto, hcl⟩ := elem_at H.out.t (k := k) (u := tV x) (by rw [List.getElem?_map, hx]; rfl)
                subst hto
                have ck : wr.cell? ⟨tb, tof + k, none⟩ = some (.string x) := hcl wr HB.out
                have HT := Lib.hid (take_one hx)
                have hxs := H.out.st x (List.mem_of_getElem? hx)
                have HPT := Lib.hid (putText_any (Src.of_row HO.out) x (by have := HEL3.out k hk; have := HE1.out; have := HE2.out; rw [List.length_append, List.length_append]; omega))
                have hi0 : (0 : Int) ≤ (k : Int) := by omega
                have hi1 : (k : Int) < (N3 : Int) := by omega
                clear hx hcl hxs
                go_wp2_with fail
                refine HPT.out.mono ?_
                rintro e w6 ⟨v6, rfl, ho, hb⟩
                have HO6 : Hid (w6.ownsRow w.heap.size 5 1 v6 (encU us ++ encI ns ++ encT (ts.take (k + 1))).length ((encU us ++ encI ns ++ encT (ts.take (k + 1))).map bV)) := by
                  unfold Hid; rw [HT.out, encT_snoc]
                  have := row_base ho HB.out.size
                  rw [List.append_assoc (encU us ++ encI ns ++ encT (ts.take k)), List.append_assoc (encU us ++ encI ns)] at this
                  exact this
                have HB6 := Lib.hid (HB.out.trans hb)
                clear ho hb
                go_wp2
                go_roundw
                case rel => exact ⟨k + 1, by omega, by go_num, HO6.out, HB6.out⟩
                case measure => simp [intOf]; omega
              · obtain rfl : N3 = k := by omega
                have HO1 : Hid (wr.ownsRow w.heap.size 5 1 u9 (encU us ++ encI ns ++ encT ts).length ((encU us ++ encI ns ++ encT ts).map bV)) := by
                  have := HO.out; rw [List.take_of_length_le (by rw [HN3.out]; exact Nat.le_refl _)] at this; exact this
                have HE3 : Hid ((encT ts).length ≤ 11534336) := by have := HEL3.out N3 (Nat.le_refl _); rw [List.take_of_length_le (by rw [HN3.out]; exact Nat.le_refl _)] at this; exact this
                have HBx := HB
                clear HO HB hlt hk
                obtain ⟨bo, bn, bc, rfl⟩ := row_form HO1.out
                obtain rfl : bn = (encU us ++ encI ns ++ encT ts).length := row_len HO1.out rfl
                obtain ⟨n, hn⟩ : ∃ n, (encU us ++ encI ns ++ encT ts).length = n := ⟨_, rfl⟩
                have HN := Lib.hid hn
                rw [hn] at HO1 ⊢
                have hnb : (n : Int) ≤ 40000000 := by
                  have h1 := HE1.out; have h2 := HE2.out; have h3 := HE3.out
                  rw [List.length_append, List.length_append] at hn; omega
                clear hn
                by_cases hbign : 20000 < n
                · have hbn : (20000 : Int) < (n : Int) := by omega
                  clear hbign
                  go_wp2
                  go_ret
                  exact ⟨rfl, HBx.out⟩
                · have HSM : Hid (n ≤ 20000) := by unfold Hid; omega
                  have hbn : ¬ (20000 : Int) < (n : Int) := by omega
                  clear hbign
                  obtain ⟨r, hr⟩ : ∃ r, cut.tmod (n : Int) = r := ⟨_, rfl⟩
                  have hrb : n ≠ 0 → -(n : Int) < r ∧ r < (n : Int) := fun h0 => by
                    rw [← hr]; exact tmod_bounds cut (by omega)
                  obtain ⟨p, hpa, hpb', hpc, hpn, hp0⟩ : ∃ p : Nat, (n = 0 → p = n) ∧ (n ≠ 0 → 0 ≤ r → (p : Int) = r) ∧ (n ≠ 0 → r < 0 → (p : Int) = r + n) ∧ p ≤ n ∧ (n ≠ 0 → p < n) := by
                    by_cases h0 : n = 0
                    · exact ⟨n, fun _ => rfl, fun h => absurd h0 h, fun h => absurd h0 h, Nat.le_refl _, fun h => absurd h0 h⟩
                    · obtain ⟨h1, h2⟩ := hrb h0
                      by_cases hneg : r < 0
                      · exact ⟨(r + n).toNat, fun h => absurd h h0, fun _ h => by omega, fun _ _ => by omega, by omega, fun _ => by omega⟩
                      · exact ⟨r.toNat, fun h => absurd h h0, fun _ _ => by omega, fun _ h => by omega, by omega, fun _ => by omega⟩
                  have HPA := Lib.hid hpa; have HPB' := Lib.hid hpb'; have HPC := Lib.hid hpc; have HRB := Lib.hid hrb; have HTM := Lib.hid hr; have HP0 := Lib.hid hp0; have HPN := Lib.hid hpn
                  clear hpa hpb' hpc hrb hr hp0 hpn
                  go_upto_if 77 with (fail)
                  go_cut [14] from 77 to 86 (fun a wx => a = .int .i64 (p : Int) ∧ wx = wr)
                  case first =>
                    by_cases hn0 : n = 0
                    · have hn0' : ¬ (0 : Int) < (n : Int) := by omega
                      obtain rfl : p = n := HPA.out hn0
                      clear hn0
                      go_wp2
                      go_meet
                      exact ⟨rfl, rfl⟩
                    · have hn0' : (0 : Int) < (n : Int) := by omega
                      have hne : ((n : Int) == 0) = false := by rw [beq_eq_false_iff_ne]; omega
                      obtain ⟨hr1, hr2⟩ := HRB.out hn0
                      by_cases hneg : r < 0
                      · have e1 := HTM.out
                        have e2 : r + (n : Int) = (p : Int) := (HPC.out hn0 hneg).symm
                        clear hn0
                        go_wp2
                        go_meet
                        exact ⟨rfl, rfl⟩
                      · have e1 : cut.tmod (n : Int) = (p : Int) := by rw [HTM.out]; exact (HPB'.out hn0 (by omega)).symm
                        have e3 : ¬ (p : Int) < 0 := by omega
                        have e4 : 0 ≤ (p : Int) := by omega
                        clear hn0
                        go_wp2
                        go_meet
                        exact ⟨rfl, rfl⟩
                  case rest =>
                    obtain ⟨rfl, rfl⟩ := hcut
                    have hpn := HPN.out
                    have HSRC := Lib.hid (Src.of_row HO1.out)
                    have hnbc : n ≤ bc := by
                      obtain ⟨_, h2 | ⟨g', cap', cur', hv', _, _, hn', _⟩⟩ := HO1.out
                      · omega
                      · cases hv'; exact hn'
                    have HSP : Hid (Src wc (.slice bo p bc) (((encU us ++ encI ns ++ encT ts).take p).map bV)) := by
                      unfold Hid; rw [List.map_take]; exact HSRC.out.taken (by rw [List.length_map, HN.out]; exact hpn)
                    have hpb : p ≤ bc := by omega
                    have HNEW := Lib.hid (new_any HSP.out (by rw [List.length_take, HN.out]; omega))
                    clear hpn
                    cases bo
                    all_goals
                      go_wp2_with fail
                      refine HNEW.out.mono ?_
                      rintro e w1 ⟨s, c2, rfl, hs, hc2, hsd, hb⟩
                      have HS1 : Hid (Sh w1 s c2 n (encU us ++ encI ns ++ encT ts)) := ⟨_, 0, hsd, .inr ⟨rfl, (encU us ++ encI ns ++ encT ts).drop p, List.take_append_drop _ _, fun h0 h1 => by
                        have h2 := congrArg List.length h1
                        rw [List.length_drop, HN.out] at h2
                        have h3 := HP0.out h0
                        simp at h2; omega⟩⟩
                      have HSL : Hid (s < w1.heap.size ∧ c2 < w1.heap.size ∧ w.heap.size ≤ s) := ⟨hsd.ltr, hsd.lt, Nat.le_trans HBx.out.size hs⟩
                      have HB1 := Lib.hid (HBx.out.trans hb)
                      have HNEW2 := Lib.hid (new_any (HSRC.out.below hb) (by rw [HN.out]; omega))
                      clear hs hc2 hsd hb HNEW HSP
                      unfold ptr
                      go_wp2_with fail
                      refine HNEW2.out.mono ?_
                      rintro e w2 ⟨r, c, rfl, hr, hc, hrd, hb⟩
                      have HSR : Hid ((¬ s = r ∧ ¬ c2 = r) ∧ (¬ r = s ∧ ¬ c = s) ∧ w.heap.size ≤ r ∧ w.heap.size ≤ s) := by
                        obtain ⟨h1, h2, h3⟩ := HSL.out
                        exact ⟨⟨by omega, by omega⟩, ⟨by omega, by omega⟩, Nat.le_trans HB1.out.size hr, h3⟩
                      have HS2 := Lib.hid (HS1.out.below hb)
                      have HR2 := Lib.hid hrd
                      have HB2 := Lib.hid (HB1.out.trans hb)
                      clear hr hc hrd hb HNEW2 HS1 HSL HB1 HSRC HO1
                      unfold ptr
                      go_wp2
                      go_loopw [17, 18] (fun o i wq => ∃ k : Nat, k ≤ N1 ∧ i = .int .i64 (k : Int) ∧ o = .bool true ∧ Rd wq r c (encU (us.drop k) ++ (encI ns ++ encT ts)) 0 ∧ Sh wq s c2 n (encU (us.drop k) ++ (encI ns ++ encT ts)) ∧ BW w wq) (fun _ i _ => N1 - (intOf i).toNat)
                      case atStart =>
                        refine ⟨0, Nat.zero_le _, rfl, rfl, ?_, ?_, HB2.out⟩
                        · rw [List.drop_zero]; first | exact HR2.out | (rw [← List.append_assoc]; exact HR2.out) | (rw [List.append_nil]; exact HR2.out)
                        · rw [List.drop_zero]; first | exact HS2.out | (rw [← List.append_assoc]; exact HS2.out) | (rw [List.append_nil]; exact HS2.out)
                      case round =>
                        clear HB2 HR2 HS2
                        obtain ⟨k, hk, rfl, rfl, hrd, hsh, hb⟩ := hrel
                        have HRD := Lib.hid hrd; have HSH := Lib.hid hsh; have HB := Lib.hid hb
                        clear hrd hsh hb
                        by_cases hlt : k < N1
                        · obtain ⟨x, hx⟩ : ∃ x, us[k]? = some x := ⟨_, List.getElem?_eq_getElem (by rw [HN1.out]; exact hlt)⟩
                          obtain ⟨eb, eof, heo, hcl⟩ := elem_at H.out.u (k := k) (u := uV x) (by rw [List.getElem?_map, hx]; rfl)
                          subst heo
                          have HCL : Hid (∀ W, BW w W → W.cell? ⟨eb, eof + k, none⟩ = some (.int .u64 (x : Int))) := hcl
                          have hrest : encU (us.drop k) ++ (encI ns ++ encT ts) = form x ++ (encU (us.drop (k + 1)) ++ (encI ns ++ encT ts)) := by rw [drop_one hx, encU_cons, List.append_assoc]
                          have hx64 := H.out.wu x (List.mem_of_getElem? hx)
                          have HD : Hid (deco (encU (us.drop k) ++ (encI ns ++ encT ts)) = some (x, (form x).length)) := by unfold Hid; rw [hrest]; exact deco_form hx64 _
                          have hdr : (encU (us.drop k) ++ (encI ns ++ encT ts)).drop (form x).length = encU (us.drop (k + 1)) ++ (encI ns ++ encT ts) := by rw [hrest]; exact List.drop_left
                          have HDR := Lib.hid hdr
                          have hi0 : (0 : Int) ≤ (k : Int) := by omega
                          have hi1 : (k : Int) < (N1 : Int) := by omega
                          have HSU := Lib.hid (shU HSH.out HD.out)
                          rw [HDR.out] at HSU
                          clear hx hcl hrest hdr
                          go_wp2_with fail
                          refine HSU.out.mono ?_
                          rintro e w3 ⟨⟨y, rfl⟩, hsh, hm⟩
                          have HSH3 := Lib.hid hsh
                          have HRD3 := Lib.hid ((HRD.out.moved hm HSR.out.2.1.1 HSR.out.2.1.2).below (bw_drew2 (BW.refl w3)))
                          have HB3 : Hid (BW w w3) := bw_moves HB.out hm HSR.out.2.2.2
                          have ck := HCL.out w3 HB3.out
                          clear hsh hm
                          have hbe : ((x : Int) == (x : Int)) = true := by simp
                          clear hx64
                          go_wp2
                          go_region_with ((go_at_call 33; refine (call_U HRD3.out).mono ?_; rintro e w4 hh; obtain ⟨rfl, hm, hrd⟩ := hh.some (show dU _ = _ by unfold dU; rw [HD.out]; rfl); rw [HDR.out] at hrd; have HRD4 := Lib.hid hrd; have HSH4 := Lib.hid ((HSH3.out.below (bw_drew2 (BW.refl w3))).moved hm HSR.out.1.1 HSR.out.1.2); have HB4 : Hid (BW w w4) := bw_moves (bw_drew2 HB3.out) hm HSR.out.2.2.1; have ck4 := HCL.out w4 HB4.out; clear hh hm hrd))
                          all_goals
                            go_wp2
                            go_roundw
                            case rel => exact ⟨k + 1, by omega, by go_num, by first | rfl | simp, HRD4.out, HSH4.out, HB4.out⟩
                            case measure => simp [intOf]; omega
                        · obtain rfl : N1 = k := by omega
                          have HR2 : Hid (Rd wr r c ((encI ns ++ encT ts)) 0) := by have := HRD.out; rw [List.drop_eq_nil_of_le (by rw [HN1.out]; exact Nat.le_refl _)] at this; exact this
                          have HS2 : Hid (Sh wr s c2 n ((encI ns ++ encT ts))) := by have := HSH.out; rw [List.drop_eq_nil_of_le (by rw [HN1.out]; exact Nat.le_refl _)] at this; exact this
                          have HB2 := HB
                          clear HRD HSH HB hlt hk
                          go_wp2
                          go_loopw [17, 19] (fun o i wq => ∃ k : Nat, k ≤ N2 ∧ i = .int .i64 (k : Int) ∧ o = .bool true ∧ Rd wq r c (encI (ns.drop k) ++ encT ts) 0 ∧ Sh wq s c2 n (encI (ns.drop k) ++ encT ts) ∧ BW w wq) (fun _ i _ => N2 - (intOf i).toNat)
                          case atStart =>
                            refine ⟨0, Nat.zero_le _, rfl, rfl, ?_, ?_, HB2.out⟩
                            · rw [List.drop_zero]; first | exact HR2.out | (rw [← List.append_assoc]; exact HR2.out) | (rw [List.append_nil]; exact HR2.out)
                            · rw [List.drop_zero]; first | exact HS2.out | (rw [← List.append_assoc]; exact HS2.out) | (rw [List.append_nil]; exact HS2.out)
                          case round =>
                            clear HB2 HR2 HS2
                            obtain ⟨k, hk, rfl, rfl, hrd, hsh, hb⟩ := hrel
                            have HRD := Lib.hid hrd; have HSH := Lib.hid hsh; have HB := Lib.hid hb
                            clear hrd hsh hb
                            by_cases hlt : k < N2
                            · obtain ⟨x, hx⟩ : ∃ x, ns[k]? = some x := ⟨_, List.getElem?_eq_getElem (by rw [HN2.out]; exact hlt)⟩
                              obtain ⟨eb, eof, heo, hcl⟩ := elem_at H.out.n (k := k) (u := nV x) (by rw [List.getElem?_map, hx]; rfl)
                              subst heo
                              have HCL : Hid (∀ W, BW w W → W.cell? ⟨eb, eof + k, none⟩ = some (.int .i64 x)) := hcl
                              have hrest : encI (ns.drop k) ++ encT ts = form (turned x) ++ (encI (ns.drop (k + 1)) ++ encT ts) := by rw [drop_one hx, encI_cons, List.append_assoc]
                              have hx64 := H.out.wn x (List.mem_of_getElem? hx)
                              have HD : Hid (deco (encI (ns.drop k) ++ encT ts) = some (turned x, (form (turned x)).length)) := by unfold Hid; rw [hrest]; exact deco_form (turned_lt hx64.1 hx64.2) _
                              have hdr : (encI (ns.drop k) ++ encT ts).drop (form (turned x)).length = encI (ns.drop (k + 1)) ++ encT ts := by rw [hrest]; exact List.drop_left
                              have HDR := Lib.hid hdr
                              have hi0 : (0 : Int) ≤ (k : Int) := by omega
                              have hi1 : (k : Int) < (N2 : Int) := by omega
                              have HSU := Lib.hid (shI HSH.out HD.out)
                              rw [HDR.out] at HSU
                              clear hx hcl hrest hdr
                              go_wp2_with fail
                              refine HSU.out.mono ?_
                              rintro e w3 ⟨⟨y, rfl⟩, hsh, hm⟩
                              have HSH3 := Lib.hid hsh
                              have HRD3 := Lib.hid ((HRD.out.moved hm HSR.out.2.1.1 HSR.out.2.1.2).below (bw_drew2 (BW.refl w3)))
                              have HB3 : Hid (BW w w3) := bw_moves HB.out hm HSR.out.2.2.2
                              have ck := HCL.out w3 HB3.out
                              clear hsh hm
                              have hbe : (x == x) = true := by simp
                              clear hx64
                              go_wp2
                              go_region_with ((go_at_call 34; refine (call_I HRD3.out).mono ?_; rintro e w4 hh; obtain ⟨rfl, hm, hrd⟩ := hh.some (show dI _ = some (.int .i64 x, (form (turned x)).length) by unfold dI; rw [HD.out]; show some (Value.int .i64 (back (turned x)), _) = _; rw [back_turned]); rw [HDR.out] at hrd; have HRD4 := Lib.hid hrd; have HSH4 := Lib.hid ((HSH3.out.below (bw_drew2 (BW.refl w3))).moved hm HSR.out.1.1 HSR.out.1.2); have HB4 : Hid (BW w w4) := bw_moves (bw_drew2 HB3.out) hm HSR.out.2.2.1; have ck4 := HCL.out w4 HB4.out; clear hh hm hrd))
                              all_goals
                                go_wp2
                                go_roundw
                                case rel => exact ⟨k + 1, by omega, by go_num, by first | rfl | simp, HRD4.out, HSH4.out, HB4.out⟩
                                case measure => simp [intOf]; omega
                            · obtain rfl : N2 = k := by omega
                              have HR2 : Hid (Rd wr r c (encT ts) 0) := by have := HRD.out; rw [List.drop_eq_nil_of_le (by rw [HN2.out]; exact Nat.le_refl _)] at this; exact this
                              have HS2 : Hid (Sh wr s c2 n (encT ts)) := by have := HSH.out; rw [List.drop_eq_nil_of_le (by rw [HN2.out]; exact Nat.le_refl _)] at this; exact this
                              have HB2 := HB
                              clear HRD HSH HB hlt hk
                              go_wp2
                              go_loopw [17, 20] (fun o i wq => ∃ k : Nat, k ≤ N3 ∧ i = .int .i64 (k : Int) ∧ o = .bool true ∧ Rd wq r c (encT (ts.drop k) ++ []) 0 ∧ Sh wq s c2 n (encT (ts.drop k) ++ []) ∧ BW w wq) (fun _ i _ => N3 - (intOf i).toNat)
                              case atStart =>
                                refine ⟨0, Nat.zero_le _, rfl, rfl, ?_, ?_, HB2.out⟩
                                · rw [List.drop_zero]; first | exact HR2.out | (rw [← List.append_assoc]; exact HR2.out) | (rw [List.append_nil]; exact HR2.out)
                                · rw [List.drop_zero]; first | exact HS2.out | (rw [← List.append_assoc]; exact HS2.out) | (rw [List.append_nil]; exact HS2.out)
                              case round =>
                                clear HB2 HR2 HS2
                                obtain ⟨k, hk, rfl, rfl, hrd, hsh, hb⟩ := hrel
                                have HRD := Lib.hid hrd; have HSH := Lib.hid hsh; have HB := Lib.hid hb
                                clear hrd hsh hb
                                by_cases hlt : k < N3
                                · obtain ⟨x, hx⟩ : ∃ x, ts[k]? = some x := ⟨_, List.getElem?_eq_getElem (by rw [HN3.out]; exact hlt)⟩
                                  obtain ⟨eb, eof, heo, hcl⟩ := elem_at H.out.t (k := k) (u := tV x) (by rw [List.getElem?_map, hx]; rfl)
                                  subst heo
                                  have HCL : Hid (∀ W, BW w W → W.cell? ⟨eb, eof + k, none⟩ = some (.string x)) := hcl
                                  have hrest : encT (ts.drop k) ++ [] = (form x.size ++ x.data.toList) ++ (encT (ts.drop (k + 1)) ++ []) := by rw [drop_one hx, encT_cons, List.append_assoc]
                                  have hx64 : x.size ≤ 20000 := by
                                    have h1 := encT_size hx
                                    have h2 := HSM.out; have h3 := HN.out
                                    rw [List.length_append, List.length_append] at h3; omega
                                  have HD : Hid (textD (encT (ts.drop k) ++ []) 20000 = some (x.data.toList, (form x.size).length + x.size)) := by unfold Hid; rw [hrest]; exact textD_put x hx64 _
                                  have hdr : (encT (ts.drop k) ++ []).drop ((form x.size).length + x.size) = encT (ts.drop (k + 1)) ++ [] := by rw [hrest]; exact List.drop_left' (by rw [List.length_append]; rfl)
                                  have HDR := Lib.hid hdr
                                  have hi0 : (0 : Int) ≤ (k : Int) := by omega
                                  have hi1 : (k : Int) < (N3 : Int) := by omega
                                  have HSU := Lib.hid (shT HSH.out HD.out)
                                  rw [HDR.out] at HSU
                                  clear hx hcl hrest hdr
                                  go_wp2_with fail
                                  refine HSU.out.mono ?_
                                  rintro e w3 ⟨⟨y, rfl⟩, hsh, hm⟩
                                  have HSH3 := Lib.hid hsh
                                  have HRD3 := Lib.hid ((HRD.out.moved hm HSR.out.2.1.1 HSR.out.2.1.2).below (bw_drew2 (BW.refl w3)))
                                  have HB3 : Hid (BW w w3) := bw_moves HB.out hm HSR.out.2.2.2
                                  have ck := HCL.out w3 HB3.out
                                  clear hsh hm
                                  have hbe : (x.toList == x.toList) = true := by simp
                                  clear hx64
                                  go_wp2
                                  go_region_with ((go_at_call 28; refine (call_T HRD3.out 20000 (by decide) (by decide)).mono ?_; rintro e w4 hh; obtain ⟨rfl, hm, hrd⟩ := hh.some (show dT _ 20000 = some (.string x, (form x.size).length + x.size) by unfold dT; rw [HD.out]; rfl); rw [HDR.out] at hrd; have HRD4 := Lib.hid hrd; have HSH4 := Lib.hid ((HSH3.out.below (bw_drew2 (BW.refl w3))).moved hm HSR.out.1.1 HSR.out.1.2); have HB4 : Hid (BW w w4) := bw_moves (bw_drew2 HB3.out) hm HSR.out.2.2.1; have ck4 := HCL.out w4 HB4.out; clear hh hm hrd))
                                  all_goals
                                    go_wp2
                                    go_roundw
                                    case rel => exact ⟨k + 1, by omega, by go_num, by first | rfl | simp, HRD4.out, HSH4.out, HB4.out⟩
                                    case measure => simp [intOf]; omega
                                · obtain rfl : N3 = k := by omega
                                  have HR2 : Hid (Rd wr r c ([]) 0) := by have := HRD.out; rw [List.drop_eq_nil_of_le (by rw [HN3.out]; exact Nat.le_refl _)] at this; exact this
                                  have HS2 : Hid (Sh wr s c2 n ([])) := by have := HSH.out; rw [List.drop_eq_nil_of_le (by rw [HN3.out]; exact Nat.le_refl _)] at this; exact this
                                  have HB2 := HB
                                  clear HRD HSH HB hlt hk
                                  obtain ⟨l, ee, hsd, hcase⟩ := HS2.out
                                  obtain ⟨vs, g1, _, _⟩ := hsd.ex
                                  have G1 := Lib.hid g1
                                  obtain ⟨ao2, cap2, g2, _, _⟩ := HR2.out.form
                                  have G2 : Hid (RdC wr r (.slice ao2 0 cap2) 0) := g2
                                  have hfin : n = 0 ∨ ee = 20 := by
                                    rcases hcase with h | ⟨_, t, ht, hn⟩
                                    · exact .inr h
                                    · left
                                      have : t = [] := (List.append_eq_nil_iff.1 ht).2
                                      rcases Nat.eq_zero_or_pos n with h | h
                                      · exact h
                                      · exact absurd this (hn (by omega))
                                  have HEND : Hid (Calls Try.prog 32 #[.pointer (some ⟨r, 0, none⟩)] wr fun en w' => en = .returned (.int .i64 0) ∧ Moves (fun b => b = r) wr w' ∧ Rd w' r c [] 0) := end_any HR2.out
                                  have HSD := Lib.hid hsd
                                  clear g1 g2 hcase hsd
                                  rcases hfin with h0 | h20
                                  · have hz : ((n : Int) == 0) = true := by rw [beq_iff_eq]; omega
                                    go_wp2_with (first | (go_at_call 22; refine (left_c G2.out).mono ?_; rintro en w' ⟨rfl, rfl⟩) | (go_at_call 32; refine HEND.out.mono ?_; rintro en w7 ⟨rfl, hm, _⟩; have HB7 := Lib.hid (bw_moves HB2.out hm HSR.out.2.2.1); have HS7 := Lib.hid (HSD.out.moved hm HSR.out.1.1 HSR.out.1.2); clear hm))
                                    go_ret
                                    exact ⟨ret_bool (by simp), HB7.out⟩
                                  · subst h20
                                    by_cases hz0 : n = 0
                                    · have hz : ((n : Int) == 0) = true := by rw [beq_iff_eq]; omega
                                      go_wp2_with (first | (go_at_call 22; refine (left_c G2.out).mono ?_; rintro en w' ⟨rfl, rfl⟩) | (go_at_call 32; refine HEND.out.mono ?_; rintro en w7 ⟨rfl, hm, _⟩; have HB7 := Lib.hid (bw_moves HB2.out hm HSR.out.2.2.1); clear hm))
                                      go_ret
                                      exact ⟨ret_bool (by simp), HB7.out⟩
                                    · have hz : ((n : Int) == 0) = false := by rw [beq_eq_false_iff_ne]; omega
                                      go_wp2_with fail
                                      refine (left_c G2.out).mono ?_
                                      rintro en w' ⟨rfl, rfl⟩
                                      go_wp2_with fail
                                      refine HEND.out.mono ?_
                                      rintro en w7 ⟨rfl, hm, _⟩
                                      have HB7 := Lib.hid (bw_moves HB2.out hm HSR.out.2.2.1)
                                      obtain ⟨vs7, g7, _, _⟩ := (HSD.out.moved hm HSR.out.1.1 HSR.out.1.2).ex
                                      have G7 := Lib.hid g7
                                      clear hm g7
                                      go_wp2_with (go_at_call 20; refine (err_c G7.out).mono ?_; rintro en w' ⟨rfl, rfl⟩)
                                      go_ret
                                      exact ⟨ret_bool (by simp), HB7.out⟩

end Go.Proofs.Ythepoplekabcoaa
