/- The program's head, slices.Grow of nil, slices.Concat. -/
import Derived.Test.YtaaeaaahllicbaaFrPA
import Derived.Lib.AppendZeros
import Derived.Lib.SlBytesConst
import Derived.Laws.Rows
namespace Go.Proofs.Ytaaeaaahllicbaa
open Go.RowKit Go.Maps Crc

/-- an append behind a row that has no room: a new row -/
theorem append_new {w : World} {ops : Array Oper} {rest : List Oper} {o : Oper} {a : Act} {Q : Exit → Act → World → Prop} (hgd : o.guard = none) (s x : Operand)
    (ho : o.op = .call { callee := .builtin .append, args := #[s, x], argTypes := #[23, 23] }) (g n : Nat) (xs : List UInt8) (hs : a.eval s = .slice (some ⟨g, 0, none⟩) n n) (hxs : xs.length = n) (holds : ∀ j u, (xs.map bV)[j]? = some u → w.cell? ⟨g, j, none⟩ = some u)
    (k m : Nat) (bs : List UInt8) (hx : a.eval x = .slice (some ⟨k, 0, none⟩) m m) (hbs : bs.length = m) (hnews : ∀ j u, (bs.map bV)[j]? = some u → w.cell? ⟨k, j, none⟩ = some u) (hm : 0 < m) (hb : n + m ≤ 1000000)
    (h : ∀ v' w', w'.ownsRow w.heap.size 5 1 v' (n + m) ((xs ++ bs).map bV) → w.grownBy w' none → wpList Try.prog ops Q rest (a.put o.dst v') w') : wpList Try.prog ops Q (o :: rest) a w := by
  obtain ⟨i0, hi, hz0, hz1, hz2⟩ := infoOf info_u8
  refine wpList_append_grows w hgd s x 23 ho 5 i0 (.int .u8 0) 1 1 Try.underlying23 hi hz0 hz1 hz2 rfl (by decide) (some ⟨g, 0, none⟩) n n (xs.map bV) hs (fun e => by cases e) (by simp [hxs]) (fun b e j u hu => ?_) ⟨k, 0, none⟩ m m (bs.map bV) hx (by simp [hbs]) (fun j u hu => ?_) (bV_one _) (by omega) (by unfold maxLen; omega) (by omega) fun v' w' h1 h2 => ?_
  · cases e; rw [addOff, Nat.zero_add]; exact holds j u hu
  · rw [addOff, Nat.zero_add]; exact hnews j u hu
  · rw [← List.map_append] at h1; exact h v' w' h1 h2
theorem cells_of {w : World} {g : Nat} {cs : List Value} {t : TypeId} {fr : Nat × Nat} (h : w.heap[g]? = some (.cells cs.toArray t fr)) : ∀ (j : Nat) (u : Value), cs[j]? = some u → w.cell? ⟨g, j, none⟩ = some u := fun j u hu => cell_of h (by simpa using hu)
set_option maxHeartbeats 4000000 in
set_option maxRecDepth 100000 in
theorem head_any {w : World} {kind : UInt8} {v : Value} {ss : List (List UInt8)} (h : SrcRows w v ss) (hl : ∀ s ∈ ss, (s.length : Int) ≤ 140737488351232) (h1024 : ss.length ≤ 1024) : Calls Try.prog 24 #[bV kind, v] w (BytesPost w (headF kind ss)) := by
  obtain ⟨ao, cap, rfl⟩ := h.len
  obtain ⟨n, hnn⟩ : ∃ n, n = ss.length := ⟨_, rfl⟩
  rw [← hnn] at h h1024 ⊢
  obtain ⟨kv, hkv⟩ : ∃ kv, kv = kind.toNat := ⟨_, rfl⟩
  unfold bV
  rw [← hkv]
  have hkv256 : kv < 256 := by rw [hkv]; exact UInt8.toNat_lt _
  have H := Lib.hid h
  have HL := Lib.hid hl
  have HN := Lib.hid hnn
  have hn2 : (n : Int) ≤ 1024 := by omega
  have hn0 : 0 ≤ (n : Int) := by omega
  have hwn : IntKind.u64.wrap (n : Int) = (n : Int) := by rw [IntKind.wrap_u64]; omega
  have HK3 : Hid ([Value.int .u8 76, .int .u8 84, .int .u8 1] = ([76, 84, 1] : List UInt8).map bV) := by
    unfold Hid; rfl
  have HK1 : Hid ([Value.int .u8 (kv : Int)] = ([kind] : List UInt8).map bV) := by
    unfold Hid; simp only [List.map_cons, List.map_nil]; unfold bV; rw [hkv]
  have kc := fun (w : World) (C : Array Value) (n c : Nat) => Lib.run_convert_bytes_const (P := Try.prog) w 23 5 C n c Try.underlying23 Try.underlying5
  obtain ⟨wA, hwA⟩ : ∃ wA, wA = (w.alloc (.cells #[Value.int .u8 76, Value.int .u8 84, Value.int .u8 1] 5 (3, 4))).alloc (.cells #[Value.int .u8 (kv : Int)] 5) := ⟨_, rfl⟩
  have HWA := Lib.hid hwA
  have HC3 : Hid (∀ (j : Nat) (u : Value), (([76, 84, 1] : List UInt8).map bV)[j]? = some u → wA.cell? ⟨w.heap.size, j, none⟩ = some u) := by
    unfold Hid
    rw [hwA, ← HK3.out]; exact cells_of (heap_alloc2_old w _ _)
  have HC1 : Hid (∀ (j : Nat) (u : Value), (([kind] : List UInt8).map bV)[j]? = some u → wA.cell? ⟨w.heap.size + 1, j, none⟩ = some u) := by
    unfold Hid
    rw [hwA, ← HK1.out]; exact cells_of (heap_alloc2_new w _ _)
  have HBA : Hid (BW w wA) := by unfold Hid; rw [hwA]; exact (bw_alloc w _).alloc _
  clear hwA
  clear h hl hnn hkv h1024
  go_enter Try.func24, Try.ntmps24
  go_wp2_with (at_builtin; rw [← HWA.out]; refine append_new rfl (.tmp 9) (.tmp 11) rfl w.heap.size 3 [76, 84, 1] rfl rfl HC3.out (w.heap.size + 1) 1 [kind] rfl rfl HC1.out (by decide) (by decide) ?_)
  intro v1 w1 ho1 hg1
  have HO1 : Hid (w1.ownsRow w.heap.size 5 1 v1 4 (([76, 84, 1, kind] : List UInt8).map bV)) := row_base ho1 HBA.out.size
  have HB1 : Hid (BW w w1) := bw_grown HBA.out hg1 (fun k e => by cases e)
  have HPUT := Lib.hid (putUint_any (bs := [76, 84, 1, kind]) (Src.of_row HO1.out) n (by omega) (by simp))
  obtain ⟨o1, n1, c1, rfl⟩ := row_form ho1
  clear ho1 hg1
  go_wp2_with fail
  refine HPUT.out.mono ?_
  rintro e w2 ⟨v2, rfl, ho2, hb2⟩
  have HO2 : Hid (w2.ownsRow w.heap.size 5 1 v2 (headU kind ss 0).length ((headU kind ss 0).map bV)) := by
    unfold Hid
    have e1 : headU kind ss 0 = [76, 84, 1, kind] ++ form n := by unfold headU; rw [HN.out]; simp
    rw [e1]; exact row_base ho2 HB1.out.size
  have HB2 := Lib.hid (HB1.out.trans hb2)
  clear ho2 hb2 HPUT
  go_wp2
  go_loopg [5, 20] n (fun g s5 s20 wx => ∃ i : Nat, i + g = n ∧ s20 = .int .i64 i ∧ wx.ownsRow w.heap.size 5 1 s5 (headU kind ss i).length ((headU kind ss i).map bV) ∧ BW w wx)
  case atStart => exact ⟨0, by omega, rfl, HO2.out, HB2.out⟩
  case round =>
    obtain ⟨i, hig, rfl, hrow, hbx⟩ := hrel
    have HROW := Lib.hid hrow
    have HBX := Lib.hid hbx
    have HIG := Lib.hid hig
    clear hrow hbx
    cases gk with
    | zero =>
      have hge : (n : Int) ≤ (i : Int) := by omega
      have hd0 : decide (i < n) = false := decide_eq_false (by omega)
      have HALL := Lib.hid (headU_all kind ss (i := i) (by have := HN.out; omega))
      clear hig
      go_wp2
      go_ret
      refine ⟨_, rfl, ?_, HBX.out⟩
      rw [← HALL.out]; exact HROW.out
    | succ g =>
      have hi : (i : Int) < (n : Int) := by omega
      have hi0 : (0 : Int) ≤ (i : Int) := by omega
      have hil : i < ss.length := by have := HN.out; omega
      obtain ⟨x, hx⟩ : ∃ x, x = ss[i] := ⟨_, rfl⟩
      obtain ⟨b0, off, xo, xc, rfl, hc0, hcl⟩ := (H.out.below HBX.out).get (i := i) (s := x) (by rw [hx]; exact List.getElem?_eq_getElem hil)
      clear hcl
      have HNX := Lib.hid (headU_next (kind := kind) hil)
      rw [← hx] at HNX
      obtain ⟨sl, hsl⟩ : ∃ sl, sl = x.length := ⟨_, rfl⟩
      have hslb : (sl : Int) ≤ 140737488351232 := by rw [hsl, hx]; exact HL.out _ (List.getElem_mem _)
      have hsl0 : 0 ≤ (sl : Int) := by omega
      have hws : IntKind.u64.wrap (sl : Int) = (sl : Int) := by rw [IntKind.wrap_u64]; omega
      have HUS := Lib.hid (putUint_any (Src.nil wr) sl (by omega) (by decide) (bs := []))
      have HF10 := Lib.hid (form_len10 (n := sl) (by omega))
      have HHU := Lib.hid (headU_le (kind := kind) (by have := HN.out; omega) HL.out i (by omega))
      rw [← hsl] at hc0 HNX
      clear hx hil hsl hig
      go_wp2_with fail
      refine HUS.out.mono ?_
      rintro e w3 ⟨v3, rfl, ho3, hb3⟩
      rw [List.nil_append] at ho3
      have HO3 := Lib.hid (Src.of_row ho3)
      have HB3 := Lib.hid (HBX.out.trans hb3)
      have HROW3 := Lib.hid (row_keep HROW.out fun a n c e => hb3.block _ (row_lt HROW.out e))
      obtain ⟨o3, n3, c3, rfl⟩ := row_form ho3
      clear ho3 hb3 HUS hc0
      go_wp2_with (at_builtin; refine append_bytes rfl (.tmp 24) (.tmp 28) rfl w.heap.size _ (headU kind ss i).length (headU kind ss i) rfl HROW3.out _ rfl (form sl) HO3.out ?_ ?_ ?_)
      · have := HF10.out; have := HHU.out; omega
      · exact HB3.out.size
      intro v4 w4 ho4 hg4
      have HO4 : Hid (w4.ownsRow w.heap.size 5 1 v4 (headU kind ss (i + 1)).length ((headU kind ss (i + 1)).map bV)) := by
        unfold Hid
        rw [HNX.out, List.length_append, List.map_append]; exact ho4
      have HB4 := Lib.hid (bw_grown HB3.out hg4 (row_own HROW3.out))
      clear ho4 hg4
      go_wp2
      go_roundg g
      case measure => omega
      case rel => exact ⟨i + 1, by have := HIG.out; omega, by first | rfl | simp, HO4.out, HB4.out⟩

def GrowPost (w : World) (e : Ending) (w' : World) : Prop := ∃ v, e = .returned v ∧ w'.ownsRow w.heap.size 5 1 v 0 [] ∧ BW w w'
theorem zeros_len (n : Nat) : (Builtin.zeroCells (Value.int .u8 0).cells n).size = n := by simp [size_zeroCells, Value.cells]
set_option maxHeartbeats 4000000 in
set_option maxRecDepth 100000 in
theorem grow_any (n : Nat) (hn : n ≤ 16777216) (w : World) : Calls Try.prog 37 #[.slice none 0 0, .int .i64 (n : Int)] w (GrowPost w) := by
  have hn0 : 0 ≤ (n : Int) := by omega
  have hn1 : (n : Int) ≤ 16777216 := by omega
  by_cases hz : n = 0
  · subst hz
    go_enter Try.func37, Try.ntmps37
    go_wp2
    go_ret
    exact ⟨_, rfl, World.ownsRow_nil _ _ _ _, BW.refl _⟩
  · have hpos : 0 < (n : Int) := by omega
    obtain ⟨i0, hi, hz0, hz1, hz2⟩ := infoOf info_u8
    have happ := Lib.hid (Lib.run_append_nil_zeros (P := Try.prog) w 23 3 23 5 i0 (.int .u8 0) .i64 .i64 Try.underlying23 Try.underlying3 hi hz0 n (by omega) (by omega) (by omega) (by rw [hz2]; omega))
    have hcapge : n ≤ grownCap w n 0 5 := grownCap_ge w _ 0 5
    have hcaple : grownCap w n 0 5 ≤ maxLen := grownCap_le_maxLen w _ 0 5 (by unfold maxLen; omega)
    generalize grownCap w n 0 5 = cap2 at happ hcapge hcaple
    have HZ : Hid ((Builtin.zeroCells (Value.int .u8 0).cells n ++ Builtin.zeroCells (Value.int .u8 0).cells (cap2 - n)).size = cap2) := by
      unfold Hid; rw [Array.size_append, zeros_len, zeros_len]; omega
    generalize hZ : Builtin.zeroCells (Value.int .u8 0).cells n ++ Builtin.zeroCells (Value.int .u8 0).cells (cap2 - n) = Z at happ HZ
    have HCL := Lib.hid hcaple
    have hci : (n : Int) ≤ (cap2 : Int) := by omega
    clear hi hz0 hz1 hz2 hZ hcaple hz
    go_enter Try.func37, Try.ntmps37
    go_wp2_with (at_builtin; refine Lib.wpList_append_run _ rfl _ _ _ _ rfl _ _ rfl rfl _ _ happ.out ?_)
    go_ret
    refine ⟨_, rfl, ⟨rfl, .inr ⟨w.heap.size, cap2, Z, rfl, Nat.le_refl _, heap_new _ _, Nat.zero_le _, HCL.out, by have := HZ.out; omega, by simp⟩⟩, ?_⟩
    exact (bw_drew (BW.refl w) 1).alloc _
end Go.Proofs.Ytaaeaaahllicbaa
