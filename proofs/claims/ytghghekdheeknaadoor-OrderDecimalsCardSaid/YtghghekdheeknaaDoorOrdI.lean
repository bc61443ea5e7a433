/- Stage 7, the laws: what they ask of known inputs; awake. -/
import Derived.Test.YtghghekdheeknaaDoorOrdE
import Derived.Test.YtghghekdheeknaaDoorOrdH
namespace Go.Proofs.YtghghekdheeknaaDoor
open Go.RowKit Go.Maps Odr Go.Shelf
attribute [local go_sem] Oper.semAt_some

theorem src_string {w : World} {ao : Option Addr} {n cap : Nat} {bs : List UInt8} (h : Src w (.slice ao n cap) (bs.map bV)) : (convert 63 9 (.slice ao n cap)).run Tryd.prog w = .ok (.string ⟨bs.toArray⟩) w := by
  rcases h with ⟨ao', c', e, e2, h5, h6⟩ | ⟨b', off', c, hv, h1, h2, h3, h4⟩
  · cases e
    have hb : bs = [] := by simpa using e2
    subst hb
    cases ao with
    | none => exact run_convert_bytes_nil w 63 5 Tryd.underlying63 Tryd.underlying5 0 cap _ Tryd.underlying9
    | some a => exact run_convert_bytes_back w 63 9 5 a cap [] Tryd.underlying63 Tryd.underlying5 Tryd.underlying9 (fun j hj => by simp at hj)
  · cases hv
    rw [List.length_map]
    refine run_convert_bytes_back w 63 9 5 ⟨b', off', none⟩ cap bs Tryd.underlying63 Tryd.underlying5 Tryd.underlying9 (fun j hj => ?_)
    rw [addOff]
    exact h4 j _ (by rw [List.getElem?_map, List.getElem?_eq_getElem hj]; rfl)

def TrueB (w : World) (e : Ending) (w' : World) : Prop := e = .returned (.bool true) ∧ BW w w'
theorem self_eq (t : ByteArray) : (t.toList == t.toList) = true := by simp
set_option maxRecDepth 100000 in
set_option maxHeartbeats 1000000 in
theorem decimal_t {s : List UInt8} {sc want : Int} (h : decR s sc = (want, 0)) (hl : (s.length : Int) ≤ 4611686018427387904) (w : World) (hE : Env w) : Calls Tryd.prog 27 #[textV s, .int .i64 sc, .int .i64 want] w (TrueB w) := by
  have HD := Lib.hid (fun W h => decimal_any s sc hl W h)
  rw [h] at HD
  have HE := Lib.hid hE
  obtain ⟨ts, hts⟩ : ∃ t, textV s = .string t := ⟨_, rfl⟩
  rw [hts] at HD ⊢
  clear h hl hE hts
  go_enter Tryd.func27, Tryd.ntmps27
  go_wp2_with fail
  refine (HD.out _ HE.out).mono ?_
  rintro e w2 ⟨rfl, h2⟩
  have H2 := Lib.hid h2
  clear h2
  go_wp2
  go_ret
  exact ⟨ret_bool (by simp), H2.out⟩
set_option maxRecDepth 100000 in
set_option maxHeartbeats 1000000 in
theorem none_t {s : List UInt8} {sc : Int} (h : decR s sc = (0, 70)) (hl : (s.length : Int) ≤ 4611686018427387904) (w : World) (hE : Env w) : Calls Tryd.prog 28 #[textV s, .int .i64 sc] w (TrueB w) := by
  have HD := Lib.hid (fun W h => decimal_any s sc hl W h)
  rw [h] at HD
  have HE := Lib.hid hE
  obtain ⟨ts, hts⟩ : ∃ t, textV s = .string t := ⟨_, rfl⟩
  rw [hts] at HD ⊢
  clear h hl hE hts
  go_enter Tryd.func28, Tryd.ntmps28
  go_wp2_with fail
  refine (HD.out _ HE.out).mono ?_
  rintro e w2 ⟨rfl, h2⟩
  have H2 := Lib.hid h2
  clear h2
  go_wp2
  go_ret
  exact ⟨ret_bool (by simp), H2.out⟩
set_option maxRecDepth 100000 in
set_option maxHeartbeats 1000000 in
theorem text_t {n sc : Int} {want : List UInt8} (h : textR n sc = (want, 0)) (h0 : -9223372036854775808 ≤ n) (h1 : n ≤ 9223372036854775807) (w : World) (hE : Env w) : Calls Tryd.prog 29 #[.int .i64 n, .int .i64 sc, textV want] w (TrueB w) := by
  have HD := Lib.hid (fun W h => text_any n sc h0 h1 W h)
  rw [h] at HD
  have HE := Lib.hid hE
  obtain ⟨ts, hts⟩ : ∃ t, textV want = .string t := ⟨_, rfl⟩
  have HD2 : Hid (∀ W, Env W → Calls Tryd.prog 11 #[.int .i64 n, .int .i64 sc] W fun e w' => e = .returned (.tuple #[.string ts, .int .i64 0]) ∧ BW W w') := fun W hW => by rw [← hts]; exact HD.out W hW
  rw [hts]
  clear h hE hts HD h0 h1
  go_enter Tryd.func29, Tryd.ntmps29
  go_wp2_with fail
  refine (HD2.out _ HE.out).mono ?_
  rintro e w2 ⟨rfl, h2⟩
  have H2 := Lib.hid h2
  clear h2
  go_wp2
  go_ret
  exact ⟨ret_bool (by simp), H2.out⟩
theorem key_new (w : World) (k : PKey) : KSrc (w.alloc (.cells #[.int .i64 k.kind, .int .i64 k.num, textV k.text] 45)) (.slice (some ⟨w.heap.size, 0, none⟩) 1 1) [k] := by
  refine ⟨_, _, rfl, fun j u hu => ⟨_, _, rfl, ?_⟩⟩
  rw [Nat.zero_add]
  refine cell_of (heap_new w _) ?_
  match j, hu with
  | 0, h => exact h
  | 1, h => exact h
  | 2, h => exact h
  | j + 3, h => simp [keyCells, keyC] at h
theorem bytesR_one {k : PKey} (h : rightB k = true) : bytesR [k] = (oneK k, 0) := by
  unfold bytesR; rw [if_pos (by simp [h])]; simp [bytesK]
set_option maxRecDepth 100000 in
set_option maxHeartbeats 1000000 in
theorem bytes_t {k : PKey} (h : rightB k = true) (hn : i64 k.num) (hk : (k.text.length : Int) ≤ 1000) {w : World} {ao : Option Addr} {n cap : Nat} (hs : Src w (.slice ao n cap) ((oneK k).map bV)) : Calls Tryd.prog 31 #[keyV k, .slice ao n cap] w (TrueB w) := by
  have hb := bytesR_one h
  have HB : Hid (∀ W v, KSrc W v [k] → Calls Tryd.prog 15 #[v] W fun e w' => e = .returned (.tuple #[textV (oneK k), .int .i64 0]) ∧ BW W w') := fun W v hv => by
    have := bytes_any hv (by simp) (by unfold wt; simp; omega) (by intro x hx; rw [List.mem_singleton] at hx; rw [hx]; exact hn)
    rw [hb] at this; exact this
  obtain ⟨o, ho⟩ : ∃ o, o = oneK k := ⟨_, rfl⟩
  rw [← ho] at HB hs
  obtain ⟨tox, hto⟩ : ∃ t, t = ByteArray.mk o.toArray := ⟨_, rfl⟩
  have HKN : Hid (∀ W : World, KSrc (W.alloc (.cells #[.int .i64 k.kind, .int .i64 k.num, textV k.text] 45)) (.slice (some ⟨W.heap.size, 0, none⟩) 1 1) [k]) := fun W => key_new W k
  have vo : textV o = .string tox := by rw [hto]; rfl
  rw [vo] at HB
  have HCV : Hid (∀ W, BW w W → (convert 63 9 (.slice ao n cap)).run Tryd.prog W = .ok (.string tox) W) := fun W hW => by
    rw [hto]; exact src_string (hs.below hW)
  unfold keyV
  obtain ⟨tk', htk⟩ : ∃ t, textV k.text = .string t := ⟨_, rfl⟩
  rw [htk] at HKN ⊢
  clear hb ho hto vo htk h hn hk hs
  go_enter Tryd.func31, Tryd.ntmps31
  go_wp2_with fail
  have hk2 := HKN.out (w.alloc (.cells #[.int .i64 k.kind, .int .i64 k.num, .string tk'] 45))
  rw [World.size_alloc] at hk2
  refine (HB.out _ _ hk2).mono ?_
  rintro e w2 ⟨rfl, h2⟩
  have hb2 : BW w w2 := ((bw_alloc w _).alloc _).trans h2
  have hcv := HCV.out w2 hb2
  have HB2 := Lib.hid hb2
  clear h2 hb2 hk2 HCV
  go_wp2
  go_ret
  exact ⟨ret_bool (by simp), HB2.out⟩
theorem env_alloc {w : World} (h : Env w) (o : Obj) : Env (w.alloc o) := h.bw (bw_alloc w o)
theorem dec1 : decR [49, 50, 46, 53] 2 = (1250, 0) := by decide +kernel
theorem dec2 : decR [48, 49] 2 = (0, 70) := by decide +kernel
theorem txt1 : textR (-7) 2 = ([45, 48, 46, 48, 55], 0) := by decide +kernel
theorem one1 : oneK ⟨2, 0, [97, 0]⟩ = [2, 97, 0, 255, 0, 1] := by decide +kernel
theorem cmp1 : cmpK ⟨0, 0, []⟩ ⟨1, 0, []⟩ = -1 := by decide +kernel
set_option maxRecDepth 100000 in
set_option maxHeartbeats 1000000 in
theorem awake_any (w : World) (hE : Env w) : Calls Tryd.prog 13 #[] w (TrueB w) := by
  have D1 : Hid (∀ W, Env W → Calls Tryd.prog 27 #[.string ⟨#[49, 50, 46, 53]⟩, .int .i64 2, .int .i64 1250] W (TrueB W)) := fun W h => decimal_t dec1 (by decide) W h
  have D2 : Hid (∀ W, Env W → Calls Tryd.prog 28 #[.string ⟨#[48, 49]⟩, .int .i64 2] W (TrueB W)) := fun W h => none_t dec2 (by decide) W h
  have D3 : Hid (∀ W, Env W → Calls Tryd.prog 29 #[.int .i64 (-7), .int .i64 2, .string ⟨#[45, 48, 46, 48, 55]⟩] W (TrueB W)) := fun W h => text_t txt1 (by decide) (by decide) W h
  have D4 : Hid (∀ W : World, Calls Tryd.prog 31 #[.agg #[.int .i64 2, .int .i64 0, .string ⟨#[97, 0]⟩], .slice (some ⟨W.heap.size, 0, none⟩) 6 6] (W.alloc (.cells #[.int .u8 2, .int .u8 97, .int .u8 0, .int .u8 255, .int .u8 0, .int .u8 1] 5)) (TrueB (W.alloc (.cells #[.int .u8 2, .int .u8 97, .int .u8 0, .int .u8 255, .int .u8 0, .int .u8 1] 5)))) := fun W => by
    have hs := src_new W #[.int .u8 2, .int .u8 97, .int .u8 0, .int .u8 255, .int .u8 0, .int .u8 1] 5 6 rfl (by decide)
    exact bytes_t (k := ⟨2, 0, [97, 0]⟩) (by decide +kernel) ⟨by decide, by decide⟩ (by decide) (by rw [one1]; exact hs)
  have D5 : Hid (∀ W, Calls Tryd.prog 25 #[.agg #[.int .i64 0, .int .i64 0, .string ⟨#[]⟩], .agg #[.int .i64 1, .int .i64 0, .string ⟨#[]⟩]] W fun e w' => e = .returned (.int .i64 (-1)) ∧ BW W w') := fun W => by
    have := compare_any ⟨0, 0, []⟩ ⟨1, 0, []⟩ W
    rw [cmp1] at this; exact this
  have HE := Lib.hid hE
  clear hE
  go_enter Tryd.func13, Tryd.ntmps13
  go_wp2_with fail
  refine (D1.out _ HE.out).mono ?_
  rintro e w2 ⟨rfl, h2⟩
  have HE2 := Lib.hid (HE.out.bw h2); have H2 := Lib.hid h2
  clear h2 HE D1
  go_wp2_with fail
  refine (D2.out _ HE2.out).mono ?_
  rintro e w3 ⟨rfl, h3⟩
  have HE3 := Lib.hid (HE2.out.bw h3); have H3 := Lib.hid (H2.out.trans h3)
  clear h3 HE2 H2 D2
  go_wp2_with fail
  refine (D3.out _ HE3.out).mono ?_
  rintro e w4 ⟨rfl, h4⟩
  have H4 := Lib.hid (H3.out.trans h4)
  clear h4 HE3 H3 D3
  go_wp2_with fail
  refine (D4.out _).mono ?_
  rintro e w5 ⟨rfl, h5⟩
  have H5 := Lib.hid ((H4.out.alloc _).trans h5)
  clear h5 H4 D4
  go_wp2_with fail
  refine (D5.out _).mono ?_
  rintro e w6 ⟨rfl, h6⟩
  have H6 := Lib.hid (H5.out.trans h6)
  clear h6 H5 D5
  go_wp2
  go_ret
  exact ⟨ret_bool (by simp), H6.out⟩
end Go.Proofs.YtghghekdheeknaaDoor
