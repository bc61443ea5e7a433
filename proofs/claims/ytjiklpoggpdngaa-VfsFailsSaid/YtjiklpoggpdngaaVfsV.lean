/- Crash: the walk. -/
import Derived.Test.YtjiklpoggpdngaaVfsU
import Derived.Deep.RegionHeld3
namespace Go.Proofs.Ytjiklpoggpdngaa
open Go.RowKit Go.Maps Go.Sort

def Crashed (S : DS) (cs : List Int) (S' : DS) : Prop := CutUpto S cs (crashLeft S cs).length S' ∧ S'.dur = S'.now
def CrashPost (w : World) (S : DS) (cs : List Int) (e : Ending) (w' : World) : Prop :=
  ∃ d' g' S', e = .returned (ptr d') ∧ Rep w' d' g' S' ∧ Below w.heap.size w w' ∧ (∀ b, g'.role b ≠ .no → w.heap.size ≤ b) ∧ Crashed S cs S'

theorem Rep.setbd {w : World} {d : Nat} {g : Gh} {S : DS} (h : Rep w d g S) (bd : Nat) (h1 : S.now.length ≤ bd) (h2 : S.dur.length + S.chg.length ≤ bd) : Rep w d g { S with bd := bd } :=
  ⟨h.dir, h.rd, h.now, h.dur, h.rn, h.rb, h.nd, h.chs, h.rc, h.cl, fun f e => ⟨(h.fl f e).blk, (h.fl f e).row, (h.fl f e).rol, (h.fl f e).syn, (h.fl f e).len⟩, h.fnow, h.fdur, h.fchg, h.lt, h1, h2, h.bleft, h.bfl, h.bfp⟩

theorem World.alloc_size' (w : World) (o : Obj) : (w.alloc o).heap.size = w.heap.size + 1 := by simp

theorem durset {w w3 : World} {d : Nat} {g : Gh} {S : DS} (h : Rep w d g S) (hb : RowKit.Below w.heap.size w w3) (hm : IsDir Try.prog w3 w.heap.size S.now) (hc : S.chg = []) :
    Rep (w3.setCell ⟨d, 1, none⟩ (.map (some w.heap.size))) d { g with role := upd g.role w.heap.size .map, db := w.heap.size } { S with dur := S.now } := by
  have hd := h.lt d (by rw [h.rd]; simp)
  have hn0 : g.role w.heap.size = .no := h.fresh (Nat.le_refl _)
  have hd3 : w3.heap[d]? = some (.cells (dirCells g S) 75 (0, 0)) := (hb.block d hd).trans h.dir
  have hdf := heap_set (i := 1) hd3 (.map (some w.heap.size))
  have hsz : (w3.setCell ⟨d, 1, none⟩ (.map (some w.heap.size))).heap.size = w3.heap.size := by simp [World.setCell]
  have hs3 := hb.size
  have hl3 := World.ownsMap.lt hm
  have kp : ∀ {b : Nat} {r : Role}, g.role b = r → r ≠ .no → r ≠ .dir → (w3.setCell ⟨d, 1, none⟩ (.map (some w.heap.size))).heap[b]? = w.heap[b]? := by
    intro b r e n1 n2
    rw [Below.heap_setCell _ _ _ _ (by rintro rfl; rw [h.rd] at e; exact n2 e.symm), hb.block b (h.lt b (by rw [e]; exact n1))]
  have ro : ∀ x, g.role x ≠ .no → upd g.role w.heap.size .map x = g.role x := fun x hx => upd_other _ _ (by rintro rfl; exact hx hn0)
  have rl : ∀ {x : Nat} {q : Role}, g.role x = q → q ≠ .no → upd g.role w.heap.size .map x = q := fun {x q} e n => by rw [ro x (by rw [e]; exact n)]; exact e
  refine h.turn (by omega) ro (fun b e => kp e (by simp) (by simp)) (fun f e => ⟨kp e (by simp) (by simp), fun b e => kp e (by simp) (by simp), rfl, rfl⟩) ?_ hdf (isdir_keep h.now (kp h.rn (by simp) (by simp)))
    ?_ (rl h.rn (by simp)) (upd_same _ _ _) ?_ (row_keep h.chs fun a n c e => kp (h.rc a n c e) (by simp) (by simp)) (fun a n c e => rl (h.rc a n c e) (by simp)) ⟨h.cl.1, fun i h1 h2 => (h.cl.2 i h1 h2).keep fun x e => ⟨kp e (by simp) (by simp), rl e (by simp)⟩⟩ (fun p hp => rl (h.fnow p hp) (by simp)) (fun p hp => rl (h.fnow p hp) (by simp)) (fun c hc x hx => rl (h.fchg c hc x hx) (by simp)) h.bnow (by show S.now.length + S.chg.length ≤ S.bd; rw [hc]; exact h.bnow) h.bleft h.bfl h.bfp
  · intro b e1 e2
    have hx : b = w.heap.size := by
      apply Classical.byContradiction
      intro e
      apply e2
      show upd g.role w.heap.size .map b = .no
      rw [upd_other _ _ e]; exact e1
    subst hx
    refine ⟨by omega, fun e => ?_⟩
    have h2 : Role.map = Role.file := (upd_same g.role w.heap.size Role.map).symm.trans e
    cases h2
  · refine isdir_keep hm ?_
    show (w3.setCell ⟨d, 1, none⟩ (.map (some w.heap.size))).heap[w.heap.size]? = _
    rw [Below.heap_setCell _ _ _ _ (by show w.heap.size ≠ d; omega)]
  · show g.nb ≠ w.heap.size
    have := h.lt g.nb (by rw [h.rn]; simp)
    omega

structure CrashLoop (w w3 wr : World) (d od : Nat) (og : Gh) (S : DS) (cs : List Int) (k : Nat) : Prop where
  chosen : Chosen w wr w.heap.size (cs.drop (S.chg.length + k))
  rep : ∃ gk Sk, Rep wr od gk Sk ∧ CutUpto S cs k Sk ∧ (∀ b, gk.role b ≠ .no → og.role b ≠ .no ∨ w3.heap.size ≤ b) ∧ Sk.dur = []
  mv : Moves (fun b => b = w.heap.size ∨ og.role b ≠ .no) w3 wr

set_option maxHeartbeats 4000000 in
set_option maxRecDepth 100000 in
theorem crash_any {w : World} {d : Nat} {g : Gh} {S : DS} (h : Rep w d g S) (hsm : Sm S) {ao : Option Addr} {cap : Nat} {cs : List Int} (hcs : IntSrc w ao cap cs) :
    Calls Try.prog 22 #[ptr d, .slice ao cs.length cap] w (CrashPost w S cs) := by
  have HH := Lib.hid h
  have HSM := Lib.hid hsm
  have hch : Chosen w (w.alloc (.cells #[.slice ao cs.length cap] 31)) w.heap.size cs := ⟨ao, cap, heap_new _ _, hcs⟩
  have HK := Lib.hid (kept_any (W := w) (h.alloc _) (by have := hsm.2; omega) hch ((Below.refl _ w).alloc (Nat.le_refl _) _) (Nat.le_refl _) (h.fresh (Nat.le_refl _)))
  clear h hsm hcs hch
  unfold ptr
  go_enter Try.func22, Try.ntmps22
  go_wp2_with fail
  refine HK.out.mono ?_
  rintro e w1 ⟨lb, rfl, hlb, hdir1, hch1, hm1⟩
  have HD1 := Lib.hid hdir1; have HC1 := Lib.hid hch1; have HM1 := Lib.hid hm1; have HLB := Lib.hid hlb
  clear hdir1 hch1 hm1 hlb
  go_wp2_with fail
  refine (new_any _).mono ?_
  rintro e w2 ⟨od, og, rfl, hor, hob, hon⟩
  have HOR := Lib.hid hor; have HOB := Lib.hid hob; have HON := Lib.hid hon
  clear hor hob hon
  unfold ptr
  go_wp2_with fail
  refine (keys_any (some lb) _).mono ?_
  rintro e w' ⟨rfl, rfl⟩
  have hlb1 := World.ownsMap.lt HD1.out
  have hdir2 : IsDir Try.prog w2 lb (keptF S.chg cs S.dur) := isdir_keep HD1.out (HOB.out.block _ hlb1)
  have hlen2 : (keptF S.chg cs S.dur).length ≤ 900000 := by
    have h1 := keptF_len S.chg cs S.dur
    have := HH.out.bdur; have := HSM.out.2
    omega
  have HD2 := Lib.hid hdir2; have HL2 := Lib.hid hlen2
  clear hdir2 hlen2 hlb1
  go_wp2_with fail
  refine (sorted_any HD2.out (by have := HL2.out; omega)).mono ?_
  rintro e w3 ⟨v, rfl, hrow3, hbl3⟩
  obtain ⟨vo, vn, vc, rfl⟩ := row_form hrow3
  have hvn := row_len hrow3 rfl
  subst hvn
  have HR3 := Lib.hid hrow3; have HB3 := Lib.hid hbl3
  clear hrow3 hbl3
  go_wp2
  have HST : Hid (CrashLoop w w3 w3 d od og S cs 0) := by
    have h3 : Rep w3 od og DS0 := HOR.out.frame (by have := HB3.out.size; simp at this; omega) (fun b hb => (HB3.out.block b (by have := HOR.out.lt b hb; simp; omega)).trans (Below.heap_alloc _ _ _ (HOR.out.lt b hb)))
    refine ⟨?_, ⟨og, { DS0 with bd := S.bd }, h3.setbd S.bd (Nat.zero_le _) (Nat.zero_le _), ?_, fun b hb => .inl hb, rfl⟩, Moves.refl _ _⟩
    · obtain ⟨ao', cap', ho, hs⟩ := HC1.out
      have hl := lt_of_heap ho
      have hl2 := HOB.out.size
      exact ⟨ao', cap', one_keep ho ((HB3.out.block _ (by simp; omega)).trans ((Below.heap_alloc _ _ _ (by omega)).trans (HOB.out.block _ hl))), hs⟩
    · exact ⟨rfl, rfl, rfl, rfl, rfl, rfl, rfl, fun i h _ => by cases h⟩
  have hsz : ((keptF S.chg cs S.dur).length : Int) ≤ 900000 := by have := HL2.out; omega
  obtain ⟨N, hN⟩ : ∃ N, (keptF S.chg cs S.dur).length = N := ⟨_, rfl⟩
  have HN := Lib.hid hN
  rw [hN] at hsz
  simp only [hN]
  clear hN
  go_loopw [9, 21] (fun _ i wr => ∃ k : Nat, k ≤ N ∧ i = .int .i64 k ∧ CrashLoop w w3 wr d od og S cs k) (fun _ i _ => N - (intOf i).toNat)
  case atStart => exact ⟨0, Nat.zero_le _, rfl, HST.out⟩
  case round =>
    obtain ⟨k, hk, rfl, hinv⟩ := hrel
    by_cases hlt : k < N
    · obtain ⟨hch, ⟨gk, Sk, hrep, hcut, hnew, hdur⟩, hmv⟩ := hinv
      have hs3 := HB3.out.size
      have hs2 := HOB.out.size
      have hsm := hmv.size
      have hs1 := HM1.out.size
      have hlbl := HLB.out
      rw [World.alloc_size'] at hs1 hs3 hlbl
      have hlb1 := World.ownsMap.lt HD1.out
      have hbw1 : RowKit.Below w.heap.size w w1 := ((RowKit.Below.refl _ w).alloc (Nat.le_refl _) _).trans (HM1.out.below (B := w.heap.size) (fun x hx => by subst hx; exact Nat.le_refl _) (by rw [World.alloc_size']; omega))
      have hbw2 : RowKit.Below w.heap.size w w2 := hbw1.trans (HOB.out.mono (by omega))
      have hbw3 : RowKit.Below w.heap.size w w3 := (hbw2.trans ((RowKit.Below.refl _ w2).alloc (by omega) _)).trans (HB3.out.mono (by rw [World.alloc_size']; omega))
      have hbwr : RowKit.Below w.heap.size w wr := hbw3.trans (hmv.below (fun x hx => by rcases hx with rfl | hx; exact Nat.le_refl _; have := HON.out x hx; omega) (by omega))
      -- the name
      have hlen : k < (crashLeft S cs).length := by show k < (keptF _ _ _).length; rw [HN.out]; exact hlt
      have hrd : Rep wr d g S := HH.out.frame hbwr.size (fun b hb => hbwr.block b (HH.out.lt b hb))
      have hdirw : IsDir Try.prog wr lb (crashLeft S cs) := by
        refine isdir_keep HD2.out ?_
        rw [hmv.block lb (by omega) (fun hx => by rcases hx with rfl | hx; omega; have := HON.out lb hx; omega), HB3.out.block lb (by rw [World.alloc_size']; omega), Below.heap_alloc _ _ _ (by omega)]
      have hnm : (crashLeft S cs)[k].1.length ≤ maxLen := isdir_names hdirw _ (List.getElem_mem hlen)
      obtain ⟨s, hs⟩ : ∃ s : ByteArray, s = ⟨(crashLeft S cs)[k].1.toArray⟩ := ⟨_, rfl⟩
      have hsl : s.data.toList = (crashLeft S cs)[k].1 := by rw [hs]
      have hss : s.size ≤ maxLen := by rw [← ByteArray.size_data, ← Array.length_toList, hsl]; exact hnm
      have hget : aget (crashLeft S cs) s.data.toList = some (crashLeft S cs)[k].2 := by
        rw [hsl]; exact mem_aget (isdir_asc hdirw) (List.getElem_mem hlen)
      have hfile : g.role (crashLeft S cs)[k].2 = .file := by
        rcases keptF_mem (show (crashLeft S cs)[k] ∈ keptF S.chg cs S.dur from List.getElem_mem hlen) with h1 | ⟨c, hc, hf⟩
        · exact HH.out.fdur _ h1
        · exact HH.out.fchg c hc _ hf
      obtain ⟨vb, rfl⟩ : ∃ vb, vo = some ⟨vb, 0, none⟩ := by
        obtain ⟨_, h2 | ⟨g', cap', cur', hv', _⟩⟩ := HR3.out
        · have := h2.2; have h9 := HN.out; omega
        · injection hv' with e1 e2 e3; exact ⟨g', e1⟩
      have hcell : wr.cell? ⟨vb, k, none⟩ = some (.string s) := by
        have h1 := (row_cell HR3.out rfl (i := k) (by rw [List.length_map, List.length_map]; exact hlen)).1
        have hvb := new_of_row HR3.out rfl
        have hvb2 := row_lt HR3.out rfl
        rw [World.alloc_size'] at hvb
        simp only [Nat.zero_add] at h1 hvb hvb2
        rw [List.getElem_map, List.getElem_map] at h1
        refine (World.cell?_of_block (w := w3) (a := ⟨vb, k, none⟩) (hmv.block vb hvb2 (fun hx => ?_))).trans (h1.trans ?_)
        · rcases hx with rfl | hx
          · omega
          · have := HOR.out.lt vb hx; omega
        · rw [hs]; rfl
      obtain ⟨f, hff⟩ : ∃ f, (crashLeft S cs)[k].2 = f := ⟨_, rfl⟩
      rw [hff] at hget hfile
      obtain ⟨c, hc⟩ : ∃ c, (cs.drop (S.chg.length + k)).headD 0 = c := ⟨_, rfl⟩
      have hcint : -9223372036854775808 ≤ c ∧ c ≤ 9223372036854775807 := by
        obtain ⟨ao', cap', _, hsrc⟩ := hch
        rw [← hc]
        cases hd : cs.drop (S.chg.length + k) with
        | nil => simp
        | cons x r => exact hsrc.int x (by rw [hd]; exact List.mem_cons_self ..)
      have hnext := next_any (cb := w.heap.size) (w := wr.drew) (cs := cs.drop (S.chg.length + k)) (W := w) hch ⟨hbwr.os, hbwr.tape, hbwr.output, hbwr.size, hbwr.block⟩ (Nat.le_refl _)
      unfold NextPost at hnext
      rw [hc] at hnext
      have HNX := Lib.hid hnext
      have c0 : wr.cell? ⟨od, 0, none⟩ = some (.map (some gk.nb)) := cell_of hrep.dir rfl
      have hl0 : (Instr.lookup 68 (.map (some lb)) (.string s) false).run Try.prog wr.drew = .ok (.pointer (some ⟨f, 0, none⟩)) wr.drew := by
        have := look_run (w := wr.drew) (isdir_keep hdirw rfl) hss
        rw [hget] at this; exact this
      have hodne : od ≠ w.heap.size := by
        have h1 := HON.out od (by rw [HOR.out.rd]; simp); omega
      have hgkcb : gk.role w.heap.size = .no := by
        apply Classical.byContradiction
        intro e
        rcases hnew _ e with h1 | h1
        · have := HON.out _ h1; omega
        · omega
      have HL := Lib.hid hdirw; have HSS := Lib.hid hss; have HG := Lib.hid hget; have HREP := Lib.hid hrep; have HCUT := Lib.hid hcut; have HNEW := Lib.hid hnew; have HMV := Lib.hid hmv; have HRD := Lib.hid hrd; have HF := Lib.hid hfile
      have HCI := Lib.hid hcint; have HSL := Lib.hid hsl; have HFF := Lib.hid hff; have HC := Lib.hid hc; have HLN := Lib.hid hlen; have HDU := Lib.hid hdur; have HKC := Lib.hid hgkcb
      have HLBN : Hid (lb ≠ w.heap.size) := by unfold Hid; omega
      have HWL : Hid (w.heap.size < wr.heap.size) := by unfold Hid; omega
      have HODN := Lib.hid hodne
      clear hch hrep hcut hnew hdur hmv hdirw hnm hss hget hfile hsl hs hff hc hcint hnext hbw1 hbw2 hbw3 hbwr hrd hs3 hs2 hsm hs1 hlbl hlb1 hodne hgkcb
      have HA : Hid (∀ w4 : World, Moves (fun x => x = w.heap.size) wr.drew w4 → w4.cell? ⟨od, 0, none⟩ = some (.map (some gk.nb)) ∧ (Instr.lookup 68 (.map (some lb)) (.string s) false).run Try.prog w4 = .ok (.pointer (some ⟨f, 0, none⟩)) w4 ∧ FileRep w4 g S f ∧ Rep w4 od gk Sk) := by
        intro w4 hm4
        have hrep4 : Rep w4 od gk Sk := (HREP.out.drewN 1).moved hm4 (fun b hb e => hb (by rw [e]; exact HKC.out))
        refine ⟨cell_of hrep4.dir rfl, ?_, ?_, hrep4⟩
        · have := look_run (w := w4) (isdir_keep HL.out (hm4.block lb (World.ownsMap.lt HL.out) HLBN.out)) HSS.out
          rw [HG.out] at this; exact this
        · exact ((HRD.out.drewN 1).moved hm4 (fun b hb e => by have := HH.out.lt b hb; omega)).fl f HF.out
      have HB : Hid (∀ (w4 w5 : World) (nf : Nat) (v : Value), Moves (fun x => x = w.heap.size) wr.drew w4 → Chosen w w4 w.heap.size (cs.drop (S.chg.length + k)).tail → w4.heap.size ≤ nf → w5.heap[nf]? = some (.cells #[v, .int .i64 ((cutN (S.fs f).1.length (S.fs f).2 c : Nat) : Int)] 85 (0, 0)) →
          w5.ownsRow w4.heap.size 5 1 v (cutN (S.fs f).1.length (S.fs f).2 c) (((S.fs f).1.take (cutN (S.fs f).1.length (S.fs f).2 c)).map bV) → RowKit.Below w4.heap.size w4 w5 →
          w5.cell? ⟨od, 0, none⟩ = some (.map (some gk.nb)) ∧ ∃ w6, (Instr.mapUpdate 68 (.map (some gk.nb)) (.string s) (.pointer (some ⟨nf, 0, none⟩))).run Try.prog w5 = .ok () w6 ∧ CrashLoop w w3 w6 d od og S cs (k + 1)) := by
        intro w4 w5 nf v hm4 hch4 hnf hblk hrow hbl
        obtain ⟨_, _, hf4, hrep4⟩ := HA.out w4 hm4
        have hcu := HCUT.out
        have hlk : Sk.now.length = k := hcu.len (Nat.le_of_lt hlen)
        have hd5 : w5.heap[od]? = some (.cells (dirCells gk Sk) 75 (0, 0)) := (hbl.block od (lt_of_heap hrep4.dir)).trans hrep4.dir
        have hnow5 : IsDir Try.prog w5 gk.nb Sk.now := isdir_keep hrep4.now (hbl.block _ (hrep4.lt _ (by rw [hrep4.rn]; simp)))
        obtain ⟨w6, hrun, hown6, hgr6⟩ := World.ownsMap.update hnow5 law9 Try.underlying68 (by unfold maxLen; omega) (key9 HSS.out) (RP_mk nf)
        have hdir6 : IsDir Try.prog w6 gk.nb (aput Sk.now s.data.toList nf) := isDir_of (by rw [← toD_put]; exact hown6)
        have hm6 := moves_grown hgr6
        have hcl := cutN_le (S.fs f).1.length (S.fs f).2 c hf4.syn
        have hroom : Sk.now.length + 1 ≤ Sk.bd := by
          rw [hlk, hcu.bd]
          have h1 := keptF_len S.chg cs S.dur
          have h2 := HH.out.bdur
          have h3 : k < (keptF S.chg cs S.dur).length := hlen
          omega
        have hrep6 := hrep4.cutput (nm := s.data.toList) (bs := (S.fs f).1.take (cutN (S.fs f).1.length (S.fs f).2 c)) hnf hbl hblk hrow (by rw [List.length_take]; omega) (by have := hf4.len; omega) hdir6 hm6 hroom
        refine ⟨cell_of hd5 rfl, w6, hrun, ?_, ⟨_, _, hrep6, ?_, ?_, HDU.out⟩, ?_⟩
        · obtain ⟨ao', cap', ho, hs⟩ := hch4
          rw [List.tail_drop] at ho hs
          rw [show S.chg.length + (k + 1) = S.chg.length + k + 1 by omega]
          refine ⟨ao', cap', one_keep ho ?_, hs⟩
          rw [hm6.block _ (by have := hbl.size; have := lt_of_heap ho; omega) (fun e => by have h1 := HREP.out.rn; rw [← e, HKC.out] at h1; cases h1), hbl.block _ (lt_of_heap ho)]
        · have h1 := hcu.next (nf := nf) hlen (isdir_asc HL.out) (fun p hp e => by
            have h2 := hrep4.lt p.2 (by rw [hrep4.fnow p hp]; simp)
            omega)
          unfold cutOf at h1
          rw [HFF.out, HC.out] at h1
          rw [HSL.out]
          exact h1
        · intro b hb
          rcases roleCut_new hnf hrow b hb with h1 | h1
          · exact HNEW.out b h1
          · right
            have := hm4.size; have := HMV.out.size
            have h9 : wr.drew.heap.size = wr.heap.size := rfl
            omega
        · have hs4 := hm4.size
          have h9 : wr.drew.heap.size = wr.heap.size := rfl
          have hs3 := HMV.out.size
          refine (((HMV.out.drewN 1).trans hm4 (fun i _ e => .inl e)).trans (Moves.of_below hbl (fun _ => False)) (fun i _ e => e.elim)).trans hm6 (fun i hi e => ?_)
          subst e
          rcases HNEW.out gk.nb (by rw [HREP.out.rn]; simp) with h1 | h1
          · exact .inr h1
          · omega
      go_wp2
      go_region_with (first
        | (go_at_call 48; refine HNX.out.mono ?_; rintro e w4 ⟨rfl, hch4, hm4⟩; obtain ⟨c4, hl4, hf4, _⟩ := HA.out w4 hm4; have HM4 := Lib.hid hm4; have HC4 := Lib.hid hch4; have HF4 := Lib.hid hf4; clear hm4 hch4 hf4)
        | (go_at_call 52; refine (cut_any HF4.out c HCI.out.1 HCI.out.2).mono ?_; rintro e w5 ⟨nf, v, rfl, hnf, hblk, hrow, hbl⟩; unfold ptr; obtain ⟨c5, w6, hrun, hinv6⟩ := HB.out w4 w5 nf v HM4.out HC4.out hnf hblk hrow hbl; have HI6 := Lib.hid hinv6; clear hnf hblk hrow hbl hinv6))
      all_goals
        go_wp2
        go_roundw
        case rel => exact ⟨k + 1, by omega, by go_num, HI6.out⟩
        case measure => simp [intOf]; omega
    · have hk2 : k = N := by omega
      subst hk2
      obtain ⟨hch, ⟨gk, Sk, hrep, hcut, hnew, hdur⟩, hmv⟩ := hinv
      have c0 : wr.cell? ⟨od, 0, none⟩ = some (.map (some gk.nb)) := cell_of hrep.dir rfl
      have HREP := Lib.hid hrep; have HCUT := Lib.hid hcut; have HNEW := Lib.hid hnew; have HMV := Lib.hid hmv
      clear hch hrep hcut hnew hdur hmv hk
      go_wp2_with fail
      refine (clone_any HREP.out.now).mono ?_
      rintro e w5 ⟨rfl, hdir5, hbl5⟩
      have hd5 : w5.heap[od]? = some (.cells (dirCells gk Sk) 75 (0, 0)) := (hbl5.block od (lt_of_heap HREP.out.dir)).trans HREP.out.dir
      have c51 : w5.cell? ⟨od, 1, none⟩ = some (.map (some gk.db)) := cell_of hd5 rfl
      have f51 : w5.frozen? ⟨od, 1, none⟩ = false := unfrozen_of hd5
      have HDS := Lib.hid (durset HREP.out hbl5 hdir5 HCUT.out.chg)
      have HB5 := Lib.hid hbl5
      clear hdir5 hbl5 hd5
      go_wp2
      go_ret
      have hodl := lt_of_heap HREP.out.dir
      have hs3 := HB3.out.size
      have hs2 := HOB.out.size
      have hsm := HMV.out.size
      have hs1 := HM1.out.size
      have hlbl := HLB.out
      rw [World.alloc_size'] at hs1 hs3 hlbl
      have hbw1 : RowKit.Below w.heap.size w w1 := ((RowKit.Below.refl _ w).alloc (Nat.le_refl _) _).trans (HM1.out.below (B := w.heap.size) (fun x hx => by subst hx; exact Nat.le_refl _) (by rw [World.alloc_size']; omega))
      have hbw2 : RowKit.Below w.heap.size w w2 := hbw1.trans (HOB.out.mono (by omega))
      have hbw3 : RowKit.Below w.heap.size w w3 := (hbw2.trans ((RowKit.Below.refl _ w2).alloc (by omega) _)).trans (HB3.out.mono (by rw [World.alloc_size']; omega))
      have hbwr : RowKit.Below w.heap.size w wr := hbw3.trans (HMV.out.below (fun x hx => by rcases hx with rfl | hx; exact Nat.le_refl _; have := HON.out x hx; omega) (by omega))
      have hod : og.role od ≠ .no := by rw [HOR.out.rd]; simp
      have hodge := HON.out od hod
      refine ⟨od, _, _, rfl, HDS.out, (hbwr.trans (HB5.out.mono (by omega))).setCell (by show w.heap.size ≤ od; omega) _, ?_, ?_⟩
      · intro b hb
        by_cases e : b = wr.heap.size
        · omega
        · have hb' : gk.role b ≠ .no := by
            have h9 : upd gk.role wr.heap.size .map b ≠ .no := hb
            rw [upd_other _ _ e] at h9; exact h9
          rcases HNEW.out b hb' with h9 | h9
          · have := HON.out b h9; omega
          · omega
      · refine ⟨?_, rfl⟩
        have hcu := HCUT.out
        rw [← HN.out] at hcu
        exact ⟨hcu.calls, hcu.bd, hcu.asked, hcu.left, hcu.fl, hcu.chg, hcu.names, hcu.files⟩

end Go.Proofs.Ytjiklpoggpdngaa
