/- sure: a script of calls without failures and halts. -/
import Derived.Test.YtjiklpoggpdngaaLawL
namespace Go.Proofs.Ytjiklpoggpdngaa
open Go.RowKit Go.Maps Go.Sort

/-- a step as it lies in memory -/
structure Stp where
  kind : Int
  who : Int
  n : Int
  e : Int
  part : Int
  name : ByteArray
  other : ByteArray
  bo : Option Addr
  bc : Nat
  bs : List UInt8
  co : Option Addr
  cn : Nat
  cc : Nat

def stpCells (s : Stp) : Array Value := #[.int .i64 s.kind, .int .i64 s.who, .int .i64 s.n, .int .i64 s.e, .int .i64 s.part, .string s.name, .string s.other, .slice s.bo s.bs.length s.bc, .slice s.co s.cn s.cc]

structure StpOk (W : World) (s : Stp) : Prop where
  name : s.name.size ≤ maxLen
  other : s.other.size ≤ maxLen
  bytes : Src W (.slice s.bo s.bs.length s.bc) (s.bs.map bV)
  len : (s.bs.length : Int) ≤ 140737488351232
  part : -9223372036854775808 ≤ s.part ∧ s.part ≤ 9223372036854775807

/-- U: the blocks in which a script lies -/
def Steps (U : Nat → Prop) (W : World) (v : Value) (l : List Stp) : Prop :=
  (∃ ao cap, v = .slice ao 0 cap ∧ l = []) ∨ ∃ b off cap, v = .slice (some ⟨b, off, none⟩) l.length cap ∧ U b ∧ (∀ i (h : i < l.length), l[i].bs ≠ [] → ∀ a, l[i].bo = some a → U a.block) ∧ (l.length : Int) ≤ 9223372036854775807 ∧ ∀ i (h : i < l.length), StpOk W l[i] ∧ ∀ j u, (stpCells l[i])[j]? = some u → W.cell? ⟨b, off + i * 9 + j, none⟩ = some u

theorem Steps.len {U : Nat → Prop} {W : World} {v : Value} {l : List Stp} (h : Steps U W v l) : ∃ ao cap, v = .slice ao l.length cap := by
  rcases h with ⟨ao, cap, h, h2⟩ | ⟨b, off, cap, hv, _⟩
  · rw [h2]; exact ⟨_, _, h⟩
  · exact ⟨_, _, hv⟩

def FreshF (S : DS) (f : Nat) : Prop := (∀ p ∈ S.now, p.2 ≠ f) ∧ (∀ p ∈ S.dur, p.2 ≠ f) ∧ ∀ c ∈ S.chg, f ∉ filesOf c

/-- what a step makes of a directory -/
def stepR (s : Stp) (S S' : DS) : Prop :=
  if s.kind = 0 then ∃ f, FreshF S f ∧ S' = (opCreate S s.name.data.toList f).2
  else if s.kind = 1 then S' = (opAppend S s.name.data.toList s.bs).2
  else if s.kind = 2 then S' = (opSync S s.name.data.toList).2
  else if s.kind = 3 then S' = (opSyncDir S).2
  else if s.kind = 4 then S' = (opRename S s.name.data.toList s.other.data.toList).2
  else if s.kind = 5 then S' = (opDelete S s.name.data.toList).2
  else S' = S

def SureR : List Stp → DS → DS → Prop
  | [], S, S' => S' = S
  | s :: r, S, S' => ∃ S1, stepR s S S1 ∧ SureR r S1 S'

theorem SureR.snoc {s : Stp} : ∀ {l : List Stp} {S S1 S' : DS}, SureR l S S1 → stepR s S1 S' → SureR (l ++ [s]) S S'
  | [], S, S1, S', h, h' => ⟨S', by rw [← (show S1 = S from h)]; exact h', rfl⟩
  | x :: r, S, S1, S', ⟨S2, h1, h2⟩, h' => ⟨S2, h1, SureR.snoc h2 h'⟩

theorem opCreate_count (S : DS) (n : Nm) (f : Nat) : (opCreate S n f).2.calls = S.calls + 1 ∧ (opCreate S n f).2.bd = S.bd + 1 := by
  unfold opCreate
  split
  · exact ⟨rfl, rfl⟩
  · split
    · exact ⟨rfl, rfl⟩
    · split <;> exact ⟨rfl, rfl⟩
theorem opPut_count (S : DS) (n : Nm) (bs : List UInt8) (k : Nat) : (opPut S n bs k).2.calls = S.calls ∧ (opPut S n bs k).2.bd = S.bd := by
  unfold opPut
  split
  · exact ⟨rfl, rfl⟩
  · split <;> exact ⟨rfl, rfl⟩
theorem opAppend_count (S : DS) (n : Nm) (bs : List UInt8) : (opAppend S n bs).2.calls = S.calls + 1 ∧ (opAppend S n bs).2.bd = S.bd + 1 := by
  unfold opAppend
  split
  · exact opPut_count _ _ _ _
  · split
    · exact ⟨rfl, rfl⟩
    · exact opPut_count _ _ _ _
theorem opSync_count (S : DS) (n : Nm) : (opSync S n).2.calls = S.calls + 1 ∧ (opSync S n).2.bd = S.bd + 1 := by
  unfold opSync
  split
  · exact ⟨rfl, rfl⟩
  · split <;> exact ⟨rfl, rfl⟩
theorem opSyncDir_count (S : DS) : (opSyncDir S).2.calls = S.calls + 1 ∧ (opSyncDir S).2.bd = S.bd + 1 := by
  unfold opSyncDir
  split <;> exact ⟨rfl, rfl⟩
theorem opRename_count (S : DS) (a b : Nm) : (opRename S a b).2.calls = S.calls + 1 ∧ (opRename S a b).2.bd = S.bd + 1 := by
  unfold opRename
  split
  · exact ⟨rfl, rfl⟩
  · split
    · exact ⟨rfl, rfl⟩
    · split <;> exact ⟨rfl, rfl⟩
theorem opDelete_count (S : DS) (n : Nm) : (opDelete S n).2.calls = S.calls + 1 ∧ (opDelete S n).2.bd = S.bd + 1 := by
  unfold opDelete
  split
  · exact ⟨rfl, rfl⟩
  · split <;> exact ⟨rfl, rfl⟩
theorem stepR_count {s : Stp} {S S' : DS} (h : stepR s S S') : S'.calls ≤ S.calls + 1 ∧ S'.bd ≤ S.bd + 1 := by
  unfold stepR at h
  split at h
  · obtain ⟨f, _, rfl⟩ := h; have := opCreate_count S s.name.data.toList f; omega
  · split at h
    · subst h; have := opAppend_count S s.name.data.toList s.bs; omega
    · split at h
      · subst h; have := opSync_count S s.name.data.toList; omega
      · split at h
        · subst h; have := opSyncDir_count S; omega
        · split at h
          · subst h; have := opRename_count S s.name.data.toList s.other.data.toList; omega
          · split at h
            · subst h; have := opDelete_count S s.name.data.toList; omega
            · subst h; omega
theorem SureR.count : ∀ {l : List Stp} {S S' : DS}, SureR l S S' → S'.calls ≤ S.calls + l.length ∧ S'.bd ≤ S.bd + l.length
  | [], S, S', h => by rw [show S' = S from h]; simp
  | s :: r, S, S', ⟨S1, h1, h2⟩ => by
    have a := stepR_count h1
    have b := SureR.count h2
    simp only [List.length_cons]
    omega

theorem Holds.fresh {PB : Nat → Prop} {wP w : World} {d : Nat} {S : DS} (h : Holds PB wP w d S) {f : Nat} (hf : w.heap.size ≤ f) : FreshF S f := by
  obtain ⟨g, hr, _⟩ := h.ex
  have hl : ∀ {x : Nat}, g.role x = .file → x ≠ f := fun e => by have := hr.lt _ (by rw [e]; simp); omega
  exact ⟨fun p hp => hl (hr.fnow p hp), fun p hp => hl (hr.fdur p hp), fun c hc hx => hl (hr.fchg c hc f hx) rfl⟩
theorem Holds.notin {PB : Nat → Prop} {wP w : World} {d : Nat} {S : DS} (h : Holds PB wP w d S) {b : Nat} (hb : PB b) : b ≠ d := by
  obtain ⟨g, hr, hg⟩ := h.ex
  rintro rfl
  have := hg b hb
  rw [hr.rd] at this; cases this

def SurePost (PB : Nat → Prop) (wP : World) (d : Nat) (l : List Stp) (S : DS) (e : Ending) (w' : World) : Prop := e = .returned (.tuple #[]) ∧ ∃ S', SureR l S S' ∧ Holds PB wP w' d S'

/-- one step, in whatever case -/
def StepCall (PB : Nat → Prop) (wP : World) (d : Nat) (s : Stp) (S : DS) (w' : World) : Prop := ∃ S', stepR s S S' ∧ Holds PB wP w' d S'

set_option maxHeartbeats 4000000 in
set_option maxRecDepth 100000 in
theorem sure_any {PB : Nat → Prop} {W wP w : World} {d : Nat} {S : DS} (h : Holds PB wP w d S) (hsm : S.calls ≤ 10000 ∧ S.bd ≤ 10000) {U : Nat → Prop} (hU : ∀ b, U b → PB b ∧ wP.heap[b]? = W.heap[b]?) (hsz : W.heap.size ≤ wP.heap.size) {v : Value} {l : List Stp} (hs : Steps U W v l) (hl : l.length ≤ 10000) :
    Calls Try.prog 34 #[ptr d, v] w (SurePost PB wP d l S) := by
  rcases hs with ⟨ao, cap, rfl, rfl⟩ | ⟨b, off, cap, rfl, hb, hub, hlen, hst⟩
  · have HP : Hid (SurePost PB wP d [] S (.returned (.tuple #[])) w) := ⟨rfl, S, rfl, h⟩
    clear h hU hsz
    unfold ptr
    go_enter Try.func34, Try.ntmps34
    go_wp2
    refine wp_loop_rounds 1 ?_
    rw [rounds_succ]
    go_wp2
    go_end0
    exact HP.out
  · have HH := Lib.hid h; have HSM := Lib.hid hsm; have HU := Lib.hid hU; have HSZ := Lib.hid hsz; have HUB := Lib.hid hub; have HST := Lib.hid hst; have HL := Lib.hid hl; have HBL := Lib.hid hb
    obtain ⟨N, hN⟩ : ∃ N, l.length = N := ⟨_, rfl⟩
    have HN := Lib.hid hN
    rw [hN] at hlen
    rw [hN]
    have hbb : (N : Int) ≤ 10000 := by omega
    clear h hsm hU hsz hub hst hl hb hN hlen
    unfold ptr
    go_enter Try.func34, Try.ntmps34
    go_wp2
    go_loopw [4, 5] (fun i _ wr => ∃ k : Nat, k ≤ N ∧ i = .int .i64 k ∧ ∃ Sk, SureR (l.take k) S Sk ∧ Holds PB wP wr d Sk) (fun i _ _ => N - (intOf i).toNat)
    case atStart => exact ⟨0, Nat.zero_le _, rfl, S, rfl, HH.out⟩
    case round =>
      obtain ⟨k, hk, rfl, Sk, hsr, hhk⟩ := hrel
      by_cases hlt : k < N
      · have hkl : k < l.length := by have := HN.out; omega
        obtain ⟨hok, hcell⟩ := HST.out k hkl
        have hbw : ∀ x, U x → wr.heap[x]? = W.heap[x]? := fun x hx => (hhk.same x (HU.out x hx).1).trans (HU.out x hx).2
        have hcw : ∀ j u, (stpCells l[k])[j]? = some u → wr.cell? ⟨b, off + k * 9 + j, none⟩ = some u := fun j u hu => (World.cell?_of_block (w := W) (a := ⟨b, off + k * 9 + j, none⟩) (hbw b HBL.out)).trans (hcell j u hu)
        have HUB' := HUB.out k hkl
        obtain ⟨s, hs⟩ : ∃ s, s = l[k] := ⟨_, rfl⟩
        rw [← hs] at hcw hok HUB'
        have k0 : wr.cell? ⟨b, off + k * 9, none⟩ = some (.int .i64 s.kind) := hcw 0 _ rfl
        have k1 : wr.cell? ⟨b, off + k * 9 + 1, none⟩ = some (.int .i64 s.who) := hcw 1 _ rfl
        have k2 : wr.cell? ⟨b, off + k * 9 + 2, none⟩ = some (.int .i64 s.n) := hcw 2 _ rfl
        have k3 : wr.cell? ⟨b, off + k * 9 + 3, none⟩ = some (.int .i64 s.e) := hcw 3 _ rfl
        have k4 : wr.cell? ⟨b, off + k * 9 + 4, none⟩ = some (.int .i64 s.part) := hcw 4 _ rfl
        have k5 : wr.cell? ⟨b, off + k * 9 + 5, none⟩ = some (.string s.name) := hcw 5 _ rfl
        have k6 : wr.cell? ⟨b, off + k * 9 + 6, none⟩ = some (.string s.other) := hcw 6 _ rfl
        have k7 : wr.cell? ⟨b, off + k * 9 + 7, none⟩ = some (.slice s.bo s.bs.length s.bc) := hcw 7 _ rfl
        have k8 : wr.cell? ⟨b, off + k * 9 + 8, none⟩ = some (.slice s.co s.cn s.cc) := hcw 8 _ rfl
        have hcnt := hsr.count
        rw [List.length_take] at hcnt
        have hsm : Sm Sk := by have := HSM.out; exact ⟨by omega, by omega⟩
        have hnx : ∀ S', stepR s Sk S' → SureR (l.take (k + 1)) S S' := fun S' h' => by rw [List.take_succ_eq_append_getElem hkl, ← hs]; exact hsr.snoc h'
        have hbsrc : Src wr (.slice s.bo s.bs.length s.bc) (s.bs.map bV) := hok.bytes.keep (Nat.le_trans HSZ.out hhk.size) (fun h0 a n c e => by injection e with e1 _ _; exact hbw _ (HUB' (by simpa using h0) a e1))
        have hbne : s.bs ≠ [] → ∀ a n c, (Value.slice s.bo s.bs.length s.bc) = .slice (some a) n c → a.block ≠ d := fun h0 a n c e => hhk.notin (HU.out _ (HUB' h0 a (by injection e))).1
        have hblt : b < wr.heap.size := cell_lt k0
        have HOK := Lib.hid hok; have HSM2 := Lib.hid hsm; have HNX := Lib.hid hnx; have HBS := Lib.hid hbsrc; have HBN := Lib.hid hbne; have HK := Lib.hid hhk
        clear HUB' hok hcell hbw hcw hs hcnt hsm hnx hbsrc hbne hhk hsr hkl
        by_cases g0 : s.kind = 0
        · have E := Lib.hid g0
          have e0 : (s.kind == 0) = true := by rw [g0]; rfl
          clear g0
          go_wp2_with fail
          refine (create_h (HK.out.al _) HSM2.out s.name HOK.out.name).mono ?_
          rintro e w3 ⟨f, hf, rfl, hh3⟩
          have HFR : Hid (FreshF Sk f) := HK.out.fresh (by simp at hf; omega)
          have HR := Lib.hid hh3
          clear hh3
          go_wp2
          go_roundw
          case rel => exact ⟨k + 1, by omega, by go_num, _, HNX.out _ (by unfold stepR; rw [if_pos E.out]; exact ⟨f, HFR.out, rfl⟩), HR.out⟩
          case measure => simp [intOf]; omega
        by_cases g1 : s.kind = 1
        · have E := Lib.hid g1
          have e0 : (s.kind == 1) = true := by rw [g1]; rfl
          have q0 : (s.kind == 0) = false := by rw [g1]; rfl
          clear g0 g1
          go_wp2_with fail
          refine (append_h (HK.out.al _) HSM2.out s.name HOK.out.name (HBS.out.below (bw_alloc _ _)) HOK.out.len HBN.out).mono ?_
          rintro e w3 ⟨rfl, hh3⟩
          have HR := Lib.hid hh3
          clear hh3
          go_wp2
          go_roundw
          case rel => exact ⟨k + 1, by omega, by go_num, _, HNX.out _ (by unfold stepR; rw [if_neg (by rw [E.out]; decide), if_pos E.out]), HR.out⟩
          case measure => simp [intOf]; omega
        by_cases g2 : s.kind = 2
        · have E := Lib.hid g2
          have e0 : (s.kind == 2) = true := by rw [g2]; rfl
          have q0 : (s.kind == 0) = false := by rw [g2]; rfl
          have q1 : (s.kind == 1) = false := by rw [g2]; rfl
          clear g0 g1 g2
          go_wp2_with fail
          refine (sync_h (HK.out.al _) HSM2.out s.name HOK.out.name).mono ?_
          rintro e w3 ⟨rfl, hh3⟩
          have HR := Lib.hid hh3
          clear hh3
          go_wp2
          go_roundw
          case rel => exact ⟨k + 1, by omega, by go_num, _, HNX.out _ (by unfold stepR; rw [if_neg (by rw [E.out]; decide), if_neg (by rw [E.out]; decide), if_pos E.out]), HR.out⟩
          case measure => simp [intOf]; omega
        by_cases g3 : s.kind = 3
        · have E := Lib.hid g3
          have e0 : (s.kind == 3) = true := by rw [g3]; rfl
          have q0 : (s.kind == 0) = false := by rw [g3]; rfl
          have q1 : (s.kind == 1) = false := by rw [g3]; rfl
          have q2 : (s.kind == 2) = false := by rw [g3]; rfl
          clear g0 g1 g2 g3
          go_wp2_with fail
          refine (syncdir_h (HK.out.al _) HSM2.out).mono ?_
          rintro e w3 ⟨rfl, hh3⟩
          have HR := Lib.hid hh3
          clear hh3
          go_wp2
          go_roundw
          case rel => exact ⟨k + 1, by omega, by go_num, _, HNX.out _ (by unfold stepR; rw [if_neg (by rw [E.out]; decide), if_neg (by rw [E.out]; decide), if_neg (by rw [E.out]; decide), if_pos E.out]), HR.out⟩
          case measure => simp [intOf]; omega
        by_cases g4 : s.kind = 4
        · have E := Lib.hid g4
          have e0 : (s.kind == 4) = true := by rw [g4]; rfl
          have q0 : (s.kind == 0) = false := by rw [g4]; rfl
          have q1 : (s.kind == 1) = false := by rw [g4]; rfl
          have q2 : (s.kind == 2) = false := by rw [g4]; rfl
          have q3 : (s.kind == 3) = false := by rw [g4]; rfl
          clear g0 g1 g2 g3 g4
          go_wp2_with fail
          refine (rename_h (HK.out.al _) HSM2.out s.name s.other HOK.out.name HOK.out.other).mono ?_
          rintro e w3 ⟨rfl, hh3⟩
          have HR := Lib.hid hh3
          clear hh3
          go_wp2
          go_roundw
          case rel => exact ⟨k + 1, by omega, by go_num, _, HNX.out _ (by unfold stepR; rw [if_neg (by rw [E.out]; decide), if_neg (by rw [E.out]; decide), if_neg (by rw [E.out]; decide), if_neg (by rw [E.out]; decide), if_pos E.out]), HR.out⟩
          case measure => simp [intOf]; omega
        by_cases g5 : s.kind = 5
        · have E := Lib.hid g5
          have e0 : (s.kind == 5) = true := by rw [g5]; rfl
          have q0 : (s.kind == 0) = false := by rw [g5]; rfl
          have q1 : (s.kind == 1) = false := by rw [g5]; rfl
          have q2 : (s.kind == 2) = false := by rw [g5]; rfl
          have q3 : (s.kind == 3) = false := by rw [g5]; rfl
          have q4 : (s.kind == 4) = false := by rw [g5]; rfl
          clear g0 g1 g2 g3 g4 g5
          go_wp2_with fail
          refine (delete_h (HK.out.al _) HSM2.out s.name HOK.out.name).mono ?_
          rintro e w3 ⟨rfl, hh3⟩
          have HR := Lib.hid hh3
          clear hh3
          go_wp2
          go_roundw
          case rel => exact ⟨k + 1, by omega, by go_num, _, HNX.out _ (by unfold stepR; rw [if_neg (by rw [E.out]; decide), if_neg (by rw [E.out]; decide), if_neg (by rw [E.out]; decide), if_neg (by rw [E.out]; decide), if_neg (by rw [E.out]; decide), if_pos E.out]), HR.out⟩
          case measure => simp [intOf]; omega
        have q0 : (s.kind == 0) = false := by simpa using g0
        have q1 : (s.kind == 1) = false := by simpa using g1
        have q2 : (s.kind == 2) = false := by simpa using g2
        have q3 : (s.kind == 3) = false := by simpa using g3
        have q4 : (s.kind == 4) = false := by simpa using g4
        have q5 : (s.kind == 5) = false := by simpa using g5
        have HS6 : Hid (stepR s Sk Sk) := by unfold Hid stepR; rw [if_neg g0, if_neg g1, if_neg g2, if_neg g3, if_neg g4, if_neg g5]
        clear g0 g1 g2 g3 g4 g5
        go_wp2
        go_roundw
        case rel => exact ⟨k + 1, by omega, by go_num, Sk, HNX.out _ HS6.out, HK.out.al _⟩
        case measure => simp [intOf]; omega
      · have hk2 : k = N := by omega
        have HF : Hid (SurePost PB wP d l S (.returned (.tuple #[])) wr) := ⟨rfl, Sk, by rw [hk2, ← HN.out, List.take_length] at hsr; exact hsr, hhk⟩
        clear hsr hhk
        go_wp2
        go_end0
        exact HF.out

end Go.Proofs.Ytjiklpoggpdngaa
