/- pack.Get: what is read block by block; wrong lengths. -/
import Derived.Test.YtdoliejihinpkaaPackL
namespace Go.Proofs.Ytdoliejihinpkaa
open Go.RowKit Go.Maps

def stepR (bs : List UInt8) {n : Nat} (s : Option (List Int × Nat)) (x : Blk n) : Option (List Int × Nat) :=
  s.bind fun p => (readP (bs.drop p.2) (x.1.2 - x.1.1)).map fun q => (p.1 ++ q.1, p.2 + q.2)
def posR (bs : List UInt8) {n : Nat} (pre : List (Blk n)) : Option (List Int × Nat) := pre.foldl (stepR bs) (some ([], 0))
theorem posR_snoc (bs : List UInt8) {n : Nat} (pre : List (Blk n)) (x : Blk n) : posR bs (pre ++ [x]) = stepR bs (posR bs pre) x := by unfold posR; rw [List.foldl_append]; rfl
theorem posR_some {bs : List UInt8} {n : Nat} : ∀ {pre : List (Blk n)} {d : List Int} {p : Nat}, posR bs pre = some (d, p) → p ≤ bs.length ∧ d.length ≤ 128 * pre.length := by
  intro pre
  rcases List.eq_nil_or_concat pre with rfl | ⟨r, x, rfl⟩
  · intro d p h; cases h; exact ⟨Nat.zero_le _, Nat.zero_le _⟩
  · intro d p h
    rw [List.concat_eq_append, posR_snoc] at h
    unfold stepR at h
    cases hr : posR bs r with
    | none => rw [hr] at h; cases h
    | some q =>
      rw [hr, Option.bind_some] at h
      cases hp : readP (bs.drop q.2) (x.1.2 - x.1.1) with
      | none => rw [hp] at h; cases h
      | some y =>
        rw [hp] at h
        cases h
        have ih := posR_some (pre := r) (d := q.1) (p := q.2) hr
        obtain ⟨h1, _, _, h4, _⟩ := read_some (l := y.1) (m := y.2) hp
        have hx := x.2
        rw [List.length_drop] at h4
        refine ⟨by show q.2 + y.2 ≤ _; omega, ?_⟩
        show (q.1 ++ y.1).length ≤ _
        rw [List.length_append, List.concat_eq_append, List.length_append, List.length_singleton]
        omega
termination_by pre => pre.length
decreasing_by subst_vars; rw [List.concat_eq_append, List.length_append]; simp
theorem get_pos {bs : List UInt8} {n : Nat} : ∀ k, k ≤ (n + 127) / 128 → getP bs n = (posR bs (upto n k)).bind fun p => (getP (bs.drop p.2) (n - 128 * k)).map fun q => (p.1 ++ q.1, p.2 + q.2)
  | 0, _ => by
    show getP bs n = (getP (bs.drop 0) (n - 0)).map fun q => ([] ++ q.1, 0 + q.2)
    rw [List.drop_zero, Nat.sub_zero]
    cases getP bs n with
    | none => rfl
    | some q => simp
  | k + 1, hk => by
    have hlt : 128 * k < n := by omega
    rw [get_pos k (by omega), upto_succ hlt, posR_snoc]
    cases hr : posR bs (upto n k) with
    | none => unfold stepR; simp only [Option.bind_none]
    | some p =>
      rw [Option.bind_some]
      unfold stepR
      rw [Option.bind_some]
      have e : (blk n k hlt).1.2 - (blk n k hlt).1.1 = min (n - 128 * k) 128 := by unfold blk; show min (128 * k + 128) n - 128 * k = _; omega
      rw [getP_eq _ _ (show n - 128 * k ≠ 0 by omega), e]
      cases readP (bs.drop p.2) (min (n - 128 * k) 128) with
      | none => simp only [Option.bind_none, Option.map_none]
      | some q =>
        simp only [Option.bind_some, Option.map_some]
        rw [List.drop_drop, show n - 128 * k - 128 = n - 128 * (k + 1) by omega]
        cases getP (bs.drop (p.2 + q.2)) (n - 128 * (k + 1)) with
        | none => rfl
        | some z => simp [List.append_assoc, Nat.add_assoc]
theorem get_all {bs : List UInt8} {n : Nat} : getP bs n = posR bs (upto n ((n + 127) / 128)) := by
  rw [get_pos _ (Nat.le_refl _), show n - 128 * ((n + 127) / 128) = 0 by omega]
  cases posR bs (upto n ((n + 127) / 128)) with
  | none => simp only [Option.bind_none]
  | some p => simp [get_zero]
theorem get_stop {bs : List UInt8} {n k : Nat} (hk : k ≤ (n + 127) / 128) (h : posR bs (upto n k) = none) : getP bs n = none := by
  rw [get_pos k hk, h, Option.bind_none]

def GetPost (w : World) (bs : List UInt8) (n : Nat) (e : Ending) (w' : World) : Prop :=
  ∃ (v : Value) (k er : Int), e = .returned (.tuple #[v, .int .i64 k, .int .i64 er]) ∧ BW w w' ∧
    ((∃ l m, getP bs n = some (l, m) ∧ k = (m : Int) ∧ er = 0 ∧ w'.ownsRow w.heap.size 2 1 v l.length (l.map iV)) ∨ (getP bs n = none ∧ v = .slice none 0 0 ∧ k = 0 ∧ er = 20))
def GetArg (w : World) (e : Ending) (w' : World) : Prop := e = .returned (.tuple #[.slice none 0 0, .int .i64 0, .int .i64 1]) ∧ BW w w'
set_option maxHeartbeats 1000000 in
theorem get_arg {w : World} {v : Value} {n : Int} (h3 : -9223372036854775808 ≤ n) (h4 : n ≤ 9223372036854775807) (hn : ¬ (0 ≤ n ∧ n ≤ 1048576)) : Calls Try.prog 27 #[v, .int .i64 n] w (GetArg w) := by
  have H2 := Lib.hid (fun w => isLength_any n w h3 h4)
  have HD2 := Lib.hid (decide_eq_false hn)
  clear hn h3 h4
  go_enter Try.func27, Try.ntmps27
  go_wp2_with (go_at_call 36; refine (H2.out _).mono ?_; rintro e w' ⟨rfl, rfl⟩; rw [HD2.out])
  exact bodyPost_ret (v := .tuple #[.slice none 0 0, .int .i64 0, .int .i64 1]) (by simp [results, Try.results27, go_sem]) rfl ⟨rfl, (((BW.refl w).alloc _).alloc _).alloc _⟩
end Go.Proofs.Ytdoliejihinpkaa
