/- Plain: blocks and rows: their forms, and how they are read. -/
import Derived.Test.YtdoliejihinpkaaPackM
namespace Go.Proofs.Ytdoliejihinpkaa

def I64 (x : Int) : Prop := -9223372036854775808 ≤ x ∧ x ≤ 9223372036854775807
def I64s (l : List Int) : Prop := ∀ x ∈ l, I64 x
def minL : List Int → Int
  | [] => 0
  | x :: r => r.foldl min x
theorem foldl_min : ∀ (r : List Int) (x : Int), r.foldl min x ≤ x ∧ (∀ y ∈ r, r.foldl min x ≤ y) ∧ (r.foldl min x = x ∨ r.foldl min x ∈ r)
  | [], x => ⟨Int.le_refl _, by simp, .inl rfl⟩
  | a :: r, x => by
    obtain ⟨h1, h2, h3⟩ := foldl_min r (min x a)
    rw [List.foldl_cons]
    refine ⟨by omega, ?_, ?_⟩
    · intro y hy
      rcases List.mem_cons.1 hy with rfl | hy
      · omega
      · exact h2 y hy
    · rcases h3 with h3 | h3
      · by_cases h : x ≤ a
        · left; omega
        · right; rw [h3, Int.min_eq_right (by omega)]; exact List.mem_cons_self
      · exact .inr (List.mem_cons_of_mem _ h3)
theorem minL_mem : ∀ {l : List Int}, l ≠ [] → minL l ∈ l
  | x :: r, _ => by
    rcases (foldl_min r x).2.2 with h | h
    · show r.foldl min x ∈ _
      rw [h]; exact List.mem_cons_self
    · exact List.mem_cons_of_mem _ h
theorem minL_le : ∀ {l : List Int} {x : Int}, x ∈ l → minL l ≤ x
  | a :: r, x, h => by
    rcases List.mem_cons.1 h with rfl | h
    · exact (foldl_min r x).1
    · exact (foldl_min r a).2.1 x h
theorem minL_eq {l : List Int} {m : Int} (h : m ∈ l) (h2 : ∀ x ∈ l, m ≤ x) : minL l = m :=
  Int.le_antisymm (minL_le h) (h2 _ (minL_mem (fun e => by rw [e] at h; cases h)))
theorem minL_snoc {l : List Int} (hl : l ≠ []) (x : Int) : minL (l ++ [x]) = min (minL l) x := by
  cases l with
  | nil => exact absurd rfl hl
  | cons a r => show (r ++ [x]).foldl min a = _; rw [List.foldl_append]; rfl

def aboveP (l : List Int) : List Nat := l.map fun x => (x - minL l).toNat
def blockP (l : List Int) : List UInt8 := form (turned (minL l)) ++ UInt8.ofNat (widP (aboveP l)) :: bitsP (aboveP l) (widP (aboveP l))
def w64 (x : Int) : Int := (x + 9223372036854775808) % 18446744073709551616 - 9223372036854775808
def candP (least : Int) (a : List Nat) : List Int := a.map fun (n : Nat) => w64 (least + (n : Int))
def readP (b : List UInt8) (k : Nat) : Option (List Int × Nat) :=
  match deco b with
  | none => none
  | some (u, c) =>
    match b.drop c with
    | [] => none
    | w :: r =>
      if 64 < w.toNat ∨ r.length < packed k w.toNat then none
      else match unbitsP (r.take (packed k w.toNat)) w.toNat k with
        | none => none
        | some a => if minL (candP (back u) a) = back u ∧ widP a = w.toNat then some (candP (back u) a, c + 1 + packed k w.toNat) else none

theorem w64_id {x : Int} (h : I64 x) : w64 x = x := by unfold w64; unfold I64 at h; omega
theorem w64_i64 (x : Int) : I64 (w64 x) := by unfold w64 I64; omega
theorem above_lt {l : List Int} (h : I64s l) : ∀ x ∈ aboveP l, x < 18446744073709551616 := by
  intro x hx
  obtain ⟨y, hy, rfl⟩ := List.mem_map.1 hx
  have h1 := h y hy
  have h2 := h _ (minL_mem (fun e => by rw [e] at hy; cases hy))
  unfold I64 at h1 h2
  omega
theorem above_wid {l : List Int} (h : I64s l) : ∀ x ∈ aboveP l, x < 2 ^ widP (aboveP l) := (widP_le (above_lt h)).1 (Nat.le_refl _)
theorem cand_above {l : List Int} (h : I64s l) : candP (minL l) (aboveP l) = l := by
  unfold candP aboveP
  rw [List.map_map]
  have : ∀ x ∈ l, ((fun n : Nat => w64 (minL l + (n : Int))) ∘ fun x => (x - minL l).toNat) x = x := by
    intro x hx
    have h1 := minL_le hx
    show w64 (minL l + (((x - minL l).toNat : Nat) : Int)) = x
    rw [show minL l + (((x - minL l).toNat : Nat) : Int) = x by omega, w64_id (h x hx)]
  rw [List.map_congr_left this, List.map_id']
theorem above_cand {least : Int} {a : List Nat} (h1 : I64 least) (ha : ∀ x ∈ a, x < 18446744073709551616) (h : minL (candP least a) = least) : aboveP (candP least a) = a := by
  unfold aboveP
  rw [h]
  unfold candP
  rw [List.map_map]
  have : ∀ n ∈ a, ((fun x : Int => (x - least).toNat) ∘ fun n : Nat => w64 (least + (n : Int))) n = n := by
    intro n hn
    have h2 : least ≤ w64 (least + (n : Int)) := by
      rw [← h]; exact minL_le (by rw [h]; exact List.mem_map.2 ⟨n, hn, rfl⟩)
    have h3 := ha n hn
    show (w64 (least + (n : Int)) - least).toNat = n
    unfold w64 at h2 ⊢; unfold I64 at h1
    omega
  rw [List.map_congr_left this, List.map_id']
theorem cand_len (least : Int) (a : List Nat) : (candP least a).length = a.length := List.length_map _
theorem above_len (l : List Int) : (aboveP l).length = l.length := List.length_map _
theorem byte_of {n : Nat} (h : n ≤ 64) : (UInt8.ofNat n).toNat = n := by rw [UInt8.toNat_ofNat']; omega
theorem block_len (l : List Int) : (blockP l).length = (form (turned (minL l))).length + 1 + packed l.length (widP (aboveP l)) := by
  unfold blockP; rw [List.length_append, List.length_cons, bitsP_len, above_len]; omega

theorem read_of {l : List Int} (h0 : l ≠ []) (h : I64s l) (t : List UInt8) : readP (blockP l ++ t) l.length = some (l, (blockP l).length) := by
  have hm := h _ (minL_mem h0)
  have hw := widP_64 (aboveP l)
  unfold readP
  rw [block_len]
  unfold blockP
  rw [List.append_assoc, deco_form (turned_lt hm.1 hm.2)]
  simp only [List.drop_left, List.cons_append, byte_of hw]
  rw [if_neg (by rw [List.length_append, bitsP_len, above_len]; omega)]
  rw [List.take_left' (by rw [bitsP_len, above_len])]
  have hu := unbits_bits (above_wid h)
  rw [above_len] at hu
  rw [hu]
  simp only [back_turned, cand_above h, and_self, if_true]
theorem read_some {b : List UInt8} {k m : Nat} {l : List Int} (h : readP b k = some (l, m)) : l.length = k ∧ I64s l ∧ b.take m = blockP l ∧ m ≤ b.length ∧ m = (blockP l).length := by
  unfold readP at h
  split at h
  · cases h
  · rename_i u c hd
    obtain ⟨d1, d2, d3, d4, d5⟩ := deco_some hd
    split at h
    · cases h
    · rename_i w r hr
      split at h
      · cases h
      · rename_i hw
        split at h
        · cases h
        · rename_i a ha
          split at h
          · rename_i hmw
            cases h
            obtain ⟨b1, b2, b3⟩ := bits_unbits ha
            have hab : ∀ x ∈ a, x < 18446744073709551616 := fun x hx => Nat.lt_of_lt_of_le (b3 x hx) (Nat.le_trans (Nat.pow_le_pow_right (by decide) (show w.toNat ≤ 64 by omega)) (by decide))
            have e1 := above_cand (back_bound d1) hab hmw.1
            have hbl : blockP (candP (back u) a) = form u ++ w :: r.take (packed k w.toNat) := by
              unfold blockP
              rw [e1, hmw.1, hmw.2, turned_back, b1, UInt8.ofNat_toNat]
            have hlen : b.length = c + 1 + r.length := by
              have := congrArg List.length hr
              rw [List.length_drop, List.length_cons] at this; omega
            refine ⟨by rw [cand_len, b2], ?_, ?_, by omega, ?_⟩
            · intro x hx
              obtain ⟨n, _, rfl⟩ := List.mem_map.1 hx
              exact w64_i64 _
            · rw [hbl, d2]
              have e2 : b = b.take c ++ (w :: r) := by rw [← hr, List.take_append_drop]
              have e3 : (b.take c).length = c := by rw [List.length_take]; omega
              conv => lhs; rw [e2]
              rw [List.take_append, List.take_of_length_le (by omega), e3, show c + 1 + packed k w.toNat - c = packed k w.toNat + 1 by omega, List.take_succ_cons]
            · rw [hbl, List.length_append, List.length_cons, d2, List.length_take, List.length_take]; omega
          · cases h
theorem read_iff {b : List UInt8} {k m : Nat} (hk : 0 < k) {l : List Int} : readP b k = some (l, m) ↔ l.length = k ∧ I64s l ∧ blockP l <+: b ∧ m = (blockP l).length := by
  constructor
  · intro h
    obtain ⟨h1, h2, h3, h4, h5⟩ := read_some h
    exact ⟨h1, h2, ⟨b.drop m, by rw [← h3, List.take_append_drop]⟩, h5⟩
  · rintro ⟨rfl, h2, ⟨t, rfl⟩, rfl⟩
    exact read_of (by rintro rfl; simp at hk) h2 t

def putP (l : List Int) : List UInt8 :=
  if h : l = [] then [] else blockP (l.take 128) ++ putP (l.drop 128)
termination_by l.length
decreasing_by
  have : 0 < l.length := List.length_pos_iff.2 h
  rw [List.length_drop]; omega
def getN : Nat → List UInt8 → Nat → Option (List Int × Nat)
  | 0, _, _ => some ([], 0)
  | f + 1, b, n =>
    if n = 0 then some ([], 0)
    else (readP b (min n 128)).bind fun p => (getN f (b.drop p.2) (n - 128)).map fun q => (p.1 ++ q.1, p.2 + q.2)
theorem getN_fuel : ∀ (f g : Nat) (b : List UInt8) (n : Nat), n ≤ f → n ≤ g → getN f b n = getN g b n
  | 0, 0, _, _, _, _ => rfl
  | 0, g + 1, b, n, h, _ => by rw [show n = 0 by omega]; rfl
  | f + 1, 0, b, n, _, h => by rw [show n = 0 by omega]; rfl
  | f + 1, g + 1, b, n, h1, h2 => by
    unfold getN
    by_cases hn : n = 0
    · rw [if_pos hn, if_pos hn]
    · rw [if_neg hn, if_neg hn]
      congr 1
      funext p
      rw [getN_fuel f g _ (n - 128) (by omega) (by omega)]
theorem getN_step (f : Nat) (b : List UInt8) (n : Nat) (hn : n ≠ 0) : getN (f + 1) b n = (readP b (min n 128)).bind fun p => (getN f (b.drop p.2) (n - 128)).map fun q => (p.1 ++ q.1, p.2 + q.2) := by
  rw [getN, if_neg hn]
def getP (b : List UInt8) (n : Nat) : Option (List Int × Nat) := getN n b n
theorem getP_eq (b : List UInt8) (n : Nat) (hn : n ≠ 0) : getP b n = (readP b (min n 128)).bind fun p => (getP (b.drop p.2) (n - 128)).map fun q => (p.1 ++ q.1, p.2 + q.2) := by
  have h1 : getP b n = getN (n - 1 + 1) b n := by unfold getP; rw [Nat.sub_add_cancel (by omega)]
  have h2 : ∀ p : List Int × Nat, getN (n - 1) (b.drop p.2) (n - 128) = getP (b.drop p.2) (n - 128) := fun p => getN_fuel _ _ _ _ (by omega) (Nat.le_refl _)
  rw [h1, getN_step _ _ _ hn]
  simp only [h2]
theorem putP_nil : putP [] = [] := by rw [putP]; simp
theorem putP_cons {l : List Int} (h : l ≠ []) : putP l = blockP (l.take 128) ++ putP (l.drop 128) := by conv => lhs; rw [putP, dif_neg h]
theorem putP_one {l : List Int} (h : l ≠ []) (h2 : l.length ≤ 128) : putP l = blockP l := by
  rw [putP_cons h, List.take_of_length_le h2, List.drop_of_length_le h2, putP_nil, List.append_nil]
theorem putP_append : ∀ (j : Nat) (a c : List Int), a.length = 128 * j → putP (a ++ c) = putP a ++ putP c
  | 0, a, c, h => by
    have : a = [] := List.length_eq_zero_iff.1 (by omega)
    subst this; rw [putP_nil]; rfl
  | j + 1, a, c, h => by
    have ha : a ≠ [] := by rintro rfl; simp at h
    rw [putP_cons (l := a ++ c) (by simp [ha]), putP_cons ha, List.take_append_of_le_length (by omega), List.drop_append_of_le_length (by omega), putP_append j (a.drop 128) c (by rw [List.length_drop]; omega), List.append_assoc]
theorem get_zero (b : List UInt8) : getP b 0 = some ([], 0) := rfl
theorem get_none {b : List UInt8} {n : Nat} (hn : n ≠ 0) (h : readP b (min n 128) = none) : getP b n = none := by rw [getP_eq b n hn, h, Option.bind_none]
theorem get_some {b : List UInt8} {n : Nat} (hn : n ≠ 0) {x : List Int} {m : Nat} (h : readP b (min n 128) = some (x, m)) : getP b n = (getP (b.drop m) (n - 128)).map fun p => (x ++ p.1, m + p.2) := by
  rw [getP_eq b n hn, h, Option.bind_some]
theorem get_iff : ∀ (n : Nat) (b : List UInt8) (l : List Int) (m : Nat), getP b n = some (l, m) ↔ l.length = n ∧ I64s l ∧ putP l <+: b ∧ m = (putP l).length := by
  intro n
  induction n using Nat.strongRecOn with
  | ind n ih =>
    intro b l m
    by_cases hn : n = 0
    · subst hn
      rw [get_zero]
      constructor
      · intro h; cases h; rw [putP_nil]; exact ⟨rfl, by intro x hx; simp at hx, List.nil_prefix, rfl⟩
      · rintro ⟨h1, _, _, rfl⟩
        have := List.length_eq_zero_iff.1 h1
        subst this; rw [putP_nil]; rfl
    · constructor
      · intro h
        cases hr : readP b (min n 128) with
        | none => rw [get_none hn hr] at h; cases h
        | some p =>
          obtain ⟨x, q⟩ := p
          rw [get_some hn hr] at h
          obtain ⟨r1, r2, ⟨t, rfl⟩, rfl⟩ := (read_iff (by omega)).1 hr
          rw [List.drop_left] at h
          cases hg : getP t (n - 128) with
          | none => rw [hg] at h; cases h
          | some p2 =>
            obtain ⟨y, q2⟩ := p2
            rw [hg] at h
            cases h
            obtain ⟨g1, g2, ⟨t2, rfl⟩, rfl⟩ := (ih _ (by omega) t y q2).1 hg
            have hx0 : x ≠ [] := by rintro rfl; simp at r1; omega
            have e : putP (x ++ y) = blockP x ++ putP y := by
              by_cases hy : y = []
              · subst hy
                rw [List.append_nil, putP_nil, List.append_nil, putP_one hx0 (by omega)]
              · have : y.length ≠ 0 := fun e => hy (List.length_eq_zero_iff.1 e)
                rw [putP_append 1 x y (by omega), putP_one hx0 (by omega)]
            refine ⟨by show (x ++ y).length = n; rw [List.length_append]; omega, ?_, ?_, by rw [e, List.length_append]⟩
            · intro z hz
              rcases List.mem_append.1 hz with hz | hz
              · exact r2 z hz
              · exact g2 z hz
            · rw [e]; exact ⟨t2, by rw [List.append_assoc]⟩
      · rintro ⟨rfl, h2, ⟨t, rfl⟩, rfl⟩
        have hl : l ≠ [] := by rintro rfl; exact hn rfl
        have hr : readP (putP l ++ t) (min l.length 128) = some (l.take 128, (blockP (l.take 128)).length) := by
          refine (read_iff (by omega)).2 ⟨by rw [List.length_take]; omega, fun x hx => h2 x (List.mem_of_mem_take hx), ?_, rfl⟩
          rw [putP_cons hl, List.append_assoc]
          exact List.prefix_append _ _
        rw [get_some hn hr]
        have hd : (putP l ++ t).drop (blockP (l.take 128)).length = putP (l.drop 128) ++ t := by
          rw [putP_cons hl, List.append_assoc, List.drop_left]
        rw [hd, (ih _ (by omega) _ (l.drop 128) _).2 ⟨by rw [List.length_drop], fun x hx => h2 x (List.mem_of_mem_drop hx), List.prefix_append _ _, rfl⟩]
        simp only [Option.map, List.take_append_drop]
        rw [putP_cons hl, List.length_append]

theorem packed_le {k w : Nat} (hw : w ≤ 64) : packed k w ≤ 8 * k := by
  unfold packed
  have : k * w ≤ k * 64 := Nat.mul_le_mul_left _ hw
  omega
theorem block_most {l : List Int} (h0 : l ≠ []) (h : I64s l) : (blockP l).length ≤ 11 + 8 * l.length := by
  have hm := h _ (minL_mem h0)
  have := form_len10 (turned_lt hm.1 hm.2)
  have := packed_le (k := l.length) (widP_64 (aboveP l))
  rw [block_len]; omega
theorem put_most : ∀ (n : Nat) (l : List Int), l.length = n → I64s l → (putP l).length ≤ 11 * ((n + 127) / 128) + 8 * n := by
  intro n
  induction n using Nat.strongRecOn with
  | ind n ih =>
    intro l hl h
    by_cases h0 : l = []
    · subst h0; rw [putP_nil]; simp
    · have hp : 0 < l.length := List.length_pos_iff.2 h0
      have h1 := ih (n - 128) (by omega) (l.drop 128) (by rw [List.length_drop]; omega) fun x hx => h x (List.mem_of_mem_drop hx)
      have h2 := block_most (l := l.take 128) (by intro e; have := congrArg List.length e; rw [List.length_take, List.length_nil] at this; omega) fun x hx => h x (List.mem_of_mem_take hx)
      rw [List.length_take] at h2
      rw [putP_cons h0, List.length_append]
      by_cases h5 : n ≤ 128
      · have h6 : l.drop 128 = [] := List.drop_of_length_le (by omega)
        rw [h6, putP_nil]; simp; omega
      · omega
/-- more bytes than a row has at most make no difference -/
theorem get_cut {b : List UInt8} {n M : Nat} (h : 11 * ((n + 127) / 128) + 8 * n ≤ M) : getP (b.take M) n = getP b n := by
  cases h2 : getP b n with
  | some p =>
    obtain ⟨l, m⟩ := p
    obtain ⟨h3, h4, h5, h6⟩ := (get_iff n b l m).1 h2
    refine (get_iff n _ l m).2 ⟨h3, h4, ?_, h6⟩
    have := put_most n l h3 h4
    exact List.prefix_take_iff.2 ⟨h5, by omega⟩
  | none =>
    cases h1 : getP (b.take M) n with
    | none => rfl
    | some p =>
      obtain ⟨l, m⟩ := p
      obtain ⟨h3, h4, h5, h6⟩ := (get_iff n _ l m).1 h1
      rw [(get_iff n b l m).2 ⟨h3, h4, h5.trans (List.take_prefix _ _), h6⟩] at h2
      cases h2
/-- what is read is what would be put; cut short it is not read -/
theorem get_short {b : List UInt8} {n m c : Nat} {l : List Int} (h : getP b n = some (l, m)) (hc : c < m) : getP (b.take c) n = none := by
  cases h1 : getP (b.take c) n with
  | none => rfl
  | some p =>
    obtain ⟨l2, m2⟩ := p
    obtain ⟨h3, h4, h5, h6⟩ := (get_iff n _ l2 m2).1 h1
    have h7 := (get_iff n b l2 m2).2 ⟨h3, h4, h5.trans (List.take_prefix _ _), h6⟩
    rw [h] at h7
    cases h7
    have := h5.length_le
    rw [List.length_take] at this
    omega
theorem get_put {l : List Int} (h : I64s l) (t : List UInt8) : getP (putP l ++ t) l.length = some (l, (putP l).length) := (get_iff _ _ _ _).2 ⟨rfl, h, List.prefix_append _ _, rfl⟩
end Go.Proofs.Ytdoliejihinpkaa
