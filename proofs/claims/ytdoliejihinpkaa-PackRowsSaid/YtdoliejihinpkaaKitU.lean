/- Rows of uint64: lent, kept, apart (made by mkKitU.py). -/
import Derived.Test.YtdoliejihinpkaaKitF
import Derived.Test.YtdoliejihinpkaaRefU
namespace Go.Proofs.Ytdoliejihinpkaa
namespace AU
open Go.RowKit Go.Maps

/-- a row handed in, a mark behind it -/
def Lent (w : World) (base g cap : Nat) (bs : List Nat) : Prop := w.ownsRow base 52 1 (.slice (some ⟨g, 0, none⟩) (bs.length + 1) cap) (bs.length + 1) ((bs ++ [7171]).map uV)
theorem Lent.src {w : World} {base g cap : Nat} {bs : List Nat} (h : Lent w base g cap bs) : Src w (.slice (some ⟨g, 0, none⟩) bs.length cap) (bs.map uV) := by
  have h1 := Src.of_row h
  rcases h1 with ⟨ao, c, hv, hx, _⟩ | ⟨b, off, c, hv, h1, h2, h3, h4⟩
  · simp at hx
  · injection hv with e1 e2 e3
    cases e1; subst e3
    refine .inr ⟨g, 0, cap, by rw [List.length_map], ?_, h2, h3, fun j u hu => h4 j u ?_⟩
    · simp at h1 ⊢; omega
    · have hj : j < (bs.map uV).length := (List.getElem?_eq_some_iff.1 hu).1
      rw [List.map_append, List.getElem?_append_left hj]; exact hu
theorem Lent.mark {w : World} {base g cap : Nat} {bs : List Nat} (h : Lent w base g cap bs) : w.cell? ⟨g, bs.length, none⟩ = some (.int .u64 7171) ∧ bs.length + 1 ≤ cap ∧ base ≤ g ∧ g < w.heap.size := by
  have h1 := row_cell h rfl (i := bs.length) (by simp)
  have h2 := row_base' h _ _ _ rfl
  have h3 := row_lt h rfl
  refine ⟨?_, ?_, h2, h3⟩
  · have := h1.1
    simp only [Nat.zero_add, List.map_append, List.map_cons, List.map_nil] at this
    rw [this]
    simp [uV]
  · obtain ⟨_, h5 | ⟨g', cap', cur', hv', _, _, hn', _⟩⟩ := h
    · cases h5.1
    · cases hv'; exact hn'
theorem Lent.keep {w w' : World} {base g cap : Nat} {bs : List Nat} (h : Lent w base g cap bs) (hb : w'.heap[g]? = w.heap[g]?) : Lent w' base g cap bs := row_keep h (fun a n c e => by cases e; exact hb)

def LentPost (w : World) (bs : List Nat) (e : Ending) (w' : World) : Prop := ∃ g cap, e = .returned (.slice (some ⟨g, 0, none⟩) bs.length cap) ∧ Lent w' w.heap.size g cap bs ∧ BW w w'

set_option maxHeartbeats 2000000 in
set_option maxRecDepth 100000 in
theorem lent_any {w : World} {v : Value} {bs : List Nat} (h : Src w v (bs.map uV)) (hn : (bs.length : Int) ≤ 100000000) : Calls Try.prog 10 #[v] w (LentPost w bs) := by
  obtain ⟨ao, cap, rfl⟩ := h.len
  rw [List.length_map] at h ⊢
  have H := Lib.hid h
  have HNN := Lib.hid hn
  have HSB : Hid (∀ W : World, Src (W.alloc (.cells #[.int .u64 7171] 52)) (.slice (some ⟨W.heap.size, 0, none⟩) 1 1) (([7171] : List Nat).map uV)) := fun W => src_newU W _ 1 [7171] rfl (by decide) rfl
  clear h
  go_enter Try.func10, Try.ntmps10
  go_wp2_with (at_builtin; refine append_u64 rfl (.tmp 4) (.tmp 5) rfl w.heap.size (.slice none 0 0) 0 [] rfl ⟨rfl, .inl ⟨rfl, rfl⟩⟩ (.slice ao bs.length cap) rfl bs H.out ?_ ?_ ?_)
  · have := HNN.out; omega
  · exact Nat.le_refl _
  intro v1 w1 ho1 hg1
  have HO1 : Hid (w1.ownsRow w.heap.size 52 1 v1 bs.length (bs.map uV)) := by unfold Hid; simpa using ho1
  have HB1 := Lib.hid (bw_grown (BW.refl w) hg1 (fun k e => by cases e))
  clear ho1 hg1
  go_wp2_with (at_builtin; refine append_u64 rfl (.tmp 7) (.tmp 8) rfl w.heap.size v1 bs.length bs rfl (HO1.out.alloc _) (.slice (some ⟨w1.heap.size, 0, none⟩) 1 1) rfl [7171] (HSB.out w1) ?_ ?_ ?_)
  · have := HNN.out; show bs.length + 1 ≤ _; omega
  · have := HB1.out.size; simp; omega
  intro v2 w2 ho2 hg2
  have ho2' : w2.ownsRow w.heap.size 52 1 v2 (bs.length + 1) ((bs ++ [7171]).map uV) := by simpa using ho2
  have HB2 := Lib.hid (bw_grown (HB1.out.alloc _) hg2 (rowU_own HO1.out))
  obtain ⟨vo, vn, vc, rfl⟩ := row_form ho2'
  obtain rfl : vn = bs.length + 1 := row_len ho2' rfl
  obtain ⟨g, rfl⟩ : ∃ g, vo = some ⟨g, 0, none⟩ := by
    obtain ⟨_, h5 | ⟨g', cap', cur', hv', _⟩⟩ := ho2'
    · cases h5.1
    · cases hv'; exact ⟨_, rfl⟩
  have HL : Hid (Lent w2 w.heap.size g vc bs) := ho2'
  have hm := HL.out.mark
  have hnc : bs.length ≤ vc := by omega
  clear ho2 ho2' hg2 hm
  go_wp2
  go_ret
  exact ⟨g, vc, rfl, HL.out, HB2.out⟩

set_option maxHeartbeats 2000000 in
set_option maxRecDepth 100000 in
theorem kept_any {w : World} {base g cap : Nat} {v : Value} {bs : List Nat} (hl : Lent w base g cap bs) (h : Src w v (bs.map uV)) (hn : (bs.length : Int) ≤ 100000000) :
    Calls Try.prog 20 #[.slice (some ⟨g, 0, none⟩) bs.length cap, v] w (DrewTrue w) := by
  have HC := Lib.hid (uints_true hl.src h)
  obtain ⟨h1, h2, _, _⟩ := hl.mark
  obtain ⟨n, hln⟩ : ∃ n, bs.length = n := ⟨_, rfl⟩
  rw [hln] at h1 h2 hn HC ⊢
  clear hl h hln
  have hi1 : (0 : Int) ≤ (n : Int) := by omega
  have hi2 : (n : Int) < (n : Int) + 1 := by omega
  go_enter Try.func20, Try.ntmps20
  go_wp2_with fail
  refine HC.out.mono ?_
  rintro e w1 ⟨rfl, nn, rfl⟩
  go_wp2
  go_ret
  exact ⟨rfl, nn, rfl⟩


def mk1 (i k : Nat) : Nat := 1000 * i + k
def mk2 (i k : Nat) : Nat := 500000 + 1000 * i + k
def full1 (i n : Nat) : List Nat := (List.range n).map (mk1 i)
def full2 (i n : Nat) : List Nat := (List.range n).map (mk2 i)
theorem mk1_v (i k : Nat) : uV (mk1 i k) = .int .u64 (1000 * (i : Int) + (k : Int)) := by
  unfold mk1 uV; congr 1
theorem mk2_v (i k : Nat) : uV (mk2 i k) = .int .u64 (500000 + 1000 * (i : Int) + (k : Int)) := by
  unfold mk2 uV; congr 1
theorem full2_succ (i n : Nat) : full2 i (n + 1) = full2 i n ++ [mk2 i n] := by
  unfold full2; rw [List.range_succ, List.map_append]; rfl
theorem full1_len (i n : Nat) : (full1 i n).length = n := by unfold full1; simp
theorem full2_len (i n : Nat) : (full2 i n).length = n := by unfold full2; simp

/-- rows that are written full: those before i, and i's up to k -/
structure Ap1 (w : World) (B N : Nat) (V : Nat → Value) (n : Nat → Nat) (role : Nat → Option Nat) (i k : Nat) : Prop where
  row : ∀ j, j < N → ∃ C : List Nat, w.ownsRow B 52 1 (V j) (n j) (C.map uV) ∧ (j < i → C = full1 j (n j)) ∧ (j = i → C.take k = full1 i k)
  rol : ∀ j, j < N → Rol role j (V j)
  roles : Roles w role
  rb : ∀ b, role b ≠ none → B ≤ b

theorem Ap1.next {w : World} {B N : Nat} {V : Nat → Value} {n : Nat → Nat} {role : Nat → Option Nat} {i : Nat} (h : Ap1 w B N V n role i (n i)) : Ap1 w B N V n role (i + 1) 0 := by
  refine ⟨fun j hj => ?_, h.rol, h.roles, h.rb⟩
  obtain ⟨C, h1, h2, h3⟩ := h.row j hj
  refine ⟨C, h1, fun hji => ?_, fun _ => by simp [full1]⟩
  rcases Nat.lt_or_ge j i with h4 | h4
  · exact h2 h4
  · have e : j = i := by omega
    subst e
    have := h3 rfl
    rw [List.take_of_length_le (by have := h1.1; simp at this; omega)] at this
    exact this
/-- the cell at (i, k), and what is there when it is written -/
theorem Ap1.at {w : World} {B N : Nat} {V : Nat → Value} {n : Nat → Nat} {role : Nat → Option Nat} {i k : Nat} (h : Ap1 w B N V n role i k) (hi : i < N) (hk : k < n i) :
    ∃ g c, V i = .slice (some ⟨g, 0, none⟩) (n i) c ∧ w.frozen? ⟨g, k, none⟩ = false ∧ (∃ x, w.cell? ⟨g, k, none⟩ = some x) ∧ Ap1 (w.setCell ⟨g, k, none⟩ (uV (mk1 i k))) B N V n role i (k + 1) ∧ Turn i role role w (w.setCell ⟨g, k, none⟩ (uV (mk1 i k))) := by
  obtain ⟨C, h1, h2, h3⟩ := h.row i hi
  obtain ⟨vo, vn, vc, hV⟩ := row_form h1
  obtain rfl : vn = n i := row_len h1 hV
  have h1' := h1
  rw [hV] at h1'
  obtain ⟨g, e1, _, _, ⟨x, _, hx⟩, hf, h9⟩ := own_set h1' hk (y := uV (mk1 i k)) rfl
  subst e1
  have hg := h.rol i hi _ _ _ hV
  have ht : Turn i role role w (w.setCell ⟨g, k, none⟩ (uV (mk1 i k))) := Turn.setCell hg _
  refine ⟨g, vc, hV, hf, ⟨_, hx⟩, ⟨fun j hj => ?_, h.rol, ⟨fun b hb => by have := h.roles.lt b hb; simpa [World.setCell] using this⟩, h.rb⟩, ht⟩
  by_cases e : j = i
  · subst e
    refine ⟨C.set k (mk1 j k), by rw [hV, List.map_set]; exact h9, fun h => absurd h (Nat.lt_irrefl _), fun _ => ?_⟩
    have hl : C.length = n j := by have := h1.1; simpa using this
    rw [List.take_succ_eq_append_getElem (by rw [List.length_set]; omega), List.take_set_of_le (Nat.le_refl _), h3 rfl, List.getElem_set_self]
    unfold full1
    rw [List.range_succ, List.map_append]; rfl
  · obtain ⟨C', g1, g2, _⟩ := h.row j hj
    exact ⟨C', ht.row g1 (h.rol j hj) e, g2, fun h => absurd h e⟩

/-- rows that are gone on with: those before i are done, i's has k more -/
structure Ap2 (w : World) (B N : Nat) (V : Nat → Value) (n : Nat → Nat) (role : Nat → Option Nat) (M : Nat → Value) (mv : Value) (i : Nat) : Prop where
  src : ∀ j, j < N → Src w (V j) ((full1 j (n j)).map uV)
  own : ∀ j, i ≤ j → j < N → w.ownsRow B 52 1 (V j) (n j) ((full1 j (n j)).map uV)
  done : ∀ j, j < i → w.ownsRow B 52 1 (M j) (n j + 30) ((full1 j (n j) ++ full2 j 30).map uV)
  rol : ∀ j, j < N → Rol role j (V j)
  mrol : ∀ j, j < i → Rol role j (M j)
  more : w.ownsRow B 22 1 mv i ((List.range i).map M)
  morol : Rol role N mv
  roles : Roles w role
  rb : ∀ b, role b ≠ none → B ≤ b


theorem Ap1.done {w : World} {B N : Nat} {V : Nat → Value} {n : Nat → Nat} {role : Nat → Option Nat} (h : Ap1 w B N V n role N 0) (hN : ∀ b, role b ≠ some N) : Ap2 w B N V n role (fun _ => .slice none 0 0) (.slice none 0 0) 0 := by
  have h1 : ∀ j, j < N → w.ownsRow B 52 1 (V j) (n j) ((full1 j (n j)).map uV) := fun j hj => by
    obtain ⟨C, g1, g2, _⟩ := h.row j hj
    rw [← g2 hj]; exact g1
  exact ⟨fun j hj => Src.of_row (h1 j hj), fun j _ hj => h1 j hj, fun j hj => by omega, h.rol, fun j hj => by omega, ⟨rfl, .inl ⟨rfl, rfl⟩⟩, (fun a m c e => by cases e), h.roles, h.rb⟩

structure Ap3 (w : World) (B N : Nat) (V : Nat → Value) (n : Nat → Nat) (role : Nat → Option Nat) (M : Nat → Value) (mv : Value) (i : Nat) (L : Value) (k : Nat) : Prop where
  src : ∀ j, j < N → Src w (V j) ((full1 j (n j)).map uV)
  own : ∀ j, i < j → j < N → w.ownsRow B 52 1 (V j) (n j) ((full1 j (n j)).map uV)
  done : ∀ j, j < i → w.ownsRow B 52 1 (M j) (n j + 30) ((full1 j (n j) ++ full2 j 30).map uV)
  rol : ∀ j, j < N → Rol role j (V j)
  mrol : ∀ j, j < i → Rol role j (M j)
  more : w.ownsRow B 22 1 mv i ((List.range i).map M)
  morol : Rol role N mv
  roles : Roles w role
  rb : ∀ b, role b ≠ none → B ≤ b
  row : w.ownsRow B 52 1 L (n i + k) ((full1 i (n i) ++ full2 i k).map uV)
  lrol : Rol role i L

theorem Ap2.enter {w : World} {B N : Nat} {V : Nat → Value} {n : Nat → Nat} {role : Nat → Option Nat} {M : Nat → Value} {mv : Value} {i : Nat} (h : Ap2 w B N V n role M mv i) (hi : i < N) : Ap3 w B N V n role M mv i (V i) 0 :=
  ⟨h.src, fun j hj hN => h.own j (by omega) hN, h.done, h.rol, h.mrol, h.more, h.morol, h.roles, h.rb, by have := h.own i (Nat.le_refl _) hi; simpa [full2] using this, h.rol i hi⟩

theorem Ap3.step {w w' : World} {B N : Nat} {V : Nat → Value} {n : Nat → Nat} {role : Nat → Option Nat} {M : Nat → Value} {mv : Value} {i : Nat} {L L' : Value} {k : Nat} (h : Ap3 w B N V n role M mv i L k) (hi : i < N) (hB : B ≤ w.heap.size) (hf : VForm (V i) (n i)) {o : Obj} (ha : App L L' (w.alloc o) w')
    (hr : w'.ownsRow B 52 1 L' (n i + k + 1) ((full1 i (n i) ++ full2 i k ++ [mk2 i k]).map uV)) : ∃ role', Ap3 w' B N V n role' M mv i L' (k + 1) ∧ Turn i role role' w w' := by
  obtain ⟨role', t, hr', hl', hnew⟩ := ha.turn h.lrol (h.roles.alloc o) (fun a n c e => row_lt hr e)
  have t' : Turn i role role' w w' := ((Turn.refl i role w).alloc o).trans t
  refine ⟨role', ⟨fun j hj => ?_, fun j hj hN => t'.row (h.own j hj hN) (h.rol j hN) (by omega), fun j hj => t'.row (h.done j hj) (h.mrol j hj) (by omega), fun j hj => t'.rol h.roles (h.rol j hj), fun j hj => t'.rol h.roles (h.mrol j hj), t'.row h.more h.morol (by omega), t'.rol h.roles h.morol, hr', fun b hb => ?_, ?_, hl'⟩, t'⟩
  · by_cases e : j = i
    · subst e
      have hs := h.src j hj
      rcases hf with ⟨hv, hz⟩ | ⟨g, c, hv⟩
      · rw [hv]; rw [hz]; exact Src.nil _
      · rcases ha with ⟨g', n1, c1, n2, c2, rfl, rfl, hgr⟩ | ⟨hgr, _⟩
        · by_cases e2 : g = g'
          · subst e2
            rw [hv] at hs ⊢
            rcases hs with ⟨ao, cp, e3, e4, e5, e6⟩ | ⟨b, off, cp, e3, e4, e5, _, _⟩
            · exact .inl ⟨ao, cp, e3, e4, e5, e6⟩
            · injection e3 with e7 _ e8
              cases e7; subst e8
              refine .inr ⟨g, 0, c, by rw [List.length_map, full1_len], e4, e5, row_lt hr rfl, fun m u hu => ?_⟩
              obtain ⟨hm, he⟩ := List.getElem?_eq_some_iff.1 hu
              have hm' : m < ((full1 j (n j) ++ full2 j k ++ [mk2 j k]).map uV).length := by
                rw [List.length_map] at hm ⊢; rw [List.length_append, List.length_append]; omega
              have hc := (row_cell hr rfl hm').1
              simp only [Nat.zero_add] at hc ⊢
              rw [hc, ← he]
              congr 1
              simp only [List.map_append, List.append_assoc]
              rw [List.getElem_append_left hm]
          · refine hs.keep (Nat.le_trans (by simp) hgr.size) fun hne a n3 c3 e3 => ?_
            rw [hv] at e3; cases e3
            have hlt : g < w.heap.size := h.roles.lt g (by rw [h.rol j hj _ _ _ hv]; simp)
            exact (hgr.block g (by simp; omega) (by intro e4; injection e4 with e4; exact e2 e4)).trans (Below.heap_alloc _ _ _ hlt)
        · refine hs.keep (Nat.le_trans (by simp) hgr.size) fun hne a n3 c3 e3 => ?_
          rw [hv] at e3; cases e3
          have hlt : g < w.heap.size := h.roles.lt g (by rw [h.rol j hj _ _ _ hv]; simp)
          exact (hgr.block g (by simp; omega) (by simp)).trans (Below.heap_alloc _ _ _ hlt)
    · exact t'.src (h.src j hj) (h.rol j hj) h.roles e
  · rcases hnew b hb with h1 | h1
    · exact h.rb b h1
    · simp at h1; omega
  · rw [full2_succ, ← List.append_assoc, ← Nat.add_assoc]; exact hr

theorem Ap3.leave {w w' : World} {B N : Nat} {V : Nat → Value} {n : Nat → Nat} {role : Nat → Option Nat} {M : Nat → Value} {mv mv' : Value} {i : Nat} {L : Value} (h : Ap3 w B N V n role M mv i L 30) (hi : i < N) (hB : B ≤ w.heap.size) {o : Obj} (ha : App mv mv' (w.alloc o) w')
    (hr : w'.ownsRow B 22 1 mv' (i + 1) ((List.range i).map M ++ [L])) : ∃ role' M', Ap2 w' B N V n role' M' mv' (i + 1) ∧ Turn N role role' w w' := by
  obtain ⟨role', t, hr', hl', hnew⟩ := ha.turn h.morol (h.roles.alloc o) (fun a n c e => row_lt hr e)
  have t' : Turn N role role' w w' := ((Turn.refl N role w).alloc o).trans t
  refine ⟨role', fun j => if j = i then L else M j, ⟨fun j hj => t'.src (h.src j hj) (h.rol j hj) h.roles (by omega), fun j hj hN => t'.row (h.own j hj hN) (h.rol j hN) (by omega), fun j hj => ?_, fun j hj => t'.rol h.roles (h.rol j hj), fun j hj => ?_, ?_, hl', hr', fun b hb => ?_⟩, t'⟩
  · by_cases e : j = i
    · subst e; simp only [if_true]; exact t'.row h.row h.lrol (by omega)
    · simp only [if_neg e]; exact t'.row (h.done j (by omega)) (h.mrol j (by omega)) (by omega)
  · by_cases e : j = i
    · subst e; simp only [if_true]; exact t'.rol h.roles h.lrol
    · simp only [if_neg e]; exact t'.rol h.roles (h.mrol j (by omega))
  · have e : (List.range (i + 1)).map (fun j => if j = i then L else M j) = (List.range i).map M ++ [L] := by
      rw [List.range_succ, List.map_append]
      congr 1
      · refine List.map_congr_left fun j hj => ?_
        rw [if_neg (by have := List.mem_range.1 hj; omega)]
      · simp
    rw [e]; exact hr
  · rcases hnew b hb with h1 | h1
    · exact h.rb b h1
    · simp at h1; omega


theorem info_bs : (Try.prog.info? 22).map (fun i => (i.zero, i.size, i.bytes)) = some (some (.slice none 0 0), 1, 24) := by kernel_rfl

theorem append_byte_two {w : World} {ops : Array Oper} {rest : List Oper} {o : Oper} {a : Act} {Q : Exit → Act → World → Prop} (hgd : o.guard = none) (s x : Operand)
    (ho : o.op = .call { callee := .builtin .append, args := #[s, x], argTypes := #[22, 22] }) (base : Nat) (v : Value) (n : Nat) (xs : List Nat) (hs : a.eval s = v) (hown : w.ownsRow base 52 1 v n (xs.map uV))
    (p : Nat) (hx : a.eval x = .slice (some ⟨p, 0, none⟩) 1 1) (c : Nat) (hc : w.cell? ⟨p, 0, none⟩ = some (uV c)) (hb : n + 1 ≤ 1000000000) (hbase : base ≤ w.heap.size)
    (h : ∀ v' w', w'.ownsRow base 52 1 v' (n + 1) ((xs ++ [c]).map uV) → App v v' w w' → wpList Try.prog ops Q rest (a.put o.dst v') w') : wpList Try.prog ops Q (o :: rest) a w := by
  obtain ⟨i0, hi, hz0, hz1, hz2⟩ := infoOf info_u64
  refine wpList_append_two hgd s x 22 ho base 52 i0 (.int .u64 0) 8 Try.underlying22 hi hz0 hz1 hz2 rfl v n _ hs hown ⟨p, 0, none⟩ 1 1 [uV c] hx rfl ?_ ?_ (by unfold maxLen; omega) (by omega) hbase (by decide) ?_
  · intro j u hu
    have : j = 0 := by have := (List.getElem?_eq_some_iff.1 hu).1; simp at this; omega
    subst this
    simp at hu
    subst hu
    rw [addOff]; exact hc
  · intro u hu; simp at hu; subst hu; rfl
  · intro v' w' g1 g2
    exact h v' w' (by simpa using g1) g2
theorem append_slice_two {w : World} {ops : Array Oper} {rest : List Oper} {o : Oper} {a : Act} {Q : Exit → Act → World → Prop} (hgd : o.guard = none) (s x : Operand)
    (ho : o.op = .call { callee := .builtin .append, args := #[s, x], argTypes := #[39, 39] }) (base : Nat) (v : Value) (n : Nat) (xs : List Value) (hs : a.eval s = v) (hown : w.ownsRow base 22 1 v n xs)
    (p : Nat) (hx : a.eval x = .slice (some ⟨p, 0, none⟩) 1 1) (ao : Option Addr) (an ac : Nat) (hc : w.cell? ⟨p, 0, none⟩ = some (.slice ao an ac)) (hb : n + 1 ≤ 1000000001) (hbase : base ≤ w.heap.size)
    (h : ∀ v' w', w'.ownsRow base 22 1 v' (n + 1) (xs ++ [.slice ao an ac]) → App v v' w w' → wpList Try.prog ops Q rest (a.put o.dst v') w') : wpList Try.prog ops Q (o :: rest) a w := by
  obtain ⟨i0, hi, hz0, hz1, hz2⟩ := infoOf info_bs
  refine wpList_append_two hgd s x 39 ho base 22 i0 (.slice none 0 0) 24 Try.underlying39 hi hz0 hz1 hz2 rfl v n _ hs hown ⟨p, 0, none⟩ 1 1 [.slice ao an ac] hx rfl ?_ ?_ (by unfold maxLen; omega) (by omega) hbase (by decide) h
  · intro j u hu
    have : j = 0 := by have := (List.getElem?_eq_some_iff.1 hu).1; simp at this; omega
    subst this
    simp at hu
    subst hu
    rw [addOff]; exact hc
  · intro u hu; simp at hu; subst hu; rfl

set_option maxHeartbeats 20000000 in
set_option maxRecDepth 100000 in
theorem apart_some {w : World} {B N b off c : Nat} {V : Nat → Value} {n : Nat → Nat} {role : Nat → Option Nat} (hav : Src w (.slice (some ⟨b, off, none⟩) N c) ((List.range N).map V)) (hA : role b = none) (hbl : b < w.heap.size)
    (h1 : Ap1 w B N V n role 0 0) (hrn : ∀ x, role x ≠ some N) (hB : B ≤ w.heap.size) (hn : ∀ j, j < N → (n j : Int) + 30 ≤ 1000000000) (hN : (N : Int) ≤ 1000000000) :
    Calls Try.prog 23 #[.slice (some ⟨b, off, none⟩) N c] w (ApPost B w) := by
  have HAV := Lib.hid hav; have HA := Lib.hid hA; have H1 := Lib.hid h1; have HRN := Lib.hid hrn; have HNN := Lib.hid hn; have HBL := Lib.hid hbl; have HB := Lib.hid hB
  clear hav hA h1 hrn hn hbl hB
  go_enter Try.func23, Try.ntmps23
  go_wp2
  go_loopw [3, 4] (fun i _ wr => ∃ x : Nat, x ≤ N ∧ i = .int .i64 (x : Int) ∧ Ap1 wr B N V n role x 0 ∧ RowKit.Below B w wr ∧ wr.heap[b]? = w.heap[b]?) (fun i _ _ => N - (intOf i).toNat)
  case atStart => exact ⟨0, Nat.zero_le _, rfl, H1.out, RowKit.Below.refl _ _, rfl⟩
  case round =>
    obtain ⟨x, hx, rfl, hap, hbel, hbb⟩ := hrel
    have HAP := Lib.hid hap; have HBEL := Lib.hid hbel; have HBB := Lib.hid hbb
    clear hap hbel hbb
    by_cases hlt : x < N
    · obtain ⟨wo, rfl⟩ : ∃ wo : World, wo = wr := ⟨_, rfl⟩
      have hnx := HNN.out x hlt
      have hVf : ∃ vo vc, V x = .slice vo (n x) vc := by
        obtain ⟨C, g1, _⟩ := HAP.out.row x hlt
        obtain ⟨vo, vn, vc, hV⟩ := row_form g1
        rw [row_len g1 hV] at hV
        exact ⟨vo, vc, hV⟩
      obtain ⟨vo, vc, hV⟩ := hVf
      have HV := Lib.hid hV
      have HCA : Hid (∀ W : World, W.heap[b]? = w.heap[b]? → W.cell? ⟨b, off + x, none⟩ = some (.slice vo (n x) vc)) := fun W hW => by
        rw [← HV.out]
        exact (World.cell?_of_block (w := w) (a := ⟨b, off + x, none⟩) hW).trans (av_at HAV.out hlt)
      have hx0 : (0 : Int) ≤ (x : Int) := by omega
      have hx1 : (x : Int) < (N : Int) := by omega
      obtain ⟨nx, hnxe⟩ : ∃ nx, n x = nx := ⟨_, rfl⟩
      have HNX := Lib.hid hnxe
      rw [hnxe] at hnx HCA
      clear hV hnxe
      go_wp2
      go_loopw [4] (fun k wi => ∃ y : Nat, y ≤ nx ∧ k = .int .i64 (y : Int) ∧ Ap1 wi B N V n role x y ∧ RowKit.Below B w wi ∧ wi.heap[b]? = w.heap[b]?) (fun k _ => nx - (intOf k).toNat)
      case atStart => exact ⟨0, Nat.zero_le _, rfl, HAP.out, HBEL.out, HBB.out⟩
      case round =>
        clear HAP HBEL HBB
        obtain ⟨y, hy, rfl, hap, hbel, hbb⟩ := hrel
        have HAP := Lib.hid hap; have HBEL := Lib.hid hbel; have HBB := Lib.hid hbb
        have ca := HCA.out _ hbb
        clear hap hbel hbb
        by_cases hylt : y < nx
        · obtain ⟨g, gc, e1, hf, ⟨u, hu⟩, hap', ht⟩ := HAP.out.at hlt (by rw [HNX.out]; exact hylt)
          rw [HV.out] at e1
          injection e1 with e1 _ e3
          subst e1; subst e3
          rw [mk1_v] at hap' ht
          have HAP' := Lib.hid hap'; have HT := Lib.hid ht
          have hy0 : (0 : Int) ≤ (y : Int) := by omega
          have hy1 : (y : Int) < (nx : Int) := by omega
          clear hap' ht
          go_wp2
          go_roundw
          case rel =>
            refine ⟨y + 1, by omega, by go_num, HAP'.out, HBEL.out.trans (HT.out.below (Nat.le_trans HB.out HBEL.out.size) (fun z hz => ?_)), (HT.out.block b (Nat.lt_of_lt_of_le HBL.out HBEL.out.size) (by rw [HA.out]; simp)).trans HBB.out⟩
            by_cases e : role z = none
            · exact e
            · have := HAP.out.rb z e; omega
          case measure => simp [intOf]; omega
        · obtain rfl : y = nx := by omega
          go_wp2
          go_roundw
          case rel => exact ⟨x + 1, by omega, by go_num, by have := HAP.out; rw [← HNX.out] at this; exact this.next, HBEL.out, HBB.out⟩
          case measure => simp [intOf]; omega
    · obtain rfl : N = x := by omega
      have H2 := Lib.hid (HAP.out.done HRN.out)
      have HVF : Hid (∀ j, j < N → VForm (V j) (n j)) := fun j hj => by obtain ⟨C, g1, _⟩ := HAP.out.row j hj; exact vform_row g1
      clear HAP hlt
      go_wp2
      go_loopw [5, 6] (fun mv i wr => ∃ x : Nat, x ≤ N ∧ i = .int .i64 (x : Int) ∧ ∃ rl M, Ap2 wr B N V n rl M mv x ∧ RowKit.Below B w wr ∧ wr.heap[b]? = w.heap[b]? ∧ rl b = none) (fun _ i _ => N - (intOf i).toNat)
      case atStart => exact ⟨0, Nat.zero_le _, rfl, role, _, H2.out, HBEL.out, HBB.out, HA.out⟩
      case round =>
        clear H2 HBEL HBB
        obtain ⟨x, hx, rfl, rl, M, hap, hbel, hbb, hrb⟩ := hrel
        have HAP := Lib.hid hap; have HBEL := Lib.hid hbel; have HBB := Lib.hid hbb; have HRB := Lib.hid hrb
        clear hap hbel hbb hrb
        by_cases hlt : x < N
        · obtain ⟨wo, rfl⟩ : ∃ wo : World, wo = wr := ⟨_, rfl⟩
          have hnx := HNN.out x hlt
          have hVf : ∃ vo vc, V x = .slice vo (n x) vc := by
            rcases HVF.out x hlt with ⟨h1, h2⟩ | ⟨g, c', h1⟩
            · exact ⟨_, _, by rw [h1, h2]⟩
            · exact ⟨_, _, h1⟩
          obtain ⟨vo, vc, hV⟩ := hVf
          have HV := Lib.hid hV
          have ca : wo.cell? ⟨b, off + x, none⟩ = some (.slice vo (n x) vc) := by
            rw [← HV.out]
            exact (World.cell?_of_block (w := w) (a := ⟨b, off + x, none⟩) HBB.out).trans (av_at HAV.out hlt)
          have hx0 : (0 : Int) ≤ (x : Int) := by omega
          have hx1 : (x : Int) < (N : Int) := by omega
          obtain ⟨nx, hnxe⟩ : ∃ nx, n x = nx := ⟨_, rfl⟩
          have HNX := Lib.hid hnxe
          rw [hnxe] at hnx ca
          have HX70 := Lib.hid hnx
          clear hnx
          have HAP3 : Hid (Ap3 wo B N V n rl M u5 x (.slice vo nx vc) 0) := by have := HAP.out.enter hlt; rw [HV.out, hnxe] at this; exact this
          clear hV hnxe HAP
          go_wp2
          go_loopw [7, 8] (fun L k wi => ∃ y : Nat, y ≤ 30 ∧ k = .int .i64 (y : Int) ∧ ∃ rl', Ap3 wi B N V n rl' M u5 x L y ∧ RowKit.Below B w wi ∧ wi.heap[b]? = w.heap[b]? ∧ rl' b = none) (fun _ k _ => 30 - (intOf k).toNat)
          case atStart => exact ⟨0, Nat.zero_le _, rfl, rl, HAP3.out, HBEL.out, HBB.out, HRB.out⟩
          case round =>
            clear HAP3 HBEL HBB HRB ca
            obtain ⟨y, hy, rfl, rl', hap, hbel, hbb, hrb⟩ := hrel
            have HAP := Lib.hid hap; have HBEL := Lib.hid hbel; have HBB := Lib.hid hbb; have HRB := Lib.hid hrb
            clear hap hbel hbb hrb
            have hsz := Nat.le_trans HB.out HBEL.out.size
            have hblk := Nat.lt_of_lt_of_le HBL.out HBEL.out.size
            by_cases hylt : y < 30
            · have hy1 : (y : Int) < 30 := by omega
              have hy2 : (0 : Int) ≤ (y : Int) := by omega
              have HYL := Lib.hid hylt
              clear hylt hy hsz hblk
              go_wp2_with (at_builtin; refine append_byte_two rfl (.tmp 53) (.tmp 60) rfl B u7 (n x + y) (full1 x (n x) ++ full2 x y) rfl (HAP.out.row.alloc _) wr.heap.size rfl (mk2 x y) ?_ ?_ ?_ ?_)
              · rw [mk2_v]; exact cell_of (heap_new _ _) rfl
              · have := HX70.out; rw [HNX.out]; omega
              · have := Nat.le_trans HB.out HBEL.out.size; simp; omega
              · intro v' w' hr ha
                have hsz := Nat.le_trans HB.out HBEL.out.size
                have hblk := Nat.lt_of_lt_of_le HBL.out HBEL.out.size
                have hylt := HYL.out
                obtain ⟨rl2, hap2, ht⟩ := HAP.out.step hlt hsz (HVF.out x hlt) ha (by simpa using hr)
                have HAP2 := Lib.hid hap2
                have HT := Lib.hid ht
                clear hap2 ht hr ha
                go_wp2
                go_roundw
                case rel =>
                  refine ⟨y + 1, by omega, by go_num, rl2, HAP2.out, HBEL.out.trans (HT.out.below hsz (fun z hz => ?_)), (HT.out.block b hblk (by rw [HRB.out]; simp)).trans HBB.out, (HT.out.keep b hblk).trans HRB.out⟩
                  by_cases e : rl' z = none
                  · exact e
                  · have := HAP.out.rb z e; omega
                case measure => simp [intOf]; omega
            · obtain rfl : 30 = y := by omega
              obtain ⟨lo, ln, lc, hL⟩ := row_form HAP.out.row
              subst hL
              go_wp2_with (at_builtin; refine append_slice_two rfl (.tmp 62) (.tmp 64) rfl B u5 x ((List.range x).map M) rfl (HAP.out.more.alloc _) wr.heap.size rfl lo ln lc ?_ ?_ ?_ ?_)
              · exact cell_of (heap_new _ _) rfl
              · omega
              · simp; omega
              · intro v' w' hr ha
                obtain ⟨rl2, M2, hap2, ht⟩ := HAP.out.leave hlt hsz ha hr
                have HAP2 := Lib.hid hap2
                have HT := Lib.hid ht
                clear hap2 ht hr ha
                go_wp2
                go_roundw
                case rel =>
                  refine ⟨x + 1, by omega, by go_num, rl2, M2, HAP2.out, HBEL.out.trans (HT.out.below hsz (fun z hz => ?_)), (HT.out.block b hblk (by rw [HRB.out]; simp)).trans HBB.out, (HT.out.keep b hblk).trans HRB.out⟩
                  by_cases e : rl' z = none
                  · exact e
                  · have := HAP.out.rb z e; omega
                case measure => simp [intOf]; omega
        · obtain rfl : N = x := by omega
          clear hlt
          obtain ⟨mo, mn, mc, hM⟩ := row_form HAP.out.more
          obtain rfl : N = mn := (row_len HAP.out.more hM).symm
          subst hM
          have HXX : Hid (∀ x, x < N → ∃ g, mo = some ⟨g, 0, none⟩ ∧ wr.cell? ⟨g, x, none⟩ = some (M x)) := fun x hlt => by
            obtain ⟨g, rfl⟩ : ∃ g, mo = some ⟨g, 0, none⟩ := by
              obtain ⟨_, h5 | ⟨g', cap', cur', hv', _⟩⟩ := HAP.out.more
              · omega
              · cases hv'; exact ⟨_, rfl⟩
            have := (row_cell HAP.out.more rfl (i := x) (by simp; exact hlt)).1
            simp only [Nat.zero_add, List.getElem_map, List.getElem_range] at this
            exact ⟨g, rfl, this⟩
          go_wp2
          go_loop [9] (fun i => ∃ x : Nat, x ≤ N ∧ i = .int .i64 (x : Int)) (fun i => N - (intOf i).toNat)
          case atStart => exact ⟨0, Nat.zero_le _, rfl⟩
          case round =>
            obtain ⟨x, hx, rfl⟩ := hrel
            by_cases hlt : x < N
            · have hVf : ∃ vo vc, V x = .slice vo (n x) vc := by
                rcases HVF.out x hlt with ⟨h1, h2⟩ | ⟨g, c', h1⟩
                · exact ⟨_, _, by rw [h1, h2]⟩
                · exact ⟨_, _, h1⟩
              obtain ⟨vo, vc, hV⟩ := hVf
              have HV := Lib.hid hV
              have ca : wr.cell? ⟨b, off + x, none⟩ = some (.slice vo (n x) vc) := by
                rw [← HV.out]
                exact (World.cell?_of_block (w := w) (a := ⟨b, off + x, none⟩) HBB.out).trans (av_at HAV.out hlt)
              obtain ⟨g, hmo, cm⟩ := HXX.out x hlt
              subst hmo
              have hrow := HAP.out.done x hlt
              obtain ⟨lg, lc, hM⟩ : ∃ lg lc, M x = .slice (some ⟨lg, 0, none⟩) (n x + 30) lc := by
                rcases vform_row hrow with ⟨_, h2⟩ | ⟨g', c', h2⟩
                · omega
                · exact ⟨g', c', h2⟩
              rw [hM] at cm hrow
              have hsrc := HAP.out.src x hlt
              rw [hV] at hsrc
              have HROW := Lib.hid hrow; have HSRC := Lib.hid hsrc
              have hx0 : (0 : Int) ≤ (x : Int) := by omega
              have hx1 : (x : Int) < (N : Int) := by omega
              obtain ⟨nx, hnxe⟩ : ∃ nx, n x = nx := ⟨_, rfl⟩
              have HNX := Lib.hid hnxe
              rw [hnxe] at ca cm HROW HSRC
              have HNB : Hid ((nx : Int) + 30 ≤ 1000000000) := by have := HNN.out x hlt; rw [hnxe] at this; exact this
              have hnb : (nx : Int) ≤ 1000000000 := by have := HNB.out; omega
              have HC1 : Hid (∀ y, y < nx → ∃ vg vof, vo = some ⟨vg, vof, none⟩ ∧ wr.cell? ⟨vg, vof + y, none⟩ = some (.int .u64 (1000 * (x : Int) + (y : Int))) ∧ wr.cell? ⟨lg, y, none⟩ = some (.int .u64 (1000 * (x : Int) + (y : Int)))) := fun y hy => by
                have hl : (full1 x nx).length = nx := full1_len _ _
                have hg : (full1 x nx)[y]? = some (mk1 x y) := by unfold full1; rw [List.getElem?_map, List.getElem?_range hy]; rfl
                have h2 := (row_cell HROW.out rfl (i := y) (by rw [List.length_map, List.length_append, hl]; omega)).1
                simp only [Nat.zero_add] at h2
                have h3 : ((full1 x nx ++ full2 x 30).map uV)[y]? = some (uV (mk1 x y)) := by rw [List.getElem?_map, List.getElem?_append_left (by omega), hg]; rfl
                rcases HSRC.out with ⟨_, _, _, h5, _⟩ | ⟨vg, vof, cp, h5, _, _, _, h6⟩
                · have := congrArg List.length h5; simp [hl] at this; omega
                · injection h5 with h5 _ _
                  refine ⟨vg, vof, h5, ?_, ?_⟩
                  · rw [← mk1_v]; exact h6 y _ (by rw [List.getElem?_map, hg]; rfl)
                  · rw [h2, ← mk1_v]
                    rw [List.getElem?_eq_getElem (by rw [List.length_map, List.length_append, hl]; omega)] at h3
                    exact h3
              have HC2 : Hid (∀ z, z < 30 → wr.cell? ⟨lg, nx + z, none⟩ = some (.int .u64 (500000 + 1000 * (x : Int) + (z : Int)))) := fun z hz => by
                have hl : (full1 x nx).length = nx := full1_len _ _
                have hl2 : (full2 x 30).length = 30 := full2_len _ _
                have hg : (full2 x 30)[z]? = some (mk2 x z) := by unfold full2; rw [List.getElem?_map, List.getElem?_range hz]; rfl
                have hlen : nx + z < ((full1 x nx ++ full2 x 30).map uV).length := by rw [List.length_map, List.length_append, hl, hl2]; omega
                have h2 := (row_cell HROW.out rfl (i := nx + z) hlen).1
                simp only [Nat.zero_add] at h2
                have h3 : ((full1 x nx ++ full2 x 30).map uV)[nx + z]? = some (uV (mk2 x z)) := by
                  rw [List.getElem?_map, List.getElem?_append_right (by omega), hl, Nat.add_sub_cancel_left, hg]; rfl
                rw [h2, ← mk2_v]
                rw [List.getElem?_eq_getElem hlen] at h3
                exact h3
              clear hV hM hrow hsrc hnxe
              go_wp2
              go_loop [11] (fun k => ∃ y : Nat, y ≤ nx ∧ k = .int .i64 (y : Int)) (fun k => nx - (intOf k).toNat)
              case atStart => exact ⟨0, Nat.zero_le _, rfl⟩
              case round =>
                obtain ⟨y, hy, rfl⟩ := hrel
                by_cases hylt : y < nx
                · obtain ⟨vg, vof, hvo, d1, d2⟩ := HC1.out y hylt
                  subst hvo
                  have hy0 : (0 : Int) ≤ (y : Int) := by omega
                  have hy1 : (y : Int) < (nx : Int) := by omega
                  have hy3 : (y : Int) < (nx : Int) + 30 := by omega
                  have hy4 : y < nx + 30 := by omega
                  have hbe : (1000 * (x : Int) + (y : Int) != 1000 * (x : Int) + (y : Int)) = false := by simp
                  go_wp2
                  go_round
                  case rel => exact ⟨y + 1, by omega, by go_num⟩
                  case measure => simp [intOf]; omega
                · go_wp2
                  go_loop [12] (fun k => ∃ z : Nat, z ≤ 30 ∧ k = .int .i64 (z : Int)) (fun k => 30 - (intOf k).toNat)
                  case atStart => exact ⟨0, Nat.zero_le _, rfl⟩
                  case round =>
                    clear hylt hy
                    obtain ⟨z, hz, rfl⟩ := hrel
                    have HZ := Lib.hid hz
                    clear hz
                    by_cases hzlt : z < 30
                    · have d3 := HC2.out z hzlt
                      have hz0 : (0 : Int) ≤ (z : Int) := by omega
                      have hz1 : (z : Int) < 30 := by omega
                      have hz2 : (0 : Int) ≤ (nx : Int) + (z : Int) := by omega
                      have hz3 : (nx : Int) + (z : Int) < (nx : Int) + 30 := by omega
                      have hz4 : nx + z < nx + 30 := by omega
                      have HZL := Lib.hid hzlt
                      clear hzlt
                      have hbe : (500000 + 1000 * (x : Int) + (z : Int) != 500000 + 1000 * (x : Int) + (z : Int)) = false := by simp
                      go_wp2
                      go_round
                      case rel => exact ⟨z + 1, HZL.out, by go_num⟩
                      case measure => have := HZL.out; simp [intOf]; omega
                    · obtain rfl : 30 = z := by have := HZ.out; omega
                      clear hzlt
                      go_wp2
                      go_round
                      case rel => exact ⟨x + 1, by omega, by go_num⟩
                      case measure => simp [intOf]; omega
            · go_wp2
              go_ret
              exact ⟨rfl, HBEL.out⟩

end AU
end Go.Proofs.Ytdoliejihinpkaa
