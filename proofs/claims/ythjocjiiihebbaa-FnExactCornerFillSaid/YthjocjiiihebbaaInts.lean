/- Memory predicates and contracts for lists of integers: read, copied, compared, marked and looked at. Merged of: Ints, RetI. -/
import Derived.Test.YthjocjiiihebbaaOwn
namespace Go.Proofs.Ythjocjiiihebbaa
open Go.RowKit
set_option linter.unusedVariables false
set_option maxRecDepth 100000
set_option linter.unusedSimpArgs false

def IntsAt (w : World) (a : Option Addr) (xs : List Int) : Prop :=
  ∀ i, i < xs.length → ∃ b off, a = some ⟨b, off, none⟩ ∧ w.cell? ⟨b, off + i, none⟩ = some (.int .i64 (xs.getD i 0))

theorem IntsAt.later {w w' : World} {B : Nat} {a : Option Addr} {xs : List Int} (h : IntsAt w a xs) (hb : Below B w w') (hB : w.heap.size ≤ B) : IntsAt w' a xs := by
  intro i hi
  obtain ⟨b, off, rfl, hc⟩ := h i hi
  refine ⟨b, off, rfl, ?_⟩
  have hbl := World.block_lt_of_cell? w _ hc
  exact (hb.cell (p := ⟨b, off + i, none⟩) (Nat.lt_of_lt_of_le hbl hB)).trans hc

theorem IntsAt.one {w : World} {a : Option Addr} {xs : List Int} (h : IntsAt w a xs) (o1 : Obj) : IntsAt (w.alloc o1) a xs := h.later (below1 w o1) (Nat.le_refl _)

theorem IntsAt.two {w : World} {a : Option Addr} {xs : List Int} (h : IntsAt w a xs) (o1 o2 : Obj) : IntsAt ((w.alloc o1).alloc o2) a xs := h.later (below2 w o1 o2) (Nat.le_refl _)

theorem IntsAt.drewN {w : World} {a : Option Addr} {xs : List Int} (h : IntsAt w a xs) (k : Nat) : IntsAt (w.drewN k) a xs := h

theorem IntsAt.below {w w' : World} {a : Option Addr} {xs : List Int} (h : IntsAt w a xs) (hb : Below w.heap.size w w') : IntsAt w' a xs := h.later hb (Nat.le_refl _)

def OwnsI (w : World) (B : Nat) (v : Value) (xs : List Int) : Prop := w.ownsRow B 3 1 v xs.length (xs.map (Value.int .i64))

theorem infoInt : (Try.prog.info? 3).map (fun i => (i.zero, i.size, i.bytes)) = some (some (.int .i64 0), 1, 8) := by kernel_rfl

/-- What the loop has copied behind k rounds. -/
def partI (xs : List Int) (k : Nat) : List Int := (List.range xs.length).map fun i => if i < k then xs.getD i 0 else 0
theorem partI_len (xs : List Int) (k : Nat) : (partI xs k).length = xs.length := by simp [partI]
theorem partI_step (xs : List Int) (k : Nat) : (partI xs k).set k (xs.getD k 0) = partI xs (k + 1) := by
  apply List.ext_getElem
  · simp [partI]
  · intro i h1 h2
    simp only [partI, List.length_map, List.length_range] at h2
    simp only [partI, List.getElem_set, List.getElem_map, List.getElem_range]
    by_cases e : k = i
    · subst e; simp
    · have : (i < k) = (i < k + 1) := by apply propext; omega
      simp [e, this]
theorem partI_zero (xs : List Int) : partI xs 0 = List.replicate xs.length 0 := by
  apply List.ext_getElem <;> simp [partI]
theorem partI_all (xs : List Int) : partI xs xs.length = xs := by
  apply List.ext_getElem
  · simp [partI]
  · intro i h1 h2; simp [partI, h2]

theorem owns_stepI {w : World} {B g cap k n : Nat} {xs : List Int} (hn : n = xs.length) (hk : k < n) (h : w.ownsRow B 3 1 (.slice (some ⟨g, 0, none⟩) n cap) n ((partI xs k).map (Value.int .i64))) :
    (w.setCell ⟨g, k, none⟩ (.int .i64 (xs.getD k 0))).ownsRow B 3 1 (.slice (some ⟨g, 0, none⟩) n cap) n ((partI xs (k + 1)).map (Value.int .i64)) := by
  have := h.stored k (.int .i64 (xs.getD k 0))
  rw [← List.map_set, partI_step xs k] at this
  exact this.1

set_option maxHeartbeats 400000 in
theorem toIntS_any (a : Option Addr) (n cap : Nat) (xs : List Int) (w : World) (hn : n = xs.length) (hn' : n ≤ 1048576) (ha : IntsAt w a xs) :
    Calls Try.prog 20 #[.slice a n cap] w fun e w' => e = .returned (.slice (some ⟨w.heap.size, 0, none⟩) n n) ∧ OwnsI w' w.heap.size (.slice (some ⟨w.heap.size, 0, none⟩) n n) xs ∧ Below w.heap.size w w' := by
  obtain ⟨i0, hi, hz0, hz1, hz2⟩ := info_parts infoInt
  have HN := Lib.hid hn
  clear hn
  have HA := Lib.hid ha
  clear ha
  go_enter Try.func20, Try.ntmps20
  go_wp2_with (at_make; refine wpList_make_full _ rfl _ _ 32 rfl w.heap.size 3 i0 (.int .i64 0) 1 Try.underlying32 hi hz0 hz1 _ _ _ _ n rfl rfl rfl rfl (by rw [hz2]; omega) (by unfold maxLen; omega) (Nat.le_refl _) ?_; intro w1 hown hgrow)
  go_loopw [4] (fun i wr => ∃ k : Nat, k ≤ n ∧ i = .int .i64 k ∧ wr.ownsRow w.heap.size 3 1 (.slice (some ⟨w.heap.size, 0, none⟩) n n) n ((partI xs k).map (Value.int .i64)) ∧ Below w.heap.size w wr) (fun i _ => n - (intOf i).toNat)
  case atStart => exact ⟨0, Nat.zero_le _, rfl, by rw [partI_zero, ← HN.out]; have h := hown; rw [show (Value.int .i64 0).cells = #[.int .i64 0] from rfl, toList_madeCells_one] at h; simpa using h, (Below.refl _ _).grown hgrow (Nat.le_refl _) (by simp)⟩
  case round =>
    obtain ⟨k, hk, rfl, hown, hbel⟩ := hrel
    by_cases hlt : k < n
    · obtain ⟨b, off, rfl, hc⟩ := HA.out k (by rw [← HN.out]; exact hlt)
      have hbl := World.block_lt_of_cell? w _ hc
      have hc1 : wr.cell? ⟨b, off + k, none⟩ = some (.int .i64 (xs.getD k 0)) := (hbel.cell (p := ⟨b, off + k, none⟩) hbl).trans hc
      have hf := hown.frozenAt k
      have hd : wr.cell? ⟨w.heap.size, k, none⟩ = some (.int .i64 ((partI xs k).getD k 0)) := by rw [hown.cellAt k (by omega)]; simp [partI_len, ← HN.out, hlt]
      go_wp2
      go_roundw
      case rel => exact ⟨k + 1, by omega, by go_num, owns_stepI HN.out hlt hown, hbel.setCell (Nat.le_refl _) _⟩
      case measure => simp [intOf]; omega
    · obtain rfl : k = n := by omega
      go_wp2
      go_ret
      exact ⟨rfl, by unfold OwnsI; rw [← HN.out]; have h := hown; rw [HN.out, partI_all, ← HN.out] at h; exact h, hbel⟩

theorem toIntS_ex (a : Option Addr) (n cap : Nat) (xs : List Int) (w : World) (hn : n = xs.length) (hn' : n ≤ 1048576) (ha : IntsAt w a xs) :
    Calls Try.prog 20 #[.slice a n cap] w fun e w' => ∃ g, e = .returned (.slice (some ⟨g, 0, none⟩) n n) ∧ OwnsI w' w.heap.size (.slice (some ⟨g, 0, none⟩) n n) xs ∧ Below w.heap.size w w' :=
  (toIntS_any a n cap xs w hn hn' ha).mono fun _ _ ⟨h1, h2, h3⟩ => ⟨_, h1, h2, h3⟩

theorem OwnsI.lower {w : World} {B B' : Nat} {v : Value} {xs : List Int} (h : OwnsI w B v xs) (hB : B' ≤ B) : OwnsI w B' v xs :=
  ⟨h.1, h.2.elim Or.inl (fun ⟨g, cap, cur, hv, hg, r⟩ => Or.inr ⟨g, cap, cur, hv, Nat.le_trans hB hg, r⟩)⟩

theorem OwnsI.setBelow {w : World} {B : Nat} {v : Value} {xs : List Int} (h : OwnsI w B v xs) {p : Addr} (hp : p.block < B) (u : Value) : OwnsI (w.setCell p u) B v xs :=
  ownsRow_setCell_below h hp u

theorem OwnsI.at {w : World} {B : Nat} {a : Option Addr} {n cap : Nat} {xs : List Int} (h : OwnsI w B (.slice a n cap) xs) : IntsAt w a xs := by
  intro i hi
  rcases h.2 with ⟨_, h0⟩ | ⟨g, cap', cur, hv, _⟩
  · omega
  · simp only [Value.slice.injEq] at hv
    obtain ⟨rfl, rfl, rfl⟩ := hv
    refine ⟨g, 0, rfl, ?_⟩
    rw [Nat.zero_add, World.ownsRow.cellAt (xs := xs.map (Value.int .i64)) h i (by omega)]
    simp [hi]

/-- Two lists that hold the same are told to be equal. -/
theorem eqIntS_same (a b : Option Addr) (n cap cap' : Nat) (xs : List Int) (w : World) (hn : n = xs.length) (hn' : n ≤ 1048576) (ha : IntsAt w a xs) (hb : IntsAt w b xs) :
    Calls Try.prog 23 #[.slice a n cap, .slice b n cap'] w fun e w' => e = .returned (.bool true) ∧ ∃ k, w' = w.drewN k := by
  have HN := Lib.hid hn; clear hn
  have HA := Lib.hid ha; clear ha
  have HB := Lib.hid hb; clear hb
  go_enter Try.func23, Try.ntmps23
  go_wp2
  go_loopw [5] (fun i wr => ∃ k : Nat, k ≤ n ∧ i = .int .i64 k ∧ ∃ q, wr = w.drewN q) (fun i _ => n - (intOf i).toNat)
  case atStart => exact ⟨0, Nat.zero_le _, rfl, 0, rfl⟩
  case round =>
    obtain ⟨k, hk, rfl, q, rfl⟩ := hrel
    by_cases hlt : k < n
    · obtain ⟨b1, o1, rfl, hc1⟩ := HA.out k (by rw [← HN.out]; exact hlt)
      obtain ⟨b2, o2, rfl, hc2⟩ := HB.out k (by rw [← HN.out]; exact hlt)
      have e1 : (k : Int) < n := by omega
      have e0 : (0 : Int) ≤ k := by omega
      go_wp2
      go_quiet (fail)
      go_wp2
      go_roundw
      case rel => exact ⟨k + 1, by omega, by go_num, _, rfl⟩
      case measure => simp [intOf]; omega
    · go_wp2
      go_ret
      exact ⟨rfl, _, rfl⟩

/-- The marksI of n entries, counted from k. -/
def marksI (n : Nat) (k : Int) : List Int := (List.range n).map fun i : Nat => k + (i : Int)

def markedI (xs : List Int) (j : Nat) (k : Int) : List Int := (List.range xs.length).map fun i : Nat => if i < j then k + (i : Int) else xs.getD i 0

theorem markedI_zero (xs : List Int) (k : Int) : markedI xs 0 k = xs := by
  apply List.ext_getElem
  · simp [markedI]
  · intro i h1 h2; simp [markedI, h2]

theorem markedI_all (xs : List Int) (k : Int) : markedI xs xs.length k = marksI xs.length k := by
  apply List.ext_getElem
  · simp [markedI, marksI]
  · intro i h1 h2; simp [marksI] at h2; simp [markedI, marksI, h2]

theorem markedI_step (xs : List Int) (j : Nat) (k : Int) : (markedI xs j k).set j (k + (j : Int)) = markedI xs (j + 1) k := by
  apply List.ext_getElem
  · simp [markedI]
  · intro i h1 h2
    simp only [markedI, List.length_map, List.length_range] at h2
    simp only [markedI, List.getElem_set, List.getElem_map, List.getElem_range]
    by_cases e : j = i
    · subst e; simp
    · have : (i < j) = (i < j + 1) := by apply propext; omega
      simp [e, this]

theorem marksI_len (n : Nat) (k : Int) : (marksI n k).length = n := by simp [marksI]

theorem markedI_len (xs : List Int) (j : Nat) (k : Int) : (markedI xs j k).length = xs.length := by simp [markedI]

theorem owns_markI {w : World} {B g cap j n : Nat} {k : Int} {xs : List Int} (h : w.ownsRow B 3 1 (.slice (some ⟨g, 0, none⟩) n cap) n ((markedI xs j k).map (Value.int .i64))) :
    (w.setCell ⟨g, j, none⟩ (.int .i64 (k + (j : Int)))).ownsRow B 3 1 (.slice (some ⟨g, 0, none⟩) n cap) n ((markedI xs (j + 1) k).map (Value.int .i64)) ∧ w.grownBy (w.setCell ⟨g, j, none⟩ (.int .i64 (k + (j : Int)))) (some g) := by
  have := h.stored j (.int .i64 (k + (j : Int)))
  rw [← List.map_set, markedI_step xs j] at this
  exact this

set_option maxHeartbeats 400000 in
theorem markIntS_some (g n cap B : Nat) (k : Int) (xs : List Int) (w : World) (hn : n = xs.length) (hn' : n ≤ 1048576) (hk0 : 0 ≤ k) (hk1 : k ≤ 4194304) (ho : OwnsI w B (.slice (some ⟨g, 0, none⟩) n cap) xs) :
    Calls Try.prog 27 #[.slice (some ⟨g, 0, none⟩) n cap, .int .i64 k] w fun e w' => e = .returned (.int .i64 (k + n)) ∧ OwnsI w' B (.slice (some ⟨g, 0, none⟩) n cap) (marksI n k) ∧ w.grownBy w' (some g) := by
  have HN := Lib.hid hn; clear hn
  have HO := Lib.hid ho; clear ho
  go_enter Try.func27, Try.ntmps27
  go_wp2
  go_loopw [5, 1] (fun i kv wr => ∃ j : Nat, j ≤ n ∧ i = .int .i64 j ∧ kv = .int .i64 (k + j) ∧ wr.ownsRow B 3 1 (.slice (some ⟨g, 0, none⟩) n cap) n ((markedI xs j k).map (Value.int .i64)) ∧ w.grownBy wr (some g)) (fun i _ _ => n - (intOf i).toNat)
  case atStart => exact ⟨0, Nat.zero_le _, rfl, by go_num, by rw [markedI_zero]; have h := HO.out; unfold OwnsI at h; rw [← HN.out] at h; exact h, World.grownBy.refl _ _⟩
  case round =>
    obtain ⟨j, hj, rfl, rfl, hown, hg⟩ := hrel
    by_cases hlt : j < n
    · have hf := hown.frozenAt j
      have hd : wr.cell? ⟨g, j, none⟩ = some (.int .i64 ((markedI xs j k).getD j 0)) := by rw [hown.cellAt j (by omega)]; simp [markedI_len, ← HN.out, hlt]
      have HOW := Lib.hid hown; clear hown
      have HG := Lib.hid hg; clear hg
      go_wp2
      go_roundw
      case rel => exact ⟨j + 1, by omega, by go_num, by go_num, (owns_markI HOW.out).1, grownBy_trans HG.out (owns_markI HOW.out).2⟩
      case measure => simp [intOf]; omega
    · obtain rfl : j = n := by omega
      go_wp2
      go_ret
      exact ⟨rfl, by unfold OwnsI; rw [marksI_len]; have h := hown; rw [HN.out, markedI_all, ← HN.out] at h; exact h, hg⟩

set_option maxHeartbeats 400000 in
theorem heldIntS_marksI (a : Option Addr) (n cap : Nat) (k : Int) (w : World) (hn' : n ≤ 1048576) (hk0 : 0 ≤ k) (hk1 : k ≤ 4194304) (ha : IntsAt w a (marksI n k)) :
    Calls Try.prog 28 #[.slice a n cap, .int .i64 k] w fun e w' => e = .returned (.int .i64 (k + n)) ∧ ∃ q, w' = w.drewN q := by
  have HA := Lib.hid ha; clear ha
  go_enter Try.func28, Try.ntmps28
  go_wp2
  go_loopw [5, 1] (fun i kv wr => ∃ j : Nat, j ≤ n ∧ i = .int .i64 j ∧ kv = .int .i64 (k + j) ∧ ∃ q, wr = w.drewN q) (fun i _ _ => n - (intOf i).toNat)
  case atStart => exact ⟨0, Nat.zero_le _, rfl, by go_num, 0, rfl⟩
  case round =>
    obtain ⟨j, hj, rfl, rfl, q, rfl⟩ := hrel
    by_cases hlt : j < n
    · obtain ⟨b1, o1, rfl, hc⟩ := HA.out j (by rw [marksI_len]; exact hlt)
      have hc1 : w.cell? ⟨b1, o1 + j, none⟩ = some (.int .i64 (k + (j : Int))) := by rw [hc]; simp [marksI, hlt]
      clear hc
      have e1 : (j : Int) < n := by omega
      have e0 : (0 : Int) ≤ j := by omega
      have e3 : (0 : Int) ≤ k + j := by omega
      go_wp2
      go_roundw
      case rel => exact ⟨j + 1, by omega, by go_num, by go_num, _, rfl⟩
      case measure => simp [intOf]; omega
    · obtain rfl : j = n := by omega
      go_wp2
      go_ret
      exact ⟨rfl, _, rfl⟩

theorem OwnsI.nil (w : World) (B : Nat) : OwnsI w B (.slice none 0 0) [] := World.ownsRow_nil _ _ _ _

theorem OwnsI.below {w w' : World} {B : Nat} {v : Value} {xs : List Int} (h : OwnsI w B v xs) (hb : Below w.heap.size w w') : OwnsI w' B v xs := by
  refine ⟨h.1, ?_⟩
  rcases h.2 with h2 | ⟨g, cap, cur, hv, hg, hh, r⟩
  · exact Or.inl h2
  · exact Or.inr ⟨g, cap, cur, hv, hg, heap_later hh hb, r⟩

theorem OwnsI.forms {w : World} {B : Nat} {v : Value} {xs : List Int} (h : OwnsI w B v xs) : (v = .slice none 0 0 ∧ xs = []) ∨ ∃ g cap, v = .slice (some ⟨g, 0, none⟩) xs.length cap ∧ B ≤ g ∧ g < w.heap.size := by
  rcases h.2 with ⟨h1, h2⟩ | ⟨g, cap, cur, hv, hg, hh, _⟩
  · exact Or.inl ⟨h1, List.length_eq_zero_iff.1 h2⟩
  · exact Or.inr ⟨g, cap, hv, hg, heap_lt hh⟩

/-- Behind writes to one row, another owned slice is as it was. -/
theorem OwnsI.keptBy {w w' : World} {B : Nat} {v : Value} {xs : List Int} {row : Option Nat} (h : OwnsI w B v xs) (hg : w.grownBy w' row) (hr : ∀ k, row = some k → k < B) : OwnsI w' B v xs := by
  refine ⟨h.1, ?_⟩
  rcases h.2 with h2 | ⟨g, cap, cur, hv, hgB, hh, r⟩
  · exact Or.inl h2
  · refine Or.inr ⟨g, cap, cur, hv, hgB, ?_, r⟩
    rw [hg.block g (heap_lt hh) (fun e => by have := hr g e.symm; omega)]; exact hh

theorem IntsAt.empty (w : World) (a : Option Addr) : IntsAt w a [] := fun i hi => absurd hi (Nat.not_lt_zero i)

set_option maxHeartbeats 400000 in
theorem markIntS_nil (k : Int) (w : World) :
    Calls Try.prog 27 #[.slice none 0 0, .int .i64 k] w fun e w' => e = .returned (.int .i64 k) ∧ w = w' := by
  go_enter Try.func27, Try.ntmps27
  go_wp2
  refine wp_loop_rounds 1 ?_
  rw [rounds_succ]
  go_wp2
  go_ret
  exact ⟨rfl, rfl⟩


theorem markIntS_own (a : Option Addr) (n cap B : Nat) (k : Int) (xs : List Int) (w : World) (hn : n = xs.length) (hn' : n ≤ 1048576) (hk0 : 0 ≤ k) (hk1 : k ≤ 4194304) (ho : OwnsI w B (.slice a n cap) xs) :
    Calls Try.prog 27 #[.slice a n cap, .int .i64 k] w fun e w' => e = .returned (.int .i64 (k + n)) ∧ OwnsI w' B (.slice a n cap) (marksI n k) ∧ w.grownBy w' (Value.ownBlock (.slice a n cap)) := by
  rcases ho.forms with ⟨h1, rfl⟩ | ⟨g, cap', h1, hg, hl⟩
  · simp only [Value.slice.injEq] at h1
    obtain ⟨rfl, rfl, rfl⟩ := h1
    clear ho hn
    refine (markIntS_nil _ _).mono ?_; rintro e w1 ⟨rfl, rfl⟩
    exact ⟨ret_int (by simp), OwnsI.nil _ _, World.grownBy.refl _ _⟩
  · simp only [Value.slice.injEq] at h1
    obtain ⟨rfl, _, rfl⟩ := h1
    exact markIntS_some g n cap B k xs w hn hn' hk0 hk1 ho
theorem marksI_at {w : World} {B : Nat} {a : Option Addr} {n cap : Nat} {k : Int} (h : OwnsI w B (.slice a n cap) (marksI n k)) : IntsAt w a (marksI n k) :=
  OwnsI.at (n := n) h

/-- A list by its index. -/
def tabI (N : Nat) (f : Nat → Int) : List Int := (List.range N).map f

theorem tabI_len (N : Nat) (f : Nat → Int) : (tabI N f).length = N := by simp [tabI]

theorem tabI_getD {N : Nat} (f : Nat → Int) {i : Nat} (h : i < N) : (tabI N f).getD i 0 = f i := by simp [tabI, h]

theorem tabI_congr {N : Nat} {f g : Nat → Int} (h : ∀ i, i < N → f i = g i) : tabI N f = tabI N g := by
  unfold tabI; exact List.map_congr_left fun i hi => h i (List.mem_range.1 hi)

theorem tabI_set (N : Nat) (f : Nat → Int) (k : Nat) (v : Int) : (tabI N f).set k v = tabI N fun i => if i = k then v else f i := by
  apply List.ext_getElem
  · simp [tabI]
  · intro i h1 h2
    simp only [tabI, List.getElem_set, List.getElem_map, List.getElem_range]
    by_cases e : k = i
    · subst e; simp
    · simp [e, show ¬ i = k from fun h => e h.symm]

theorem tabI_of (xs : List Int) : tabI xs.length (fun i => xs.getD i 0) = xs := by
  apply List.ext_getElem
  · simp [tabI]
  · intro i h1 h2; simp [tabI, h2]

theorem tabI_const (N : Nat) (v : Int) : tabI N (fun _ => v) = List.replicate N v := by
  apply List.ext_getElem <;> simp [tabI]

/-- A row of truths of the call's own in block g, by its index. -/
def RowI (w : World) (B g N cap : Nat) (f : Nat → Int) : Prop := w.ownsRow B 3 1 (.slice (some ⟨g, 0, none⟩) N cap) N ((tabI N f).map (Value.int .i64))

theorem RowI.of {w : World} {B g N cap : Nat} {xs : List Int} (h : OwnsI w B (.slice (some ⟨g, 0, none⟩) N cap) xs) (hN : N = xs.length) : RowI w B g N cap (fun i => xs.getD i 0) := by
  unfold RowI; subst hN; rw [tabI_of]; exact h

theorem RowI.owns {w : World} {B g N cap : Nat} {f : Nat → Int} (h : RowI w B g N cap f) : OwnsI w B (.slice (some ⟨g, 0, none⟩) N cap) (tabI N f) := by
  unfold OwnsI; rw [tabI_len]; exact h

theorem RowI.cell {w : World} {B g N cap : Nat} {f : Nat → Int} (h : RowI w B g N cap f) {k : Nat} (hk : k < N) : w.cell? ⟨g, k, none⟩ = some (.int .i64 (f k)) := by
  rw [World.ownsRow.cellAt h k (by omega)]; simp [tabI, hk]

theorem RowI.free {w : World} {B g N cap : Nat} {f : Nat → Int} (h : RowI w B g N cap f) (k : Nat) : w.frozen? ⟨g, k, none⟩ = false := World.ownsRow.frozenAt h k

theorem RowI.set {w : World} {B g N cap : Nat} {f : Nat → Int} (h : RowI w B g N cap f) (k : Nat) (v : Int) :
    RowI (w.setCell ⟨g, k, none⟩ (.int .i64 v)) B g N cap (fun i => if i = k then v else f i) ∧ w.grownBy (w.setCell ⟨g, k, none⟩ (.int .i64 v)) (some g) := by
  have := World.ownsRow.stored h k (.int .i64 v)
  rw [← List.map_set, tabI_set] at this
  exact this

theorem RowI.congr {w : World} {B g N cap : Nat} {f f' : Nat → Int} (h : RowI w B g N cap f) (e : ∀ i, i < N → f i = f' i) : RowI w B g N cap f' := by
  unfold RowI; rw [← tabI_congr e]; exact h

theorem RowI.keptBy {w w' : World} {B g N cap : Nat} {f : Nat → Int} {row : Option Nat} (h : RowI w B g N cap f) (hg : w.grownBy w' row) (hr : row ≠ some g) : RowI w' B g N cap f :=
  World.ownsRow.kept h hg (Or.inr (fun e => hr e.symm))

theorem RowI.below {w w' : World} {B g N cap : Nat} {f : Nat → Int} (h : RowI w B g N cap f) (hb : Below w.heap.size w w') : RowI w' B g N cap f := by
  have := (RowI.owns h).below hb
  unfold OwnsI at this; rw [tabI_len] at this; exact this

theorem RowI.base {w : World} {B g N cap : Nat} {f : Nat → Int} (h : RowI w B g N cap f) : B ≤ g ∧ g < w.heap.size := World.ownsRow.lt h g rfl

theorem OwnsI.row {w : World} {B : Nat} {v : Value} {xs : List Int} (h : OwnsI w B v xs) {n : Nat} (hn : xs.length = n) : w.ownsRow B 3 1 v n (xs.map (Value.int .i64)) := by subst hn; exact h

theorem OwnsI.ofRow {w : World} {B : Nat} {v : Value} {xs : List Int} {n : Nat} {cs : List Value} (h : w.ownsRow B 3 1 v n cs) (hc : cs = xs.map (Value.int .i64)) (hn : xs.length = n) : OwnsI w B v xs := by subst hn; subst hc; exact h

theorem OwnsI.alloc {w : World} {B : Nat} {v : Value} {xs : List Int} (h : OwnsI w B v xs) (o : Obj) : OwnsI (w.alloc o) B v xs := h.below (below1 _ _)

theorem OwnsI.ownBlock {w : World} {B : Nat} {v : Value} {xs : List Int} (h : OwnsI w B v xs) {b : Nat} (hb : b < B) : v.ownBlock ≠ some b := fun e => by
  have := World.ownsRow.lt h b e; omega

theorem OwnsI.ownAt {w : World} {B : Nat} {v : Value} {xs : List Int} (h : OwnsI w B v xs) {B' : Nat} (hB : B' ≤ B) : ∀ k, v.ownBlock = some k → B' ≤ k := fun k e => Nat.le_trans hB (World.ownsRow.lt h k e).1

/-- What lay there before a row was made is as it was behind writes to that row. -/
theorem IntsAt.grown {w0 w w' : World} {a : Option Addr} {xs : List Int} {row : Option Nat} (h : IntsAt w a xs) (h0 : IntsAt w0 a xs) (hg : w.grownBy w' row) (hr : ∀ k, row = some k → w0.heap.size ≤ k) : IntsAt w' a xs := by
  intro i hi
  obtain ⟨b, off, rfl, hc⟩ := h i hi
  obtain ⟨b', off', he, hc'⟩ := h0 i hi
  simp only [Option.some.injEq, Addr.mk.injEq, and_true] at he
  obtain ⟨rfl, rfl⟩ := he
  have hb' := World.block_lt_of_cell? w0 _ hc'
  simp only at hb'
  exact ⟨b, off, rfl, hg.cell hc (fun e => by have := hr b e.symm; omega)⟩

theorem OwnsI.blkLt {w : World} {B : Nat} {v : Value} {xs : List Int} (h : OwnsI w B v xs) : ∀ k, v.ownBlock = some k → k < w.heap.size := fun k e => (World.ownsRow.lt h k e).2

theorem new_int (w : World) (b : Int) : ∀ j u, [Value.int .i64 b][j]? = some u → (w.alloc (.cells #[.int .i64 b] 3)).cell? ((⟨w.heap.size, 0, none⟩ : Addr).add j) = some u := cell_one_new _ _ _
theorem one_int (b : Int) : ∀ u ∈ [Value.int .i64 b], u.oneCell' = true := by intro u hu; simp at hu; subst hu; rfl


theorem OwnsI.form2 {w : World} {B : Nat} {v : Value} {zs : List Int} (h : OwnsI w B v zs) : ∃ (a : Option Addr) (cap : Nat), v = .slice a zs.length cap := by
  rcases h.2 with ⟨h1, h2⟩ | ⟨g, cap, cur, hv, _⟩
  · exact ⟨none, 0, by rw [h1, h2]⟩
  · exact ⟨_, cap, hv⟩

end Go.Proofs.Ythjocjiiihebbaa

namespace Go.Proofs.Ythjocjiiihebbaa
open Go.RowKit
set_option linter.unusedVariables false
set_option maxRecDepth 100000

/-- The call returns a list of its own, with n entries. -/
def RetL (w : World) (n : Nat) (ys : List Int) (e : Ending) (w' : World) : Prop :=
  ∃ a cap, e = .returned (.slice a n cap) ∧ OwnsI w' w.heap.size (.slice a n cap) ys ∧ Below w.heap.size w w'
def RetLT (w : World) (n : Nat) (ys : List Int) (ok : Bool) (e : Ending) (w' : World) : Prop :=
  ∃ a cap, e = .returned (.tuple #[.slice a n cap, .bool ok]) ∧ OwnsI w' w.heap.size (.slice a n cap) ys ∧ Below w.heap.size w w'
theorem eqIntS_below (a b : Option Addr) (n cap cap' : Nat) (xs : List Int) (w : World) (hn : n = xs.length) (hn' : n ≤ 1048576) (ha : IntsAt w a xs) (hb : IntsAt w b xs) :
    Calls Try.prog 23 #[.slice a n cap, .slice b n cap'] w fun e w' => e = .returned (.bool true) ∧ Below w.heap.size w w' :=
  (eqIntS_same a b n cap cap' xs w hn hn' ha hb).mono fun _ _ ⟨h, q, hq⟩ => ⟨h, by rw [hq]; exact drewN_below _ _⟩
theorem heldIntS_below (a : Option Addr) (n cap : Nat) (k : Int) (w : World) (hn' : n ≤ 1048576) (hk0 : 0 ≤ k) (hk1 : k ≤ 4194304) (ha : IntsAt w a (marksI n k)) :
    Calls Try.prog 28 #[.slice a n cap, .int .i64 k] w fun e w' => e = .returned (.int .i64 (k + n)) ∧ Below w.heap.size w w' :=
  (heldIntS_marksI a n cap k w hn' hk0 hk1 ha).mono fun _ _ ⟨h, q, hq⟩ => ⟨h, by rw [hq]; exact drewN_below _ _⟩
end Go.Proofs.Ythjocjiiihebbaa
