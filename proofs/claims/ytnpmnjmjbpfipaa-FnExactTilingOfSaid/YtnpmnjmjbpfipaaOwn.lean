/- Owned slices of truths: nil or a row of the call's own; marking and looking at them whatever they are. -/
import Derived.Test.YtnpmnjmjbpfipaaEq
namespace Go.Proofs.Ytnpmnjmjbpfipaa
open Go.RowKit
set_option linter.unusedVariables false
set_option maxRecDepth 100000
set_option linter.unusedSimpArgs false

/-- A region that the call made: its truths lie in a row of the call's own, from block B on, or it has none. -/
def RegV (w : World) (B : Nat) (v : Value) (W T : Int) (xs : List Bool) : Prop :=
  ∃ (a : Option Addr) (n cap : Nat), v = .agg #[.int .i64 W, .int .i64 T, .slice a n cap] ∧ n = xs.length ∧ OwnsB w B (.slice a n cap) xs

theorem OwnsB.nil (w : World) (B : Nat) : OwnsB w B (.slice none 0 0) [] := World.ownsRow_nil _ _ _ _

theorem OwnsB.below {w w' : World} {B : Nat} {v : Value} {xs : List Bool} (h : OwnsB w B v xs) (hb : Below w.heap.size w w') : OwnsB w' B v xs := by
  refine ⟨h.1, ?_⟩
  rcases h.2 with h2 | ⟨g, cap, cur, hv, hg, hh, r⟩
  · exact Or.inl h2
  · exact Or.inr ⟨g, cap, cur, hv, hg, heap_later hh hb, r⟩

theorem OwnsB.forms {w : World} {B : Nat} {v : Value} {xs : List Bool} (h : OwnsB w B v xs) : (v = .slice none 0 0 ∧ xs = []) ∨ ∃ g cap, v = .slice (some ⟨g, 0, none⟩) xs.length cap ∧ B ≤ g ∧ g < w.heap.size := by
  rcases h.2 with ⟨h1, h2⟩ | ⟨g, cap, cur, hv, hg, hh, _⟩
  · exact Or.inl ⟨h1, List.length_eq_zero_iff.1 h2⟩
  · exact Or.inr ⟨g, cap, hv, hg, heap_lt hh⟩

/-- Behind writes to one row, another owned slice is as it was. -/
theorem OwnsB.keptBy {w w' : World} {B : Nat} {v : Value} {xs : List Bool} {row : Option Nat} (h : OwnsB w B v xs) (hg : w.grownBy w' row) (hr : ∀ k, row = some k → k < B) : OwnsB w' B v xs := by
  refine ⟨h.1, ?_⟩
  rcases h.2 with h2 | ⟨g, cap, cur, hv, hgB, hh, r⟩
  · exact Or.inl h2
  · refine Or.inr ⟨g, cap, cur, hv, hgB, ?_, r⟩
    rw [hg.block g (heap_lt hh) (fun e => by have := hr g e.symm; omega)]; exact hh

theorem heap_grown {w w' : World} {b : Nat} {o : Obj} {row : Option Nat} (h : w.heap[b]? = some o) (hg : w.grownBy w' row) (hr : row ≠ some b) : w'.heap[b]? = some o := by
  rw [hg.block b (heap_lt h) (fun e => hr e.symm)]; exact h

theorem BoolsAt.empty (w : World) (a : Option Addr) : BoolsAt w a [] := fun i hi => absurd hi (Nat.not_lt_zero i)

set_option maxHeartbeats 400000 in
theorem markBoolS_nil (k : Int) (w : World) :
    Calls Try.prog 68 #[.slice none 0 0, .int .i64 k] w fun e w' => e = .returned (.int .i64 k) ∧ w = w' := by
  go_enter Try.func68, Try.ntmps68
  go_wp2
  refine wp_loop_rounds 1 ?_
  rw [rounds_succ]
  go_wp2
  go_ret
  exact ⟨rfl, rfl⟩

theorem markRegion_own (W T : Int) (a : Option Addr) (n cap B : Nat) (k : Int) (xs : List Bool) (w : World) (hn : n = xs.length) (hn' : n ≤ 1048576) (hk0 : 0 ≤ k) (hk1 : k ≤ 4194304) (hB : B ≤ w.heap.size) (ho : OwnsB w B (.slice a n cap) xs) :
    Calls Try.prog 36 #[.agg #[.int .i64 W, .int .i64 T, .slice a n cap], .int .i64 k] w fun e w' => e = .returned (.int .i64 (k + n)) ∧ OwnsB w' B (.slice a n cap) (marks n k) ∧ w.grownBy w' (Value.ownBlock (.slice a n cap)) := by
  rcases ho.forms with ⟨h1, rfl⟩ | ⟨g, cap', h1, hg, hl⟩
  · simp only [Value.slice.injEq] at h1
    obtain ⟨rfl, rfl, rfl⟩ := h1
    clear ho hn
    go_enter Try.func36, Try.ntmps36
    go_wp2_with (go_at_call 68; refine (markBoolS_nil _ _).mono ?_; rintro e w1 ⟨rfl, rfl⟩)
    go_ret
    exact ⟨ret_int (by simp), OwnsB.nil _ _, World.grownBy_alloc _ _ _⟩
  · simp only [Value.slice.injEq] at h1
    obtain ⟨rfl, _, rfl⟩ := h1
    exact markRegion_some W T g n cap B k xs w hn hn' hk0 hk1 hB ho

/-- What owned marks are, seen where they lie. -/
theorem marks_at {w : World} {B : Nat} {a : Option Addr} {n cap : Nat} {k : Int} (h : OwnsB w B (.slice a n cap) (marks n k)) : BoolsAt w a (marks n k) :=
  OwnsB.at (n := n) h

theorem below_set3 {B : Nat} {a w : World} (h : Below B a w) {b : Nat} (hb : B ≤ b) (x y z : Value) : Below B a (((w.setCell ⟨b, 0, none⟩ x).setCell ⟨b, 1, none⟩ y).setCell ⟨b, 2, none⟩ z) :=
  ((h.setCell (p := ⟨b, 0, none⟩) hb x).setCell (p := ⟨b, 1, none⟩) hb y).setCell (p := ⟨b, 2, none⟩) hb z
theorem OwnsB.set3 {w : World} {B : Nat} {v : Value} {xs : List Bool} (h : OwnsB w B v xs) {b : Nat} (hb : b < B) (x y z : Value) : OwnsB (((w.setCell ⟨b, 0, none⟩ x).setCell ⟨b, 1, none⟩ y).setCell ⟨b, 2, none⟩ z) B v xs :=
  ((h.setBelow (p := ⟨b, 0, none⟩) hb x).setBelow (p := ⟨b, 1, none⟩) hb y).setBelow (p := ⟨b, 2, none⟩) hb z
theorem grown_below {w w' : World} (h : w.grownBy w' none) : Below w.heap.size w w' := (Below.refl _ _).grown h (Nat.le_refl _) (by simp)
theorem grownOwn_below {w w' : World} {B : Nat} {row : Option Nat} (h : w.grownBy w' row) (hB : B ≤ w.heap.size) (hr : ∀ k, row = some k → B ≤ k) : Below B w w' := (Below.refl _ _).grown h hB hr

/-- A list by its index. -/
def tab (N : Nat) (f : Nat → Bool) : List Bool := (List.range N).map f
theorem tab_len (N : Nat) (f : Nat → Bool) : (tab N f).length = N := by simp [tab]
theorem tab_getD {N : Nat} (f : Nat → Bool) {i : Nat} (h : i < N) : (tab N f).getD i false = f i := by simp [tab, h]
theorem tab_congr {N : Nat} {f g : Nat → Bool} (h : ∀ i, i < N → f i = g i) : tab N f = tab N g := by
  unfold tab; exact List.map_congr_left fun i hi => h i (List.mem_range.1 hi)
theorem tab_set (N : Nat) (f : Nat → Bool) (k : Nat) (v : Bool) : (tab N f).set k v = tab N fun i => if i = k then v else f i := by
  apply List.ext_getElem
  · simp [tab]
  · intro i h1 h2
    simp only [tab, List.getElem_set, List.getElem_map, List.getElem_range]
    by_cases e : k = i
    · subst e; simp
    · simp [e, show ¬ i = k from fun h => e h.symm]
theorem tab_of (xs : List Bool) : tab xs.length (fun i => xs.getD i false) = xs := by
  apply List.ext_getElem
  · simp [tab]
  · intro i h1 h2; simp [tab, h2]
theorem tab_const (N : Nat) (v : Bool) : tab N (fun _ => v) = List.replicate N v := by
  apply List.ext_getElem <;> simp [tab]

/-- A row of truths of the call's own in block g, by its index. -/
def RowB (w : World) (B g N cap : Nat) (f : Nat → Bool) : Prop := w.ownsRow B 4 1 (.slice (some ⟨g, 0, none⟩) N cap) N ((tab N f).map Value.bool)
theorem RowB.of {w : World} {B g N cap : Nat} {xs : List Bool} (h : OwnsB w B (.slice (some ⟨g, 0, none⟩) N cap) xs) (hN : N = xs.length) : RowB w B g N cap (fun i => xs.getD i false) := by
  unfold RowB; subst hN; rw [tab_of]; exact h
theorem RowB.owns {w : World} {B g N cap : Nat} {f : Nat → Bool} (h : RowB w B g N cap f) : OwnsB w B (.slice (some ⟨g, 0, none⟩) N cap) (tab N f) := by
  unfold OwnsB; rw [tab_len]; exact h
theorem RowB.cell {w : World} {B g N cap : Nat} {f : Nat → Bool} (h : RowB w B g N cap f) {k : Nat} (hk : k < N) : w.cell? ⟨g, k, none⟩ = some (.bool (f k)) := by
  rw [World.ownsRow.cellAt h k (by omega)]; simp [tab, hk]
theorem RowB.free {w : World} {B g N cap : Nat} {f : Nat → Bool} (h : RowB w B g N cap f) (k : Nat) : w.frozen? ⟨g, k, none⟩ = false := World.ownsRow.frozenAt h k
theorem RowB.set {w : World} {B g N cap : Nat} {f : Nat → Bool} (h : RowB w B g N cap f) (k : Nat) (v : Bool) :
    RowB (w.setCell ⟨g, k, none⟩ (.bool v)) B g N cap (fun i => if i = k then v else f i) ∧ w.grownBy (w.setCell ⟨g, k, none⟩ (.bool v)) (some g) := by
  have := World.ownsRow.stored h k (.bool v)
  rw [← List.map_set, tab_set] at this
  exact this
theorem RowB.congr {w : World} {B g N cap : Nat} {f f' : Nat → Bool} (h : RowB w B g N cap f) (e : ∀ i, i < N → f i = f' i) : RowB w B g N cap f' := by
  unfold RowB; rw [← tab_congr e]; exact h
theorem RowB.keptBy {w w' : World} {B g N cap : Nat} {f : Nat → Bool} {row : Option Nat} (h : RowB w B g N cap f) (hg : w.grownBy w' row) (hr : row ≠ some g) : RowB w' B g N cap f :=
  World.ownsRow.kept h hg (Or.inr (fun e => hr e.symm))
theorem RowB.below {w w' : World} {B g N cap : Nat} {f : Nat → Bool} (h : RowB w B g N cap f) (hb : Below w.heap.size w w') : RowB w' B g N cap f := by
  have := (RowB.owns h).below hb
  unfold OwnsB at this; rw [tab_len] at this; exact this
theorem RowB.base {w : World} {B g N cap : Nat} {f : Nat → Bool} (h : RowB w B g N cap f) : B ≤ g ∧ g < w.heap.size := World.ownsRow.lt h g rfl
theorem heap_set_other {w : World} {b : Nat} {o : Obj} (h : w.heap[b]? = some o) {p : Addr} (hp : b ≠ p.block) (u : Value) : (w.setCell p u).heap[b]? = some o := by
  rw [Below.heap_setCell _ _ _ _ hp]; exact h

/-- One truth, just laid to be appended. -/
theorem new_bool (w : World) (b : Bool) : ∀ j u, [Value.bool b][j]? = some u → (w.alloc (.cells #[.bool b] 4)).cell? ((⟨w.heap.size, 0, none⟩ : Addr).add j) = some u := cell_one_new _ _ _
theorem one_bool (b : Bool) : ∀ u ∈ [Value.bool b], u.oneCell' = true := by intro u hu; simp at hu; subst hu; rfl
theorem OwnsB.row {w : World} {B : Nat} {v : Value} {xs : List Bool} (h : OwnsB w B v xs) {n : Nat} (hn : xs.length = n) : w.ownsRow B 4 1 v n (xs.map Value.bool) := by subst hn; exact h
theorem OwnsB.ofRow {w : World} {B : Nat} {v : Value} {xs : List Bool} {n : Nat} {cs : List Value} (h : w.ownsRow B 4 1 v n cs) (hc : cs = xs.map Value.bool) (hn : xs.length = n) : OwnsB w B v xs := by subst hn; subst hc; exact h
theorem OwnsB.alloc {w : World} {B : Nat} {v : Value} {xs : List Bool} (h : OwnsB w B v xs) (o : Obj) : OwnsB (w.alloc o) B v xs := h.below (below1 _ _)
theorem OwnsB.ownBlock {w : World} {B : Nat} {v : Value} {xs : List Bool} (h : OwnsB w B v xs) {b : Nat} (hb : b < B) : v.ownBlock ≠ some b := fun e => by
  have := World.ownsRow.lt h b e; omega
theorem form_pos {w : World} {base n : Nat} {e : TypeId} {v : Value} {xs : List Value} (h : w.ownsRow base e 1 v n xs) (hn : 0 < n) : ∃ g cap, v = .slice (some ⟨g, 0, none⟩) n cap := by
  rcases h.2 with ⟨_, h0⟩ | ⟨g, cap, _, hv, _⟩
  · omega
  · exact ⟨g, cap, hv⟩
theorem rep_snoc (k : Nat) (b : Bool) : (List.replicate k b).map Value.bool ++ [Value.bool b] = (List.replicate (k + 1) b).map Value.bool := by
  rw [List.replicate_succ']; simp

theorem grown_tail {w wr w1 : World} {o : Obj} {v : Value} {B : Nat} (hbel : Below B w wr) (hgrow : (wr.alloc o).grownBy w1 v.ownBlock) (hB : B ≤ wr.heap.size) (hv : ∀ k, v.ownBlock = some k → B ≤ k) : Below B w w1 :=
  (hbel.alloc hB o).grown hgrow (by simp; omega) hv
theorem OwnsB.ownAt {w : World} {B : Nat} {v : Value} {xs : List Bool} (h : OwnsB w B v xs) {B' : Nat} (hB : B' ≤ B) : ∀ k, v.ownBlock = some k → B' ≤ k := fun k e => Nat.le_trans hB (World.ownsRow.lt h k e).1

/-- What lay there before a row was made is as it was behind writes to that row. -/
theorem BoolsAt.grown {w0 w w' : World} {a : Option Addr} {xs : List Bool} {row : Option Nat} (h : BoolsAt w a xs) (h0 : BoolsAt w0 a xs) (hg : w.grownBy w' row) (hr : ∀ k, row = some k → w0.heap.size ≤ k) : BoolsAt w' a xs := by
  intro i hi
  obtain ⟨b, off, rfl, hc⟩ := h i hi
  obtain ⟨b', off', he, hc'⟩ := h0 i hi
  simp only [Option.some.injEq, Addr.mk.injEq, and_true] at he
  obtain ⟨rfl, rfl⟩ := he
  have hb' := World.block_lt_of_cell? w0 _ hc'
  simp only at hb'
  exact ⟨b, off, rfl, hg.cell hc (fun e => by have := hr b e.symm; omega)⟩
theorem below_grown {B : Nat} {a w w' : World} {row : Option Nat} (h : Below B a w) (hg : w.grownBy w' row) (hB : B ≤ a.heap.size) (hr : ∀ k, row = some k → B ≤ k) : Below B a w' :=
  h.grown hg (Nat.le_trans hB h.size) hr

theorem OwnsB.blkLt {w : World} {B : Nat} {v : Value} {xs : List Bool} (h : OwnsB w B v xs) : ∀ k, v.ownBlock = some k → k < w.heap.size := fun k e => (World.ownsRow.lt h k e).2

end Go.Proofs.Ytnpmnjmjbpfipaa
