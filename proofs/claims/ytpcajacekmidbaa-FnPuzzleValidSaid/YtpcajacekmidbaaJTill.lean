/- Plain facts on cells that hang together: which are reached, the least one, marks that are unique. Merged of: Reach, Till, Till2, Inv. -/
import Derived.Test.YtpcajacekmidbaaProg
import Derived.WalkKit
import Derived.WalkSpells
import Derived.WalkLawsBesides
import Derived.Lib.Hide
import Derived.BigQuiet
import Derived.Deep.QuietTactic
import Derived.StillTailTactics
import Derived.Deep.RegionHeld3
import Derived.ProofKit
import Derived.OpenShut
import Derived.ShutString
import Derived.ChangeOld
import Derived.Below
import Derived.Carry
import Derived.Lib.SmallJoins
import Derived.Deep.Grids
import Derived.OrdersHeld
namespace Go.Proofs.Ytpcajacekmidbaa
open Go.RowKit
set_option linter.unusedVariables false
set_option maxRecDepth 100000
set_option linter.unusedSimpArgs false

def BoolsAt (w : World) (a : Option Addr) (xs : List Bool) : Prop :=
  ∀ i, i < xs.length → ∃ b off, a = some ⟨b, off, none⟩ ∧ w.cell? ⟨b, off + i, none⟩ = some (.bool (xs.getD i false))

theorem bcell {W w1 : World} (hb : Below W.heap.size W w1) : (∀ b o, b < W.heap.size → w1.cell? ⟨b, o, none⟩ = W.cell? ⟨b, o, none⟩) ∧ (∀ b o, b < W.heap.size → w1.frozen? ⟨b, o, none⟩ = W.frozen? ⟨b, o, none⟩) :=
  ⟨fun b o h => hb.cell (p := ⟨b, o, none⟩) h, fun b o h => hb.frozen (p := ⟨b, o, none⟩) h⟩

theorem ret_int {k : IntKind} {a b : Int} (h : a = b) : Ending.returned (.int k a) = .returned (.int k b) := by rw [h]
theorem ret_bool {a b : Bool} (h : a = b) : Ending.returned (.bool a) = .returned (.bool b) := by rw [h]

theorem BoolsAt.later {w w' : World} {B : Nat} {a : Option Addr} {xs : List Bool} (h : BoolsAt w a xs) (hb : Below B w w') (hB : w.heap.size ≤ B) : BoolsAt w' a xs := by
  intro i hi
  obtain ⟨b, off, rfl, hc⟩ := h i hi
  refine ⟨b, off, rfl, ?_⟩
  have hbl := World.block_lt_of_cell? w _ hc
  exact (hb.cell (p := ⟨b, off + i, none⟩) (Nat.lt_of_lt_of_le hbl hB)).trans hc

theorem below1 (w : World) (o1 : Obj) : Below w.heap.size w (w.alloc o1) := (Below.refl _ _).alloc (Nat.le_refl _) o1
theorem below2 (w : World) (o1 o2 : Obj) : Below w.heap.size w ((w.alloc o1).alloc o2) := (below1 w o1).alloc (by simp) o2
theorem BoolsAt.one {w : World} {a : Option Addr} {xs : List Bool} (h : BoolsAt w a xs) (o1 : Obj) : BoolsAt (w.alloc o1) a xs := h.later (below1 w o1) (Nat.le_refl _)
theorem BoolsAt.two {w : World} {a : Option Addr} {xs : List Bool} (h : BoolsAt w a xs) (o1 o2 : Obj) : BoolsAt ((w.alloc o1).alloc o2) a xs := h.later (below2 w o1 o2) (Nat.le_refl _)
theorem BoolsAt.drewN {w : World} {a : Option Addr} {xs : List Bool} (h : BoolsAt w a xs) (k : Nat) : BoolsAt (w.drewN k) a xs := h
theorem BoolsAt.below {w w' : World} {a : Option Addr} {xs : List Bool} (h : BoolsAt w a xs) (hb : Below w.heap.size w w') : BoolsAt w' a xs := h.later hb (Nat.le_refl _)
/-- Two steps, each of which keeps what was there when it began. -/
theorem below_seq {a b c : World} (h : Below a.heap.size a b) (k : Below b.heap.size b c) : Below a.heap.size a c := h.trans (k.mono h.size)

theorem heap_later {w w' : World} {b : Nat} {o : Obj} (h : w.heap[b]? = some o) (hb : Below w.heap.size w w') : w'.heap[b]? = some o := by
  have hl : b < w.heap.size := by
    rcases Nat.lt_or_ge b w.heap.size with h' | h'
    · exact h'
    · rw [Array.getElem?_eq_none h'] at h; cases h
  rw [hb.block b hl]; exact h
theorem heap_new (w : World) (o : Obj) : (w.alloc o).heap[w.heap.size]? = some o := heap_alloc_new w o
theorem heap_lt {w : World} {b : Nat} {o : Obj} (h : w.heap[b]? = some o) : b < w.heap.size := by
  rcases Nat.lt_or_ge b w.heap.size with h' | h'
  · exact h'
  · rw [Array.getElem?_eq_none h'] at h; cases h
/-- A struct of three cells in a block of its own. -/
theorem cells3 {w : World} {b : Nat} {x y z : Value} {t : TypeId} (h : w.heap[b]? = some (.cells #[x, y, z] t (0, 0))) :
    w.cell? ⟨b, 0, none⟩ = some x ∧ w.cell? ⟨b, 1, none⟩ = some y ∧ w.cell? ⟨b, 2, none⟩ = some z := by
  simp [World.cell?, h]

theorem free3 {w : World} {b : Nat} {cs : Array Value} {t : TypeId} (h : w.heap[b]? = some (.cells cs t (0, 0))) (i : Nat) : w.frozen? ⟨b, i, none⟩ = false := by simp [World.frozen?, h]

theorem block_setCell {w : World} {g i : Nat} {cs : Array Value} {t : TypeId} {fr : Nat × Nat} (h : w.heap[g]? = some (.cells cs t fr)) (v : Value) : (w.setCell ⟨g, i, none⟩ v).heap[g]? = some (.cells (cs.setIfInBounds i v) t fr) := by
  rw [setCell_eq_setRow w g i cs t fr v h]
  exact setRow_heap w g _ _ t _ h

theorem drew_below (w : World) : Below w.heap.size w w.drew := (Below.refl _ _).drew
theorem drewN_below (w : World) (k : Nat) : Below w.heap.size w (w.drewN k) := below_drewN (Below.refl _ _) k

end Go.Proofs.Ytpcajacekmidbaa

namespace Go.Proofs.Ytpcajacekmidbaa
open Go.RowKit
set_option linter.unusedVariables false
set_option maxRecDepth 100000
set_option linter.unusedSimpArgs false

end Go.Proofs.Ytpcajacekmidbaa

namespace Go.Proofs.Ytpcajacekmidbaa
open Go.RowKit
set_option linter.unusedVariables false
set_option maxRecDepth 100000
set_option linter.unusedSimpArgs false

def OwnsB (w : World) (B : Nat) (v : Value) (xs : List Bool) : Prop := w.ownsRow B 4 1 v xs.length (xs.map Value.bool)

theorem infoBool : (Try.prog.info? 4).map (fun i => (i.zero, i.size, i.bytes)) = some (some (.bool false), 1, 1) := by kernel_rfl

/-- What the loop has copied behind k rounds. -/
def part (xs : List Bool) (k : Nat) : List Bool := (List.range xs.length).map fun i => decide (i < k) && xs.getD i false

theorem OwnsB.lower {w : World} {B B' : Nat} {v : Value} {xs : List Bool} (h : OwnsB w B v xs) (hB : B' ≤ B) : OwnsB w B' v xs :=
  ⟨h.1, h.2.elim Or.inl (fun ⟨g, cap, cur, hv, hg, r⟩ => Or.inr ⟨g, cap, cur, hv, Nat.le_trans hB hg, r⟩)⟩

theorem OwnsB.setBelow {w : World} {B : Nat} {v : Value} {xs : List Bool} (h : OwnsB w B v xs) {p : Addr} (hp : p.block < B) (u : Value) : OwnsB (w.setCell p u) B v xs :=
  ownsRow_setCell_below h hp u

end Go.Proofs.Ytpcajacekmidbaa

namespace Go.Proofs.Ytpcajacekmidbaa
open Go.RowKit
set_option linter.unusedVariables false
set_option maxRecDepth 100000
set_option linter.unusedSimpArgs false

theorem OwnsB.at {w : World} {B : Nat} {a : Option Addr} {n cap : Nat} {xs : List Bool} (h : OwnsB w B (.slice a n cap) xs) : BoolsAt w a xs := by
  intro i hi
  rcases h.2 with ⟨_, h0⟩ | ⟨g, cap', cur, hv, _⟩
  · omega
  · simp only [Value.slice.injEq] at hv
    obtain ⟨rfl, rfl, rfl⟩ := hv
    refine ⟨g, 0, rfl, ?_⟩
    rw [Nat.zero_add, World.ownsRow.cellAt (xs := xs.map Value.bool) h i (by omega)]
    simp [hi]


/-- The marks of n entries, counted from k. -/
def marks (n : Nat) (k : Int) : List Bool := (List.range n).map fun i : Nat => (k + (i : Int)) % 3 == 0
def marked (xs : List Bool) (j : Nat) (k : Int) : List Bool := (List.range xs.length).map fun i : Nat => if i < j then (k + (i : Int)) % 3 == 0 else xs.getD i false
end Go.Proofs.Ytpcajacekmidbaa

namespace Go.Proofs.Ytpcajacekmidbaa
open Go.RowKit
set_option linter.unusedVariables false
set_option maxRecDepth 100000
set_option linter.unusedSimpArgs false

theorem OwnsB.nil (w : World) (B : Nat) : OwnsB w B (.slice none 0 0) [] := World.ownsRow_nil _ _ _ _

theorem OwnsB.below {w w' : World} {B : Nat} {v : Value} {xs : List Bool} (h : OwnsB w B v xs) (hb : Below w.heap.size w w') : OwnsB w' B v xs := by
  refine ⟨h.1, ?_⟩
  rcases h.2 with h2 | ⟨g, cap, cur, hv, hg, hh, r⟩
  · exact Or.inl h2
  · exact Or.inr ⟨g, cap, cur, hv, hg, heap_later hh hb, r⟩

theorem OwnsB.forms {w : World} {B : Nat} {v : Value} {xs : List Bool} (h : OwnsB w B v xs) : (v = .slice none 0 0 ∧ xs = []) ∨ ∃ g cap, v = .slice (some ⟨g, 0, none⟩) xs.length cap ∧ B ≤ g ∧ g < w.heap.size := by
  rcases h.2 with ⟨h1, h2⟩ | ⟨g, cap, cur, hv, hg, hh, _⟩
  · exact Or.inl ⟨h1, List.length_eq_zero_iff.1 h2⟩
  · exact Or.inr ⟨g, cap, hv, hg, heap_lt hh⟩

/-- Behind writes to one row, another owned slice is as it was. -/
theorem OwnsB.keptBy {w w' : World} {B : Nat} {v : Value} {xs : List Bool} {row : Option Nat} (h : OwnsB w B v xs) (hg : w.grownBy w' row) (hr : ∀ k, row = some k → k < B) : OwnsB w' B v xs := by
  refine ⟨h.1, ?_⟩
  rcases h.2 with h2 | ⟨g, cap, cur, hv, hgB, hh, r⟩
  · exact Or.inl h2
  · refine Or.inr ⟨g, cap, cur, hv, hgB, ?_, r⟩
    rw [hg.block g (heap_lt hh) (fun e => by have := hr g e.symm; omega)]; exact hh

theorem heap_grown {w w' : World} {b : Nat} {o : Obj} {row : Option Nat} (h : w.heap[b]? = some o) (hg : w.grownBy w' row) (hr : row ≠ some b) : w'.heap[b]? = some o := by
  rw [hg.block b (heap_lt h) (fun e => hr e.symm)]; exact h

theorem below_set3 {B : Nat} {a w : World} (h : Below B a w) {b : Nat} (hb : B ≤ b) (x y z : Value) : Below B a (((w.setCell ⟨b, 0, none⟩ x).setCell ⟨b, 1, none⟩ y).setCell ⟨b, 2, none⟩ z) :=
  ((h.setCell (p := ⟨b, 0, none⟩) hb x).setCell (p := ⟨b, 1, none⟩) hb y).setCell (p := ⟨b, 2, none⟩) hb z
theorem OwnsB.set3 {w : World} {B : Nat} {v : Value} {xs : List Bool} (h : OwnsB w B v xs) {b : Nat} (hb : b < B) (x y z : Value) : OwnsB (((w.setCell ⟨b, 0, none⟩ x).setCell ⟨b, 1, none⟩ y).setCell ⟨b, 2, none⟩ z) B v xs :=
  ((h.setBelow (p := ⟨b, 0, none⟩) hb x).setBelow (p := ⟨b, 1, none⟩) hb y).setBelow (p := ⟨b, 2, none⟩) hb z
theorem grown_below {w w' : World} (h : w.grownBy w' none) : Below w.heap.size w w' := (Below.refl _ _).grown h (Nat.le_refl _) (by simp)
/-- A list by its index. -/
def tab (N : Nat) (f : Nat → Bool) : List Bool := (List.range N).map f
theorem tab_len (N : Nat) (f : Nat → Bool) : (tab N f).length = N := by simp [tab]
theorem tab_getD {N : Nat} (f : Nat → Bool) {i : Nat} (h : i < N) : (tab N f).getD i false = f i := by simp [tab, h]
theorem tab_congr {N : Nat} {f g : Nat → Bool} (h : ∀ i, i < N → f i = g i) : tab N f = tab N g := by
  unfold tab; exact List.map_congr_left fun i hi => h i (List.mem_range.1 hi)
theorem tab_set (N : Nat) (f : Nat → Bool) (k : Nat) (v : Bool) : (tab N f).set k v = tab N fun i => if i = k then v else f i := by
  apply List.ext_getElem
  · simp [tab]
  · intro i h1 h2
    simp only [tab, List.getElem_set, List.getElem_map, List.getElem_range]
    by_cases e : k = i
    · subst e; simp
    · simp [e, show ¬ i = k from fun h => e h.symm]
theorem tab_of (xs : List Bool) : tab xs.length (fun i => xs.getD i false) = xs := by
  apply List.ext_getElem
  · simp [tab]
  · intro i h1 h2; simp [tab, h2]
theorem tab_const (N : Nat) (v : Bool) : tab N (fun _ => v) = List.replicate N v := by
  apply List.ext_getElem <;> simp [tab]

/-- A row of truths of the call's own in block g, by its index. -/
def RowB (w : World) (B g N cap : Nat) (f : Nat → Bool) : Prop := w.ownsRow B 4 1 (.slice (some ⟨g, 0, none⟩) N cap) N ((tab N f).map Value.bool)
theorem RowB.of {w : World} {B g N cap : Nat} {xs : List Bool} (h : OwnsB w B (.slice (some ⟨g, 0, none⟩) N cap) xs) (hN : N = xs.length) : RowB w B g N cap (fun i => xs.getD i false) := by
  unfold RowB; subst hN; rw [tab_of]; exact h
theorem RowB.owns {w : World} {B g N cap : Nat} {f : Nat → Bool} (h : RowB w B g N cap f) : OwnsB w B (.slice (some ⟨g, 0, none⟩) N cap) (tab N f) := by
  unfold OwnsB; rw [tab_len]; exact h
theorem RowB.cell {w : World} {B g N cap : Nat} {f : Nat → Bool} (h : RowB w B g N cap f) {k : Nat} (hk : k < N) : w.cell? ⟨g, k, none⟩ = some (.bool (f k)) := by
  rw [World.ownsRow.cellAt h k (by omega)]; simp [tab, hk]
theorem RowB.free {w : World} {B g N cap : Nat} {f : Nat → Bool} (h : RowB w B g N cap f) (k : Nat) : w.frozen? ⟨g, k, none⟩ = false := World.ownsRow.frozenAt h k
theorem RowB.set {w : World} {B g N cap : Nat} {f : Nat → Bool} (h : RowB w B g N cap f) (k : Nat) (v : Bool) :
    RowB (w.setCell ⟨g, k, none⟩ (.bool v)) B g N cap (fun i => if i = k then v else f i) ∧ w.grownBy (w.setCell ⟨g, k, none⟩ (.bool v)) (some g) := by
  have := World.ownsRow.stored h k (.bool v)
  rw [← List.map_set, tab_set] at this
  exact this
theorem RowB.congr {w : World} {B g N cap : Nat} {f f' : Nat → Bool} (h : RowB w B g N cap f) (e : ∀ i, i < N → f i = f' i) : RowB w B g N cap f' := by
  unfold RowB; rw [← tab_congr e]; exact h
theorem RowB.keptBy {w w' : World} {B g N cap : Nat} {f : Nat → Bool} {row : Option Nat} (h : RowB w B g N cap f) (hg : w.grownBy w' row) (hr : row ≠ some g) : RowB w' B g N cap f :=
  World.ownsRow.kept h hg (Or.inr (fun e => hr e.symm))
theorem RowB.below {w w' : World} {B g N cap : Nat} {f : Nat → Bool} (h : RowB w B g N cap f) (hb : Below w.heap.size w w') : RowB w' B g N cap f := by
  have := (RowB.owns h).below hb
  unfold OwnsB at this; rw [tab_len] at this; exact this
theorem RowB.base {w : World} {B g N cap : Nat} {f : Nat → Bool} (h : RowB w B g N cap f) : B ≤ g ∧ g < w.heap.size := World.ownsRow.lt h g rfl
theorem heap_set_other {w : World} {b : Nat} {o : Obj} (h : w.heap[b]? = some o) {p : Addr} (hp : b ≠ p.block) (u : Value) : (w.setCell p u).heap[b]? = some o := by
  rw [Below.heap_setCell _ _ _ _ hp]; exact h

/-- One truth, just laid to be appended. -/
theorem new_bool (w : World) (b : Bool) : ∀ j u, [Value.bool b][j]? = some u → (w.alloc (.cells #[.bool b] 4)).cell? ((⟨w.heap.size, 0, none⟩ : Addr).add j) = some u := cell_one_new _ _ _
theorem one_bool (b : Bool) : ∀ u ∈ [Value.bool b], u.oneCell' = true := by intro u hu; simp at hu; subst hu; rfl
theorem OwnsB.row {w : World} {B : Nat} {v : Value} {xs : List Bool} (h : OwnsB w B v xs) {n : Nat} (hn : xs.length = n) : w.ownsRow B 4 1 v n (xs.map Value.bool) := by subst hn; exact h
theorem OwnsB.ofRow {w : World} {B : Nat} {v : Value} {xs : List Bool} {n : Nat} {cs : List Value} (h : w.ownsRow B 4 1 v n cs) (hc : cs = xs.map Value.bool) (hn : xs.length = n) : OwnsB w B v xs := by subst hn; subst hc; exact h
theorem OwnsB.alloc {w : World} {B : Nat} {v : Value} {xs : List Bool} (h : OwnsB w B v xs) (o : Obj) : OwnsB (w.alloc o) B v xs := h.below (below1 _ _)
theorem OwnsB.ownBlock {w : World} {B : Nat} {v : Value} {xs : List Bool} (h : OwnsB w B v xs) {b : Nat} (hb : b < B) : v.ownBlock ≠ some b := fun e => by
  have := World.ownsRow.lt h b e; omega
theorem form_pos {w : World} {base n : Nat} {e : TypeId} {v : Value} {xs : List Value} (h : w.ownsRow base e 1 v n xs) (hn : 0 < n) : ∃ g cap, v = .slice (some ⟨g, 0, none⟩) n cap := by
  rcases h.2 with ⟨_, h0⟩ | ⟨g, cap, _, hv, _⟩
  · omega
  · exact ⟨g, cap, hv⟩
theorem rep_snoc (k : Nat) (b : Bool) : (List.replicate k b).map Value.bool ++ [Value.bool b] = (List.replicate (k + 1) b).map Value.bool := by
  rw [List.replicate_succ']; simp

theorem grown_tail {w wr w1 : World} {o : Obj} {v : Value} {B : Nat} (hbel : Below B w wr) (hgrow : (wr.alloc o).grownBy w1 v.ownBlock) (hB : B ≤ wr.heap.size) (hv : ∀ k, v.ownBlock = some k → B ≤ k) : Below B w w1 :=
  (hbel.alloc hB o).grown hgrow (by simp; omega) hv
theorem OwnsB.ownAt {w : World} {B : Nat} {v : Value} {xs : List Bool} (h : OwnsB w B v xs) {B' : Nat} (hB : B' ≤ B) : ∀ k, v.ownBlock = some k → B' ≤ k := fun k e => Nat.le_trans hB (World.ownsRow.lt h k e).1

/-- What lay there before a row was made is as it was behind writes to that row. -/
theorem BoolsAt.grown {w0 w w' : World} {a : Option Addr} {xs : List Bool} {row : Option Nat} (h : BoolsAt w a xs) (h0 : BoolsAt w0 a xs) (hg : w.grownBy w' row) (hr : ∀ k, row = some k → w0.heap.size ≤ k) : BoolsAt w' a xs := by
  intro i hi
  obtain ⟨b, off, rfl, hc⟩ := h i hi
  obtain ⟨b', off', he, hc'⟩ := h0 i hi
  simp only [Option.some.injEq, Addr.mk.injEq, and_true] at he
  obtain ⟨rfl, rfl⟩ := he
  have hb' := World.block_lt_of_cell? w0 _ hc'
  simp only at hb'
  exact ⟨b, off, rfl, hg.cell hc (fun e => by have := hr b e.symm; omega)⟩
theorem below_grown {B : Nat} {a w w' : World} {row : Option Nat} (h : Below B a w) (hg : w.grownBy w' row) (hB : B ≤ a.heap.size) (hr : ∀ k, row = some k → B ≤ k) : Below B a w' :=
  h.grown hg (Nat.le_trans hB h.size) hr

theorem OwnsB.blkLt {w : World} {B : Nat} {v : Value} {xs : List Bool} (h : OwnsB w B v xs) : ∀ k, v.ownBlock = some k → k < w.heap.size := fun k e => (World.ownsRow.lt h k e).2

end Go.Proofs.Ytpcajacekmidbaa

namespace Go.Proofs.Ytpcajacekmidbaa
open Go.RowKit
set_option linter.unusedVariables false
set_option maxRecDepth 100000

theorem heap_new2 (w : World) (o1 o2 : Obj) : ((w.alloc o1).alloc o2).heap[w.heap.size + 1]? = some o2 := by simpa using heap_new (w.alloc o1) o2
end Go.Proofs.Ytpcajacekmidbaa

namespace Go.Proofs.Ytpcajacekmidbaa
open Go.RowKit
set_option linter.unusedVariables false
set_option maxRecDepth 100000
set_option linter.unusedSimpArgs false

def BytesAt (w : World) (a : Option Addr) (zs : List Int) : Prop :=
  ∀ i, i < zs.length → ∃ b off, a = some ⟨b, off, none⟩ ∧ w.cell? ⟨b, off + i, none⟩ = some (.int .u8 (zs.getD i 0)) ∧ 0 ≤ zs.getD i 0 ∧ zs.getD i 0 < 256
theorem BytesAt.later {w w' : World} {B : Nat} {a : Option Addr} {zs : List Int} (h : BytesAt w a zs) (hb : Below B w w') (hB : w.heap.size ≤ B) : BytesAt w' a zs := by
  intro i hi
  obtain ⟨b, off, rfl, hc, h2⟩ := h i hi
  refine ⟨b, off, rfl, ?_, h2⟩
  have hbl := World.block_lt_of_cell? w _ hc
  exact (hb.cell (p := ⟨b, off + i, none⟩) (Nat.lt_of_lt_of_le hbl hB)).trans hc
theorem BytesAt.below {w w' : World} {a : Option Addr} {zs : List Int} (h : BytesAt w a zs) (hb : Below w.heap.size w w') : BytesAt w' a zs := h.later hb (Nat.le_refl _)
theorem BytesAt.cellAt {w : World} {b off : Nat} {zs : List Int} (h : BytesAt w (some ⟨b, off, none⟩) zs) {i : Nat} (hi : i < zs.length) : w.cell? ⟨b, off + i, none⟩ = some (.int .u8 (zs.getD i 0)) ∧ 0 ≤ zs.getD i 0 ∧ zs.getD i 0 < 256 := by
  obtain ⟨b', off', e, hc, h2⟩ := h i hi
  simp only [Option.some.injEq, Addr.mk.injEq, and_true] at e
  obtain ⟨rfl, rfl⟩ := e
  exact ⟨hc, h2⟩
/-- The bytes lie in a block that was there before a block. -/
def Apart (a : Option Addr) (r : Nat) : Prop := ∀ p, a = some p → p.block < r
theorem BytesAt.grown {w w' : World} {a : Option Addr} {zs : List Int} {r : Nat} (h : BytesAt w a zs) (ha : zs = [] ∨ Apart a r) (hg : w.grownBy w' (some r)) : BytesAt w' a zs := by
  intro i hi
  rcases ha with rfl | ha
  · exact absurd hi (Nat.not_lt_zero i)
  obtain ⟨b, off, rfl, hc, h2⟩ := h i hi
  exact ⟨b, off, rfl, hg.cell hc (fun e => by have h9 := ha _ rfl; simp only [Option.some.injEq] at e; simp only at h9; omega), h2⟩

theorem BytesAt.grown' {w w' : World} {a : Option Addr} {zs : List Int} {r : Nat} {row : Option Nat} (h : BytesAt w a zs) (ha : zs = [] ∨ Apart a r) (hg : w.grownBy w' row) (hr : ∀ k, row = some k → r ≤ k) : BytesAt w' a zs := by
  intro i hi
  rcases ha with rfl | ha
  · exact absurd hi (Nat.not_lt_zero i)
  obtain ⟨b, off, rfl, hc, h2⟩ := h i hi
  exact ⟨b, off, rfl, hg.cell hc (fun e => by have h9 := ha _ rfl; have := hr b e.symm; simp only at h9; omega), h2⟩
theorem ofInt_i64 (a : Nat) (ha : a < 1099511627776) : (BitVec.ofInt 64 (a : Int)).toNat = a := by
  rw [BitVec.ofInt_natCast, BitVec.toNat_ofNat]; exact Nat.mod_eq_of_lt (by omega)
theorem xor_nat (a b : Nat) (ha : a < 1099511627776) (hb : b < 1099511627776) : bits .xor .i64 (a : Int) (b : Int) = ((a ^^^ b : Nat) : Int) ∧ a ^^^ b < 1099511627776 := by
  have hx : a ^^^ b < 2 ^ 40 := Nat.xor_lt_two_pow (by omega) (by omega)
  refine ⟨?_, by omega⟩
  show IntKind.i64.wrap ((BitVec.ofInt 64 (a : Int) ^^^ BitVec.ofInt 64 (b : Int)).toNat : Int) = _
  rw [BitVec.toNat_xor, ofInt_i64 a ha, ofInt_i64 b hb]
  exact IntWalk.i64_in _ (by omega)
theorem xor_bd {x y : Int} (h0 : 0 ≤ x) (h1 : x < 1099511627776) (h2 : 0 ≤ y) (h3 : y < 1099511627776) : 0 ≤ bits .xor .i64 x y ∧ bits .xor .i64 x y < 1099511627776 := by
  obtain ⟨a, rfl⟩ := Int.eq_ofNat_of_zero_le h0
  obtain ⟨b, rfl⟩ := Int.eq_ofNat_of_zero_le h2
  have := xor_nat a b (by omega) (by omega)
  rw [this.1]; omega
end Go.Proofs.Ytpcajacekmidbaa

namespace Go.Proofs.Ytpcajacekmidbaa
open Go.RowKit
set_option linter.unusedVariables false
set_option maxRecDepth 100000
set_option linter.unusedSimpArgs false

/-- A reader in block rb that has picked at most P times. -/
def RD (w : World) (rb P : Nat) : Prop :=
  ∃ (cb : Option Addr) (n cap : Nat) (zs : List Int) (p : Nat), w.heap[rb]? = some (.cells #[.slice cb n cap, .int .i64 p] 87 (0, 0)) ∧ n = zs.length ∧ n ≤ 2000 ∧ BytesAt w cb zs ∧ p ≤ P ∧ (zs = [] ∨ Apart cb rb)
theorem RD.mono {w : World} {rb P P' : Nat} (h : RD w rb P) (hP : P ≤ P') : RD w rb P' := by
  obtain ⟨cb, n, cap, zs, p, h1, h2, h3, h4, h5, h6⟩ := h
  exact ⟨cb, n, cap, zs, p, h1, h2, h3, h4, by omega, h6⟩
theorem RD.lt {w : World} {rb P : Nat} (h : RD w rb P) : rb < w.heap.size := by
  obtain ⟨cb, n, cap, zs, p, h1, _⟩ := h; exact heap_lt h1
theorem RD.below {w w' : World} {rb P : Nat} (h : RD w rb P) (hb : Below w.heap.size w w') : RD w' rb P := by
  obtain ⟨cb, n, cap, zs, p, h1, h2, h3, h4, h5, h6⟩ := h
  exact ⟨cb, n, cap, zs, p, heap_later h1 hb, h2, h3, h4.below hb, h5, h6⟩

theorem grown_set (w : World) (g i : Nat) (v : Value) : w.grownBy (w.setCell ⟨g, i, none⟩ v) (some g) := by
  refine ⟨rfl, rfl, rfl, by simp, fun k _ hk => ?_⟩
  exact Below.heap_setCell w ⟨g, i, none⟩ v k (fun e => hk (by simp at e; rw [e]))
theorem RD.grown {w w' : World} {rb P : Nat} {row : Option Nat} (h : RD w rb P) (hg : w.grownBy w' row) (hr : ∀ k, row = some k → rb < k) : RD w' rb P := by
  obtain ⟨cb, n, cap, zs, p, h1, h2, h3, h4, h5, h6⟩ := h
  exact ⟨cb, n, cap, zs, p, heap_grown h1 hg (fun e => by have := hr rb e; omega), h2, h3, h4.grown' h6 hg (fun k e => by have := hr k e; omega), h5, h6⟩
theorem RD.setFar {w : World} {rb P : Nat} (h : RD w rb P) {g i : Nat} (hg : rb < g) (v : Value) : RD (w.setCell ⟨g, i, none⟩ v) rb P := by
  obtain ⟨cb, n, cap, zs, p, h1, h2, h3, h4, h5, h6⟩ := h
  exact ⟨cb, n, cap, zs, p, heap_set_other h1 (by simp; omega) v, h2, h3, h4.grown' h6 (grown_set w g i v) (fun k e => by cases e; omega), h5, h6⟩
/-- Some number below m was picked. -/
def Picked (rb P m : Nat) (w : World) (e : Ending) (w' : World) : Prop :=
  ∃ v : Nat, v < m ∧ e = .returned (.int .i64 v) ∧ RD w' rb (P + 1) ∧ w.grownBy w' (some rb)

theorem cells2 {w : World} {b : Nat} {x y : Value} {t : TypeId} (h : w.heap[b]? = some (.cells #[x, y] t (0, 0))) :
    w.cell? ⟨b, 0, none⟩ = some x ∧ w.cell? ⟨b, 1, none⟩ = some y := by
  simp [World.cell?, h]
theorem grown_drewN (w : World) (k : Nat) (row : Option Nat) : w.grownBy (w.drewN k) row := ⟨rfl, rfl, rfl, Nat.le_refl _, fun _ _ _ => rfl⟩

theorem rd_next {w : World} {rb P : Nat} {cb : Option Addr} {n cap p : Nat} {zs : List Int} (h1 : w.heap[rb]? = some (.cells #[.slice cb n cap, .int .i64 p] 87 (0, 0))) (h2 : n = zs.length) (h3 : n ≤ 2000) (h4 : BytesAt w cb zs) (h5 : p ≤ P) (h6 : zs = [] ∨ Apart cb rb) :
    RD (w.setCell ⟨rb, 1, none⟩ (.int .i64 ((p : Int) + 1))) rb (P + 1) ∧ w.grownBy (w.setCell ⟨rb, 1, none⟩ (.int .i64 ((p : Int) + 1))) (some rb) := by
  have hg := grown_set w rb 1 (.int .i64 ((p : Int) + 1))
  refine ⟨⟨cb, n, cap, zs, p + 1, ?_, h2, h3, h4.grown h6 hg, by omega, h6⟩, hg⟩
  have := block_setCell (i := 1) h1 (.int .i64 ((p : Int) + 1))
  simpa using this

theorem grown_seq' {a b c : World} {row : Option Nat} (h : a.grownBy b row) (k : b.grownBy c row) : a.grownBy c row :=
  ⟨k.os.trans h.os, k.tape.trans h.tape, k.output.trans h.output, Nat.le_trans h.size k.size, fun i hi hr => (k.block i (Nat.lt_of_lt_of_le hi h.size) hr).trans (h.block i hi hr)⟩
theorem div_bd (p n : Nat) (h : p / n ≤ 100000) : IntKind.i64.wrap ((p : Int) / n) = ((p / n : Nat) : Int) := by
  have e : (p : Int) / n = ((p / n : Nat) : Int) := by push_cast; rfl
  rw [e]; clear e; generalize p / n = q at h ⊢; exact IntWalk.i64_in _ (by omega)

set_option maxHeartbeats 4000000 in
theorem pick_any (rb P m : Nat) (w : World) (hm0 : 1 ≤ m) (hm1 : m ≤ 1000000) (hP : P ≤ 100000) (h : RD w rb P) :
    Calls Try.prog 97 #[.pointer (some ⟨rb, 0, none⟩), .int .i64 m] w (Picked rb P m w) := by
  obtain ⟨cb, n, cap, zs, p, h1, h2, h3, h4, h5, h6⟩ := h
  have HNX := Lib.hid (rd_next h1 h2 h3 h4 h5 h6)
  obtain ⟨c0, c1⟩ := cells2 h1
  have f0 := free3 h1 0
  have f1 := free3 h1 1
  have l1 := heap_lt h1
  have hp : p ≤ 100000 := by omega
  have HA := Lib.hid h4; clear h4
  have HZ := Lib.hid h2; clear h2
  have HAP := Lib.hid h6; clear h6
  by_cases hn : n = 0
  · subst hn
    go_enter Try.func97, Try.ntmps97
    go_wp2
    go_ret
    exact ⟨0, by omega, rfl, HNX.out.1, HNX.out.2⟩
  · obtain ⟨b, off, rfl, -⟩ := HA.out 0 (by rw [← HZ.out]; omega)
    have hbr : ¬ b = rb := by
      rcases HAP.out with e | e
      · have := HZ.out; rw [e] at this; simp at this; omega
      · have := e _ rfl; simp only at this; omega
    have hbr' : ¬ rb = b := fun e => hbr e.symm
    have hn0 : (n : Int) ≠ 0 := by omega
    have hn1 : ((n : Int) == 0) = false := by simpa using hn
    have hmz : (m : Int) ≠ 0 := by omega
    have hmz' : ((m : Int) == 0) = false := by simp; omega
    by_cases hk : p < n
    · obtain ⟨hc, z0, z1⟩ := HA.out.cellAt (i := p) (by rw [← HZ.out]; exact hk)
      obtain ⟨z, hz⟩ : ∃ z, z = zs.getD p 0 := ⟨_, rfl⟩
      rw [← hz] at hc z0 z1
      clear hz
      obtain ⟨zn, rfl⟩ := Int.eq_ofNat_of_zero_le z0
      have e1 : (p : Int) < n := by omega
      go_enter Try.func97, Try.ntmps97
      go_wp2
      go_ret
      exact ⟨zn % m, Nat.mod_lt _ (by omega), ret_int (by simp), HNX.out.1, HNX.out.2⟩
    · have hkn : n ≤ p := by omega
      obtain ⟨q1, hq1⟩ : ∃ q, q = p % n := ⟨_, rfl⟩
      obtain ⟨q2, hq2⟩ : ∃ q, q = (p * 7 + 3) % n := ⟨_, rfl⟩
      obtain ⟨q3, hq3⟩ : ∃ q, q = p / n := ⟨_, rfl⟩
      have l1' : q1 < n := by rw [hq1]; exact Nat.mod_lt _ (by omega)
      have l2' : q2 < n := by rw [hq2]; exact Nat.mod_lt _ (by omega)
      have l3' : q3 ≤ 100000 := by rw [hq3]; exact Nat.le_trans (Nat.div_le_self _ _) hp
      obtain ⟨hc, z0, z1⟩ := HA.out.cellAt (i := q1) (by rw [← HZ.out]; exact l1')
      obtain ⟨hd, y0, y1⟩ := HA.out.cellAt (i := q2) (by rw [← HZ.out]; exact l2')
      obtain ⟨z, hz⟩ : ∃ z, z = zs.getD q1 0 := ⟨_, rfl⟩
      rw [← hz] at hc z0 z1
      obtain ⟨y, hy⟩ : ∃ z, z = zs.getD q2 0 := ⟨_, rfl⟩
      rw [← hy] at hd y0 y1
      have hdd : w.cell? ⟨b, off + q2, none⟩ = some (.int .u8 y) := hd
      obtain ⟨zn, rfl⟩ := Int.eq_ofNat_of_zero_le z0
      obtain ⟨yn, rfl⟩ := Int.eq_ofNat_of_zero_le y0
      have zb : zn < 256 := by omega
      have yb : yn < 256 := by omega
      have e1 : (q1 : Int) < n := by omega
      have e2 : (q2 : Int) < n := by omega
      obtain ⟨X, hX⟩ : ∃ X, X = zn * 131 + yn * 1117 + p * 29 + q3 * 53 := ⟨_, rfl⟩
      have Xb : X < 1099511627776 := by omega
      obtain ⟨hx0, hx1⟩ := xor_bd (x := (X : Int)) (y := (X : Int) / 64) (by omega) (by omega) (by omega) (by omega)
      obtain ⟨Y, hY⟩ : ∃ Y, Y = bits .xor .i64 (X : Int) ((X : Int) / 64) := ⟨_, rfl⟩
      rw [← hY] at hx0 hx1
      obtain ⟨Yn, rfl⟩ := Int.eq_ofNat_of_zero_le hx0
      have HY := Lib.hid hY; clear hY
      have HX := Lib.hid hX; clear hX
      have W1 : IntKind.i64.wrap ((p : Int) * 7) = (p : Int) * 7 := IntWalk.i64_in _ (by omega)
      have W2 : IntKind.i64.wrap ((p : Int) * 7 + 3) = (p : Int) * 7 + 3 := IntWalk.i64_in _ (by clear W1; omega)
      have W3 : IntKind.i64.wrap ((zn : Int) * 131) = (zn : Int) * 131 := IntWalk.i64_in _ (by clear W1 W2; omega)
      have W4 : IntKind.i64.wrap ((yn : Int) * 1117) = (yn : Int) * 1117 := IntWalk.i64_in _ (by clear W1 W2 W3; omega)
      have W5 : IntKind.i64.wrap ((zn : Int) * 131 + (yn : Int) * 1117) = (zn : Int) * 131 + (yn : Int) * 1117 := IntWalk.i64_in _ (by clear W1 W2 W3 W4; omega)
      have W6 : IntKind.i64.wrap ((p : Int) * 29) = (p : Int) * 29 := IntWalk.i64_in _ (by clear W1 W2 W3 W4 W5; omega)
      have W7 : IntKind.i64.wrap ((zn : Int) * 131 + (yn : Int) * 1117 + (p : Int) * 29) = (zn : Int) * 131 + (yn : Int) * 1117 + (p : Int) * 29 := IntWalk.i64_in _ (by clear W1 W2 W3 W4 W5 W6; omega)
      have W8 : IntKind.i64.wrap ((q3 : Int) * 53) = (q3 : Int) * 53 := IntWalk.i64_in _ (by clear W1 W2 W3 W4 W5 W6 W7; omega)
      have W9 : IntKind.i64.wrap ((zn : Int) * 131 + (yn : Int) * 1117 + (p : Int) * 29 + (q3 : Int) * 53) = (X : Int) := by
        rw [IntWalk.i64_in _ (by clear W1 W2 W3 W4 W5 W6 W7 W8; omega), HX.out]; push_cast; rfl
      have WX : (zn : Int) * 131 + (yn : Int) * 1117 + (p : Int) * 29 + (q3 : Int) * 53 = (X : Int) := by rw [HX.out]; push_cast; rfl
      have T1 : (p : Int).tmod n = (q1 : Int) := by rw [hq1, Int.tmod_eq_emod_of_nonneg (by clear W1 W2 W3 W4 W5 W6 W7 W8 W9 WX; omega)]; push_cast; rfl
      have T2 : ((p : Int) * 7 + 3).tmod n = (q2 : Int) := by rw [hq2, Int.tmod_eq_emod_of_nonneg (by clear W1 W2 W3 W4 W5 W6 W7 W8 W9 WX T1; omega)]; push_cast; rfl
      have T3 : IntKind.i64.wrap ((p : Int) / n) = (q3 : Int) := by rw [hq3]; exact div_bd p n (by rw [← hq3]; exact l3')
      have T4 : (p : Int).tdiv n = (q3 : Int) := by rw [hq3, Int.tdiv_eq_ediv_of_nonneg (Int.natCast_nonneg _)]; push_cast; rfl
      clear hq1 hq2 hq3 hz hy Xb hx1
      go_enter Try.func97, Try.ntmps97
      go_wp2
      go_big_quiet (fail)
      have HYr : bits .xor .i64 (X : Int) ((X : Int) / 64) = (Yn : Int) := HY.out.symm
      go_wp2
      go_ret
      exact ⟨Yn % m, Nat.mod_lt _ (by clear W1 W2 W3 W4 W5 W6 W7 W8 W9 WX T1 T2 T3 T4 HYr; omega), ret_int (by simp), HNX.out.1.below (drewN_below _ _), grown_seq' HNX.out.2 (grown_drewN _ _ _)⟩
end Go.Proofs.Ytpcajacekmidbaa

namespace Go.Proofs.Ytpcajacekmidbaa
open Go.RowKit Go.ChangeShapes Go.WideShapes Go.ChangeAt Go.Deep
set_option linter.unusedVariables false
set_option maxRecDepth 100000

theorem own : ownKnob Try.prog.godebug = none := by kernel_rfl
theorem laidOut : laidOutB Try.prog = true := by kernel_rfl

end Go.Proofs.Ytpcajacekmidbaa

namespace Go.Proofs.Ytpcajacekmidbaa
open Go.RowKit Go.ChangeShapes Go.WideShapes Go.ChangeAt Go.Deep
set_option linter.unusedVariables false
set_option maxRecDepth 100000

theorem wf_u8 {z : Int} (h : (Lit.int .u8 z).wf = true) : 0 ≤ z ∧ z < 256 := by
  simp [Lit.wf, IntKind.min, IntKind.max, IntKind.signed, IntKind.bits] at h
  omega

theorem BytesAt_of_cells {w : World} {a : Addr} {zs : List Int} {len : Nat} (hl : len ≤ zs.length) (hw : ∀ n ∈ zs, (Lit.int .u8 n).wf = true) (hc : ∀ i, i < zs.length → w.cell? (a.add i) = some (.int .u8 (zs.getD i 0))) : BytesAt w (some a) (zs.take len) := by
  intro i hi
  have hi' : i < zs.length := by simp at hi; omega
  have hil : i < len := by simp at hi; omega
  obtain ⟨b, off, spot⟩ := a
  have hc0 := hc i hi'
  have hspot : spot = none := by simpa [Addr.add] using World.cell?_spot (hc 0 (by omega))
  subst hspot
  have e1 : (zs.take len).getD i 0 = zs.getD i 0 := by simp [List.getD, hil]
  have e2 : zs.getD i 0 = zs[i] := by simp [hi']
  refine ⟨b, off, rfl, ?_, ?_⟩
  · have : (⟨b, off, none⟩ : Addr).add i = ⟨b, off + i, none⟩ := by unfold Addr.add; split <;> simp_all
    rw [this] at hc0
    rw [hc0, e1]
  · rw [e1, e2]; exact wf_u8 (hw _ (List.getElem_mem hi'))

set_option maxRecDepth 100000 in
theorem open_code {H : Type} {enc : TypeId × Value → H} {w : World} {base b0 : Nat} {v : Value} {d : DataW H} {p : List MemPlace}
    (hv : Value.okWide Try.prog w .any b0 22 v) (h : DataW.Trod enc Try.prog w base (fun _ => true) true 22 v d p) :
    ∃ (a : Option Addr) (n cap : Nat) (zs : List Int), v = .slice a n cap ∧ n = zs.length ∧ n ≤ maxLen ∧ n ≤ cap ∧ BytesAt w a zs := by
  obtain ⟨a1, len, cap, rfl⟩ := okWide_slice Try.underlying22 hv
  obtain ⟨fuel, hf⟩ := h
  rcases open_ints Try.underlying22 Try.underlying5 (by kernel_rfl) hf with ⟨hcs, hx⟩ | ⟨a, len', cap', zs, hcs, _, hl, hm, hz, hx, hcell, hwz⟩
  · simp [Value.cells] at hcs
    obtain ⟨rfl, rfl, rfl⟩ := hcs
    exact ⟨none, 0, 0, [], rfl, rfl, Nat.zero_le _, Nat.le_refl _, fun i hi => absurd hi (Nat.not_lt_zero i)⟩
  · simp [Value.cells] at hcs
    obtain ⟨rfl, rfl, rfl⟩ := hcs
    simp only [if_true] at hz
    exact ⟨some a, len, cap, zs.take len, rfl, by simp; omega, by omega, hl, BytesAt_of_cells (by omega) hwz hcell⟩

end Go.Proofs.Ytpcajacekmidbaa

namespace Go.Proofs.Ytpcajacekmidbaa
open Go.RowKit
set_option linter.unusedVariables false
set_option maxRecDepth 100000
set_option linter.unusedSimpArgs false

section
variable (N : Nat) (s : Nat → Bool) (adj : Nat → Nat → Bool)
/-- Cells of a set below N hang together. -/
inductive Conn : Nat → Nat → Prop
  | refl {i : Nat} : i < N → s i = true → Conn i i
  | step {i j k : Nat} : Conn i j → adj j k = true → k < N → s k = true → Conn i k

/-- What is reached from i in t steps. -/
def reachT (i : Nat) : Nat → Nat → Bool
  | 0, k => k == i && s k
  | t + 1, k => reachT i t k || (s k && (List.range N).any fun j => reachT i t j && adj j k)

variable {N s adj}
theorem Conn.left {i k : Nat} (h : Conn N s adj i k) : i < N ∧ s i = true := by
  induction h with
  | refl h1 h2 => exact ⟨h1, h2⟩
  | step _ _ _ _ ih => exact ih
theorem Conn.right {i k : Nat} (h : Conn N s adj i k) : k < N ∧ s k = true := by
  cases h with
  | refl h1 h2 => exact ⟨h1, h2⟩
  | step _ _ h1 h2 => exact ⟨h1, h2⟩
theorem Conn.trans {i j k : Nat} (h : Conn N s adj i j) (h2 : Conn N s adj j k) : Conn N s adj i k := by
  induction h2 with
  | refl _ _ => exact h
  | step _ a b c ih => exact .step ih a b c
theorem Conn.symm (ha : ∀ j k, adj j k = adj k j) {i k : Nat} (h : Conn N s adj i k) : Conn N s adj k i := by
  induction h with
  | refl h1 h2 => exact .refl h1 h2
  | step hij a b c ih =>
    have hj := hij.right
    exact Conn.trans (.step (.refl b c) (by rw [ha]; exact a) hj.1 hj.2) ih

theorem reachT_mono (i t k : Nat) (h : reachT N s adj i t k = true) : reachT N s adj i (t + 1) k = true := by
  simp [reachT, h]
theorem reachT_le {i t t' k : Nat} (ht : t ≤ t') (h : reachT N s adj i t k = true) : reachT N s adj i t' k = true := by
  induction ht with
  | refl => exact h
  | step _ ih => exact reachT_mono _ _ _ ih
theorem reachT_conn {i t k : Nat} (hi : i < N) (hk : k < N) (h : reachT N s adj i t k = true) : Conn N s adj i k := by
  induction t generalizing k with
  | zero =>
    simp only [reachT, Bool.and_eq_true, beq_iff_eq] at h
    obtain ⟨rfl, h⟩ := h
    exact .refl hk h
  | succ t ih =>
    simp only [reachT, Bool.or_eq_true, Bool.and_eq_true, List.any_eq_true, List.mem_range] at h
    rcases h with h | ⟨h1, j, hj, h2, h3⟩
    · exact ih hk h
    · exact .step (ih hj h2) h3 hk h1

def sizeT (N : Nat) (f : Nat → Bool) : Nat := (List.range N).countP f
theorem sizeT_le (N : Nat) (f : Nat → Bool) : sizeT N f ≤ N := by
  have := List.countP_le_length (p := f) (l := List.range N)
  rwa [List.length_range] at this
theorem countP_lt {α : Type} (l : List α) (p q : α → Bool) (h : ∀ x ∈ l, p x = true → q x = true) (x : α) (hx : x ∈ l) (h1 : p x = false) (h2 : q x = true) : l.countP p < l.countP q := by
  induction l with
  | nil => cases hx
  | cons a l ih =>
    have hm : l.countP p ≤ l.countP q := List.countP_mono_left fun y hy => h y (List.mem_cons_of_mem _ hy)
    rw [List.countP_cons, List.countP_cons]
    rcases List.mem_cons.1 hx with rfl | hx'
    · rw [h1, h2]; simp; omega
    · have := ih (fun y hy => h y (List.mem_cons_of_mem _ hy)) hx'
      cases hpa : p a
      · simp; omega
      · rw [h a List.mem_cons_self hpa]; omega
theorem countP_eq_of {α : Type} (l : List α) (p q : α → Bool) (h : ∀ x ∈ l, p x = true → q x = true) (e : l.countP p = l.countP q) : ∀ x ∈ l, q x = true → p x = true := by
  intro x hx hq
  cases hp : p x
  · have := countP_lt l p q h x hx hp hq; omega
  · rfl

/-- Either the sets have stopped growing before t, or there are more than t of them. -/
theorem reach_grow {i : Nat} (hi : i < N) (hs : s i = true) (t : Nat) : (∃ t' , t' < t ∧ ∀ k, k < N → reachT N s adj i (t' + 1) k = true → reachT N s adj i t' k = true) ∨ t + 1 ≤ sizeT N (reachT N s adj i t) := by
  induction t with
  | zero =>
    right
    have : 0 < (List.range N).countP (reachT N s adj i 0) := by
      rw [List.countP_pos_iff]
      exact ⟨i, List.mem_range.2 hi, by simp [reachT, hs]⟩
    exact this
  | succ t ih =>
    rcases ih with ⟨t', h1, h2⟩ | h
    · exact Or.inl ⟨t', by omega, h2⟩
    · by_cases hst : ∀ k, k < N → reachT N s adj i (t + 1) k = true → reachT N s adj i t k = true
      · exact Or.inl ⟨t, by omega, hst⟩
      · right
        have : ∃ k, k < N ∧ reachT N s adj i (t + 1) k = true ∧ reachT N s adj i t k = false := by
          apply Classical.byContradiction; intro hc
          exact hst fun k hk h1 => by
            cases hb : reachT N s adj i t k
            · exact absurd ⟨k, hk, h1, hb⟩ hc
            · rfl
        obtain ⟨k, hk, h1, h2⟩ := this
        have := countP_lt (List.range N) (reachT N s adj i t) (reachT N s adj i (t + 1)) (fun x _ => reachT_mono i t x) k (List.mem_range.2 hk) h2 h1
        unfold sizeT at h ⊢; omega
theorem reach_stable {i t : Nat} (h : ∀ k, k < N → reachT N s adj i (t + 1) k = true → reachT N s adj i t k = true) {k : Nat} (hi : reachT N s adj i t i = true) (hc : Conn N s adj i k) : reachT N s adj i t k = true := by
  induction hc with
  | refl _ _ => exact hi
  | step hij a b c ih =>
    rename_i j k'
    refine h _ b ?_
    have hj := hij.right
    simp only [reachT, Bool.or_eq_true, Bool.and_eq_true, List.any_eq_true, List.mem_range]
    exact Or.inr ⟨c, j, hj.1, ih, a⟩
/-- What hangs together is reached in N steps. -/
theorem conn_reach {i k : Nat} (hc : Conn N s adj i k) : reachT N s adj i N k = true := by
  obtain ⟨hi, hs⟩ := hc.left
  rcases reach_grow (adj := adj) hi hs N with ⟨t, h1, h2⟩ | h
  · have h0 : reachT N s adj i t i = true := reachT_le (Nat.zero_le t) (by simp [reachT, hs])
    exact reachT_le (by omega) (reach_stable h2 h0 hc)
  · have := sizeT_le N (reachT N s adj i N); omega

/-- The marks of a field: each cell of the set has the least one that it hangs together with. -/
def Marks (N : Nat) (s : Nat → Bool) (adj : Nat → Nat → Bool) (ys : List Int) : Prop :=
  ys.length = N ∧ ∀ k, k < N → (s k = false → ys.getD k 0 = -1) ∧ (s k = true → ∃ j : Nat, ys.getD k 0 = j ∧ Conn N s adj j k ∧ ∀ i, Conn N s adj i k → j ≤ i)
end

end Go.Proofs.Ytpcajacekmidbaa

namespace Go.Proofs.Ytpcajacekmidbaa
open Go.RowKit
set_option linter.unusedVariables false
set_option maxRecDepth 100000

section
variable {P : Program} {ops : Array Oper} {Q : Exit → Act → World → Prop} {md : Region.Mode} {S : World → Prop} {L : Nat}

/-- Whichever order is drawn from here on; behind every operation but number L the world meets S. -/
def Till (P : Program) (md : Region.Mode) (ops : Array Oper) (Q : Exit → Act → World → Prop) (S : World → Prop) (L : Nat) : Nat → Array Bool → Act → World → Prop
  | 0, d, a, w => Region.ready md ops d = [] ∧ Q .normal a w
  | m + 1, d, a, w =>
    (Region.ready md ops d = [] → Q .normal a w) ∧
    ∀ i ∈ Region.ready md ops d, wpOp P ops Q i (fun a' w' => (i ≠ L → S w') ∧ Till P md ops Q S L m (d.setIfInBounds i true) a' w') a w

theorem Till.any : ∀ (m : Nat) (d : Array Bool) (a : Act) (w : World), Till P md ops Q S L m d a w → wpAny P md ops Q m d a w
  | 0, _, _, _, h => h
  | m + 1, _, _, _, h => ⟨h.1, fun i hi => wpOp_mono (fun a' w' k => Till.any m _ a' w' k.2) (h.2 i hi)⟩

/-- The last operation waits for number i. -/
def waitsFor (md : Region.Mode) (ops : Array Oper) (L i : Nat) : Bool :=
  match ops[L]? with
  | some o => o.after.any fun e => Region.binds md e && e.on == i
  | none => false

theorem not_last {d : Array Bool} {i j : Nat} (hw : waitsFor md ops L i = true) (hi : i ∈ Region.ready md ops d) (hj : j ∈ Region.ready md ops d) : j ≠ L := by
  rintro rfl
  obtain ⟨_, o, ho, hall⟩ := mem_ready.1 hj
  unfold waitsFor at hw
  rw [ho] at hw
  obtain ⟨k, hk, he⟩ := Array.any_eq_true.1 hw
  simp only [Bool.and_eq_true, beq_iff_eq] at he
  have h1 := hall _ (Array.getElem_mem hk) he.1
  have h0 := (mem_ready.1 hi).1
  rw [he.2] at h1
  rcases Nat.lt_or_ge i d.size with h' | h'
  · simp [h'] at h0 h1; rw [h0] at h1; cases h1
  · simp [Array.getElem?_eq_none h'] at h1

theorem Till.take {i : Nat} {oi : Oper} {v : Value} {m : Nat} {d : Array Bool} {a : Act} {w : World} (hi : ops[i]? = some oi)
    (hs : Region.noSelect ops = true) (hf : Region.free md ops d i = true) (hr : (Region.ready md ops d).contains i = true) (hl : waitsFor md ops L i = true)
    (hQ : ∀ c a w, Q (.panic c) (a.put oi.dst v) w → Q (.panic c) a w) (hy : YieldsIf P ops S oi v a) (hS : S w)
    (h : Till P md ops Q S L m (d.setIfInBounds i true) (a.put oi.dst v) w) : Till P md ops Q S L (m + 1) d a w := by
  have key : ∀ (m : Nat) (d : Array Bool) (a : Act) (w : World),
      (∀ j oj, ops[j]? = some oj → j ≠ i → d.getD j true = false → (∀ e ∈ oj.after, Region.binds md e = true → e.on ≠ i) → oi.apart ops oj = true) →
      i ∈ Region.ready md ops d → YieldsIf P ops S oi v a → S w → Till P md ops Q S L m (d.setIfInBounds i true) (a.put oi.dst v) w → Till P md ops Q S L (m + 1) d a w := by
    intro m
    induction m with
    | zero =>
      intro d a w _ hrd hyd hSd H
      refine ⟨fun e => absurd hrd (by rw [e]; simp), fun j hj => ?_⟩
      by_cases e : j = i
      · subst e; exact hyd.wpOp hi hSd ⟨fun _ => hSd, H⟩
      · have := ready_mono hj e; rw [H.1] at this; simp at this
    | succ m ih =>
      intro d a w hfree hrd hyd hSd H
      refine ⟨fun e => absurd hrd (by rw [e]; simp), fun j hj => ?_⟩
      by_cases e : j = i
      · subst e; exact hyd.wpOp hi hSd ⟨fun _ => hSd, H⟩
      · have hjL := not_last hl hrd hj
        obtain ⟨hjd, oj, hoj, hall⟩ := mem_ready.1 hj
        have hni : ∀ e ∈ oj.after, Region.binds md e = true → e.on ≠ i := fun e he hb heq => by
          have h1 := hall e he hb
          have h0 := (mem_ready.1 hrd).1
          rw [heq] at h1
          rcases Nat.lt_or_ge i d.size with h' | h'
          · simp [h'] at h0 h1; rw [h0] at h1; cases h1
          · simp [Array.getElem?_eq_none h'] at h1
        have step := wpOp_putIf hoj (hfree j oj hoj e hjd hni) (fun cs b => Region.noSelect_spec hs i oi cs b hi) (fun cs b => Region.noSelect_spec hs j oj cs b hoj) hQ hyd (H.2 j (ready_mono hj e))
        refine wpOp_mono (fun a' w' k => ?_) step
        obtain ⟨ky, kS, kT⟩ := k
        refine ⟨kS, ih (d.setIfInBounds j true) a' w' (fun k ok hk hki hun hno => hfree k ok hk hki ?_ hno) (ready_mono hrd (Ne.symm e)) ky (kS hjL) ?_⟩
        · by_cases ejk : j = k
          · subst ejk; exact hjd
          · rw [getD_set_ne true ejk] at hun; exact hun
        · rw [Array.setIfInBounds_comm _ _ e]; exact kT
  exact key m d a w (Region.free_spec hi hf) (by simpa using hr) hy hS h

/-- One operation alone may come up: it is carried out. -/
theorem Till.one {i : Nat} {o : Oper} {m : Nat} {d : Array Bool} {a : Act} {w : World} (hr : Region.ready md ops d = [i]) (hi : ops[i]? = some o) (hw : Region.wanted o (yielded ops a.tmps) = true)
    (h : ∀ K, Hid (∀ a' w', (i ≠ L → S w') → Till P md ops Q S L m (d.setIfInBounds i true) a' w' → K a' w') → (if Region.wanted o (yielded ops a.tmps) = true then Oper.wp P o a w K Q else True)) : Till P md ops Q S L (m + 1) d a w := by
  refine ⟨fun e => (by rw [hr] at e; simp at e), fun j hj => ?_⟩
  rw [hr] at hj
  simp only [List.mem_singleton] at hj
  subst hj
  have k := h (fun a' w' => (j ≠ L → S w') ∧ Till P md ops Q S L m (d.setIfInBounds j true) a' w') (fun a' w' h1 h2 => ⟨h1, h2⟩)
  rw [if_pos hw] at k
  unfold wpOp
  simp only [hi, hw, if_true]
  exact Or.inl k

theorem Till.done {d : Array Bool} {a : Act} {w : World} (hr : Region.ready md ops d = []) (h : Q .normal a w) : ∀ m, Till P md ops Q S L m d a w
  | 0 => ⟨hr, h⟩
  | _ + 1 => ⟨fun _ => h, by rw [hr]; simp⟩

theorem wp_region_till {id : Nat} {a : Act} {w : World} (S : World → Prop) (L : Nat) (hm : P.follows .mixedOrders = true)
    (h : Till P .any ops Q S L ops.size (Array.replicate ops.size false) a w.drew) : (Code.region id ops true).wp P Q a w :=
  wp_region_any hm (Till.any _ _ _ _ h)
end
end Go.Proofs.Ytpcajacekmidbaa

namespace Go.Proofs.Ytpcajacekmidbaa
open Go.RowKit
set_option linter.unusedVariables false
set_option maxRecDepth 100000

section
variable {P : Program} {ops : Array Oper} {Q : Exit → Act → World → Prop} {md : Region.Mode} {S : World → Prop} {L : Nat}

/-- Two operations may come up: either is carried out. -/
theorem Till.two {i j : Nat} {oi oj : Oper} {m : Nat} {d : Array Bool} {a : Act} {w : World} (hr : Region.ready md ops d = [i, j]) (hi : ops[i]? = some oi) (hj : ops[j]? = some oj)
    (hwi : Region.wanted oi (yielded ops a.tmps) = true) (hwj : Region.wanted oj (yielded ops a.tmps) = true)
    (h1 : ∀ K, Hid (∀ a' w', (i ≠ L → S w') → Till P md ops Q S L m (d.setIfInBounds i true) a' w' → K a' w') → (if Region.wanted oi (yielded ops a.tmps) = true then Oper.wp P oi a w K Q else True))
    (h2 : ∀ K, Hid (∀ a' w', (j ≠ L → S w') → Till P md ops Q S L m (d.setIfInBounds j true) a' w' → K a' w') → (if Region.wanted oj (yielded ops a.tmps) = true then Oper.wp P oj a w K Q else True)) :
    Till P md ops Q S L (m + 1) d a w := by
  refine ⟨fun e => (by rw [hr] at e; simp at e), fun k hk => ?_⟩
  rw [hr] at hk
  simp only [List.mem_cons, List.not_mem_nil, or_false] at hk
  rcases hk with rfl | rfl
  · have x := h1 (fun a' w' => (k ≠ L → S w') ∧ Till P md ops Q S L m (d.setIfInBounds k true) a' w') (fun a' w' u v => ⟨u, v⟩)
    rw [if_pos hwi] at x
    unfold wpOp
    simp only [hi, hwi, if_true]
    exact Or.inl x
  · have x := h2 (fun a' w' => (k ≠ L → S w') ∧ Till P md ops Q S L m (d.setIfInBounds k true) a' w') (fun a' w' u v => ⟨u, v⟩)
    rw [if_pos hwj] at x
    unfold wpOp
    simp only [hj, hwj, if_true]
    exact Or.inl x

/-- A cut around a statement: what it leaves is said once, whatever way it went. -/
theorem cut_region {id : Nat} {b : Bool} {a : Act} {w : World} (R : Act → Act → World → Prop)
    (h1 : (Code.region id ops b).wp P (fun e a' w' => e = .normal ∧ R a a' w') a w) (h2 : ∀ a' w', R a a' w' → Q .normal a' w') : (Code.region id ops b).wp P Q a w :=
  Code.wp_mono (fun e a' w' ⟨he, hr⟩ => by subst he; exact h2 a' w' hr) h1
end
end Go.Proofs.Ytpcajacekmidbaa

namespace Go.Proofs.Ytpcajacekmidbaa
open Go.RowKit
set_option linter.unusedVariables false
set_option maxRecDepth 100000

section
variable {P : Program} {ops : Array Oper} {Q : Exit → Act → World → Prop} {md : Region.Mode}

theorem ready_dep {d : Array Bool} {i : Nat} (j : Nat) (h : i ∈ Region.ready md ops d) (hw : waitsFor md ops i j = true) : d.getD j false = true := by
  obtain ⟨_, o, ho, hall⟩ := mem_ready.1 h
  unfold waitsFor at hw
  rw [ho] at hw
  obtain ⟨k, hk, he⟩ := Array.any_eq_true.1 hw
  simp only [Bool.and_eq_true, beq_iff_eq] at he
  have := hall _ (Array.getElem_mem hk) he.1
  rw [he.2] at this; exact this
theorem ready_undone {d : Array Bool} {i : Nat} (h : i ∈ Region.ready md ops d) : d.getD i true = false := (mem_ready.1 h).1
theorem ready_lt {d : Array Bool} {i : Nat} (h : i ∈ Region.ready md ops d) : i < ops.size := by
  obtain ⟨_, o, ho, _⟩ := mem_ready.1 h
  exact (Array.getElem?_eq_some_iff.1 ho).1

/-- Each operation waits for earlier ones alone. -/
def earlier (ops : Array Oper) : Bool := (List.range ops.size).all fun i => match ops[i]? with
  | some o => o.after.all fun e => decide (e.on < i)
  | none => true
theorem all_done {d : Array Bool} (hd : ops.size ≤ d.size) (he : earlier ops = true) (h : Region.ready md ops d = []) : ∀ i, i < ops.size → d.getD i true = true := by
  intro i
  induction i using Nat.strongRecOn with
  | ind i ih =>
    intro hi
    cases hb : d.getD i true
    · exfalso
      have : i ∈ Region.ready md ops d := by
        refine mem_ready.2 ⟨hb, ops[i], by simp [hi], fun e hm _ => ?_⟩
        have hx := List.all_eq_true.1 he i (List.mem_range.2 hi)
        have ho : ops[i]? = some ops[i] := by simp [hi]
        rw [ho] at hx
        obtain ⟨k, hk, rfl⟩ := Array.mem_iff_getElem.1 hm
        have hlt : (ops[i].after[k]).on < i := of_decide_eq_true ((Array.all_eq_true.1 hx) k hk)
        have h1 := ih _ hlt (by omega)
        have hs : (ops[i].after[k]).on < d.size := by omega
        simp [hs] at h1 ⊢
        exact h1
      rw [h] at this; cases this
    · rfl
def undone (ops : Array Oper) (d : Array Bool) : Nat := (List.range ops.size).countP fun i => !d.getD i true
theorem undone_set {d : Array Bool} {i : Nat} (h : d.getD i true = false) (hi : i < ops.size) : undone ops (d.setIfInBounds i true) < undone ops d := by
  refine countP_lt _ _ _ (fun x _ hx => ?_) i (List.mem_range.2 hi) ?_ (by rw [h]; rfl)
  · by_cases e : i = x
    · subst e
      rcases Nat.lt_or_ge i d.size with h' | h'
      · simp [h'] at hx
      · simp [Array.getElem?_eq_none h'] at h
    · rwa [getD_set_ne true e] at hx
  · rcases Nat.lt_or_ge i d.size with h' | h'
    · simp [h']
    · simp [Array.getElem?_eq_none h'] at h
/-- One relation that each operation keeps. -/
theorem wpAny_inv (I : Array Bool → Act → World → Prop) (he : earlier ops = true) (hsz : ∀ d a w, I d a w → ops.size ≤ d.size)
    (hstep : ∀ d a w i, I d a w → i ∈ Region.ready md ops d → wpOp P ops Q i (fun a' w' => I (d.setIfInBounds i true) a' w') a w)
    (hend : ∀ d a w, I d a w → (∀ i, i < ops.size → d.getD i true = true) → Q .normal a w) :
    ∀ (m : Nat) (d : Array Bool) (a : Act) (w : World), I d a w → undone ops d ≤ m → wpAny P md ops Q m d a w
  | 0, d, a, w, hI, hm => by
    have hr : Region.ready md ops d = [] := by
      cases hr : Region.ready md ops d with
      | nil => rfl
      | cons i l =>
        have hi : i ∈ Region.ready md ops d := by rw [hr]; exact List.mem_cons_self
        have := undone_set (ready_undone hi) (ready_lt hi)
        omega
    exact ⟨hr, hend d a w hI (all_done (hsz d a w hI) he hr)⟩
  | m + 1, d, a, w, hI, hm => by
    refine ⟨fun hr => hend d a w hI (all_done (hsz d a w hI) he hr), fun i hi => ?_⟩
    refine wpOp_mono (fun a' w' k => ?_) (hstep d a w i hI hi)
    have := undone_set (ready_undone hi) (ready_lt hi)
    exact wpAny_inv I he hsz hstep hend m _ a' w' k (by omega)
theorem wp_region_inv {id : Nat} {a : Act} {w : World} (I : Array Bool → Act → World → Prop) (hm : P.follows .mixedOrders = true) (he : earlier ops = true) (hsz : ∀ d a w, I d a w → ops.size ≤ d.size)
    (h0 : I (Array.replicate ops.size false) a w.drew)
    (hstep : ∀ d a w i, I d a w → i ∈ Region.ready .any ops d → wpOp P ops Q i (fun a' w' => I (d.setIfInBounds i true) a' w') a w)
    (hend : ∀ d a w, I d a w → (∀ i, i < ops.size → d.getD i true = true) → Q .normal a w) : (Code.region id ops true).wp P Q a w :=
  wp_region_any hm (wpAny_inv I he hsz hstep hend _ _ _ _ h0 (by
    have := List.countP_le_length (p := fun i => !(Array.replicate ops.size false).getD i true) (l := List.range ops.size)
    rwa [List.length_range] at this))
/-- One operation, carried out. -/
theorem wpOp_go {i : Nat} {o : Oper} {K : Act → World → Prop} {a : Act} {w : World} (hi : ops[i]? = some o) (hw : Region.wanted o (yielded ops a.tmps) = true)
    (h : ∀ K', Hid (∀ a' w', K a' w' → K' a' w') → (if Region.wanted o (yielded ops a.tmps) = true then Oper.wp P o a w K' Q else True)) : wpOp P ops Q i K a w := by
  have x := h K (fun _ _ h => h)
  rw [if_pos hw] at x
  unfold wpOp
  simp only [hi, hw, if_true]
  exact Or.inl x
end
end Go.Proofs.Ytpcajacekmidbaa
