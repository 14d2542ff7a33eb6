/- Contracts of the law's own helpers that compare, mark and look. -/
import Derived.Test.YtppfiacellebkaaTo
namespace Go.Proofs.Ytppfiacellebkaa
open Go.RowKit
set_option linter.unusedVariables false
set_option maxRecDepth 100000
set_option linter.unusedSimpArgs false

theorem OwnsB.at {w : World} {B : Nat} {a : Option Addr} {n cap : Nat} {xs : List Bool} (h : OwnsB w B (.slice a n cap) xs) : BoolsAt w a xs := by
  intro i hi
  rcases h.2 with ⟨_, h0⟩ | ⟨g, cap', cur, hv, _⟩
  · omega
  · simp only [Value.slice.injEq] at hv
    obtain ⟨rfl, rfl, rfl⟩ := hv
    refine ⟨g, 0, rfl, ?_⟩
    rw [Nat.zero_add, World.ownsRow.cellAt (xs := xs.map Value.bool) h i (by omega)]
    simp [hi]


/-- The marks of n entries, counted from k. -/
def marks (n : Nat) (k : Int) : List Bool := (List.range n).map fun i : Nat => (k + (i : Int)) % 3 == 0
def marked (xs : List Bool) (j : Nat) (k : Int) : List Bool := (List.range xs.length).map fun i : Nat => if i < j then (k + (i : Int)) % 3 == 0 else xs.getD i false
theorem marked_zero (xs : List Bool) (k : Int) : marked xs 0 k = xs := by
  apply List.ext_getElem
  · simp [marked]
  · intro i h1 h2; simp [marked, h2]
theorem marked_all (xs : List Bool) (k : Int) : marked xs xs.length k = marks xs.length k := by
  apply List.ext_getElem
  · simp [marked, marks]
  · intro i h1 h2; simp [marks] at h2; simp [marked, marks, h2]
theorem marked_step (xs : List Bool) (j : Nat) (k : Int) : (marked xs j k).set j ((k + (j : Int)) % 3 == 0) = marked xs (j + 1) k := by
  apply List.ext_getElem
  · simp [marked]
  · intro i h1 h2
    simp only [marked, List.length_map, List.length_range] at h2
    simp only [marked, List.getElem_set, List.getElem_map, List.getElem_range]
    by_cases e : j = i
    · subst e; simp
    · have : (i < j) = (i < j + 1) := by apply propext; omega
      simp [e, this]
theorem marks_len (n : Nat) (k : Int) : (marks n k).length = n := by simp [marks]
theorem marked_len (xs : List Bool) (j : Nat) (k : Int) : (marked xs j k).length = xs.length := by simp [marked]

theorem owns_mark {w : World} {B g cap j n : Nat} {k : Int} {xs : List Bool} (h : w.ownsRow B 4 1 (.slice (some ⟨g, 0, none⟩) n cap) n ((marked xs j k).map Value.bool)) :
    (w.setCell ⟨g, j, none⟩ (.bool ((k + (j : Int)) % 3 == 0))).ownsRow B 4 1 (.slice (some ⟨g, 0, none⟩) n cap) n ((marked xs (j + 1) k).map Value.bool) ∧ w.grownBy (w.setCell ⟨g, j, none⟩ (.bool ((k + (j : Int)) % 3 == 0))) (some g) := by
  have := h.stored j (.bool ((k + (j : Int)) % 3 == 0))
  rw [← List.map_set, marked_step xs j] at this
  exact this

theorem grownBy_trans {a b c : World} {row : Option Nat} (h : a.grownBy b row) (h2 : b.grownBy c row) : a.grownBy c row :=
  ⟨h2.os.trans h.os, h2.tape.trans h.tape, h2.output.trans h.output, Nat.le_trans h.size h2.size, fun k hk hr => (h2.block k (Nat.lt_of_lt_of_le hk h.size) hr).trans (h.block k hk hr)⟩

end Go.Proofs.Ytppfiacellebkaa
