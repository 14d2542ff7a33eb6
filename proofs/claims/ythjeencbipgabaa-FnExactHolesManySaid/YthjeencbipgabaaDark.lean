/- Contracts of the two functions CellsMany. Merged of: Many, Dark. -/
import Derived.Test.YthjeencbipgabaaAt
namespace Go.Proofs.Ythjeencbipgabaa
open Go.RowKit
set_option linter.unusedVariables false
set_option maxRecDepth 100000
set_option linter.unusedSimpArgs false

def many (W T : Int) (xs : List Bool) : Int := if rv W T xs then cnt xs else -1

end Go.Proofs.Ythjeencbipgabaa

namespace Go.Proofs.Ythjeencbipgabaa
open Go.RowKit
set_option linter.unusedVariables false
set_option maxRecDepth 100000
set_option linter.unusedSimpArgs false

/-- Whether the k-th cell is dark, in a field that is W cells wide. -/
def dkAt (W : Int) (k : Nat) : Bool := ((k : Int) % W + (k : Int) / W) % 2 == 0
def dkN (W : Int) (xs : List Bool) (k : Nat) : Nat := (List.range k).countP fun i => xs.getD i false && dkAt W i
theorem dkN_succ (W : Int) (xs : List Bool) (k : Nat) : dkN W xs (k + 1) = dkN W xs k + if xs.getD k false && dkAt W k then 1 else 0 := by
  unfold dkN
  rw [List.range_succ, List.countP_append]
  simp [List.countP_cons]
theorem dkN_le (W : Int) (xs : List Bool) (k : Nat) : dkN W xs k ≤ k := by
  have := List.countP_le_length (p := fun i => xs.getD i false && dkAt W i) (l := List.range k)
  rw [List.length_range] at this; exact this
def dark (W T : Int) (xs : List Bool) : Int := if rv W T xs then dkN W xs xs.length else -1

theorem divmod_bd {W : Int} {k : Nat} (h : 1 ≤ W) : 0 ≤ (k : Int) % W ∧ (k : Int) % W < W ∧ 0 ≤ (k : Int) / W ∧ (k : Int) / W ≤ k :=
  ⟨Int.emod_nonneg _ (by omega), Int.emod_lt_of_pos _ (by omega), Int.ediv_nonneg (by omega) (by omega), Int.ediv_le_self _ (by omega)⟩

end Go.Proofs.Ythjeencbipgabaa
