/- The law FnExactRegionValid: its walk. -/
import Derived.Test.YtnpmnjmjbpfipaaValid2
namespace Go.Proofs.Ytnpmnjmjbpfipaa
open Go.RowKit
set_option linter.unusedVariables false
set_option maxRecDepth 100000
set_option linter.unusedSimpArgs false

theorem szB_neg {n : Nat} (h : 1048576 < n) : szB n 1048576 = -1 := by unfold szB; rw [if_pos (by omega)]
theorem szB_pos {n : Nat} (h : n ≤ 1048576) : 0 ≤ szB n 1048576 ∧ szB n 1048576 ≤ 1048576 := by unfold szB; rw [if_neg (by omega)]; omega

end Go.Proofs.Ytnpmnjmjbpfipaa
