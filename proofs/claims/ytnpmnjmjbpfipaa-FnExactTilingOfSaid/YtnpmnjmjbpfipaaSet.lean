/- Contracts of impl.RegionSet. -/
import Derived.Test.YtnpmnjmjbpfipaaCopy
namespace Go.Proofs.Ytnpmnjmjbpfipaa
open Go.RowKit
set_option linter.unusedVariables false
set_option maxRecDepth 100000
set_option linter.unusedSimpArgs false

def setB (xs : List Bool) (c : Nat) (has : Bool) : List Bool := tab xs.length fun i => if i = c then has else xs.getD i false
def setIn (W T : Int) (xs : List Bool) (cell : Int) : Bool := rv W T xs && decide (0 ≤ cell ∧ cell < xs.length)

end Go.Proofs.Ytnpmnjmjbpfipaa
