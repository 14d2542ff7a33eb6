/- Contracts of the two functions CellsMany. -/
import Derived.Test.YtbbinbgepbkihaaAt
namespace Go.Proofs.Ytbbinbgepbkihaa
open Go.RowKit
set_option linter.unusedVariables false
set_option maxRecDepth 100000
set_option linter.unusedSimpArgs false

def many (W T : Int) (xs : List Bool) : Int := if rv W T xs then cnt xs else -1

end Go.Proofs.Ytbbinbgepbkihaa
