/- Contracts of the law's own helpers that measure arguments. -/
import Derived.Test.YtppfiacellebkaaBase
namespace Go.Proofs.Ytppfiacellebkaa
open Go.RowKit
set_option linter.unusedVariables false
set_option maxRecDepth 100000
set_option linter.unusedSimpArgs false

def szB (n : Nat) (left : Int) : Int := if left - n < 0 then -1 else left - n

end Go.Proofs.Ytppfiacellebkaa
