/- Contracts of spec.l2Step and spec.StepTo. -/
import Derived.Test.YtppfiacellebkaaStep
namespace Go.Proofs.Ytppfiacellebkaa
open Go.RowKit
set_option linter.unusedVariables false
set_option maxRecDepth 100000
set_option linter.unusedSimpArgs false

end Go.Proofs.Ytppfiacellebkaa
