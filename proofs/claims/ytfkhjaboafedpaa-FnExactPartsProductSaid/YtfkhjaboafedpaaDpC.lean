/- Contract of impl.TilingsMany. -/
import Derived.Test.YtfkhjaboafedpaaDpS
namespace Go.Proofs.Ytfkhjaboafedpaa
open Go.RowKit
set_option linter.unusedVariables false
set_option maxRecDepth 100000
set_option linter.unusedSimpArgs false

end Go.Proofs.Ytfkhjaboafedpaa
