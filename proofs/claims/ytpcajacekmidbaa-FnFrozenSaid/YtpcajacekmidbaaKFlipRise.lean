/- Plain facts: a flip moves the height of its corner by 4, and no other one. Merged of: RiseM, RiseI. Merged of: RiseI, FlipRise. -/
import Derived.Test.YtpcajacekmidbaaKHtsN
namespace Go.Proofs.Ytpcajacekmidbaa
open Go.RowKit
set_option linter.unusedVariables false
set_option maxRecDepth 100000
set_option linter.unusedSimpArgs false

def flipD (W T : Int) (xs : List Bool) (L : List Int) (c : Nat) : Int := if 0 < rT W T xs L c true then 4 else -4
end Go.Proofs.Ytpcajacekmidbaa

namespace Go.Proofs.Ytpcajacekmidbaa
open Go.RowKit
set_option linter.unusedVariables false
set_option maxRecDepth 100000
set_option linter.unusedSimpArgs false

end Go.Proofs.Ytpcajacekmidbaa

namespace Go.Proofs.Ytpcajacekmidbaa
open Go.RowKit
set_option linter.unusedVariables false
set_option maxRecDepth 100000
set_option linter.unusedSimpArgs false

end Go.Proofs.Ytpcajacekmidbaa
