/- Contracts of the two functions Balanced. -/
import Derived.Test.YtdmnfafmbdmjmaaDark
namespace Go.Proofs.Ytdmnfafmbdmjmaa
open Go.RowKit
set_option linter.unusedVariables false
set_option maxRecDepth 100000
set_option linter.unusedSimpArgs false

def bal (W T : Int) (xs : List Bool) : Bool := rv W T xs && (2 * dark W T xs == (cnt xs : Int))

theorem dark_bd (W T : Int) (xs : List Bool) : -1 ≤ dark W T xs ∧ dark W T xs ≤ xs.length := by
  unfold dark
  split
  · have := dkN_le W xs xs.length; omega
  · omega

end Go.Proofs.Ytdmnfafmbdmjmaa
