/- Contracts of spec.RegionBox. -/
import Derived.Test.YtllcojeimnncoaaBox
namespace Go.Proofs.Ytllcojeimnncoaa
open Go.RowKit
set_option linter.unusedVariables false
set_option maxRecDepth 100000
set_option linter.unusedSimpArgs false

theorem boxB_ins {W T : Int} (h : boxB W T = true) : inB W 1 6 = true ∧ inB T 1 6 = true := by
  obtain ⟨_, _, a, b, c, d, _, _⟩ := boxB_yes h
  simp [inB]; omega

end Go.Proofs.Ytllcojeimnncoaa
