/- Plain facts: right heights are those of exactly one tiling, the one that they tell. -/
import Derived.Test.YtknigcjpgkolgaaKTbyI
namespace Go.Proofs.Ytknigcjpgkolgaa
open Go.RowKit
set_option linter.unusedVariables false
set_option maxRecDepth 100000
set_option linter.unusedSimpArgs false

theorem tbyF_len (W T : Int) (xs : List Bool) (H : List Int) : (tbyF W T xs H).1.length ≤ xs.length := by
  unfold tbyF; split
  · simp [tbyP]
  · simp
end Go.Proofs.Ytknigcjpgkolgaa

namespace Go.Proofs.Ytknigcjpgkolgaa
open Go.RowKit
set_option linter.unusedVariables false
set_option maxRecDepth 100000
set_option linter.unusedSimpArgs false

end Go.Proofs.Ytknigcjpgkolgaa

namespace Go.Proofs.Ytknigcjpgkolgaa
open Go.RowKit
set_option linter.unusedVariables false
set_option maxRecDepth 100000
set_option linter.unusedSimpArgs false

end Go.Proofs.Ytknigcjpgkolgaa

namespace Go.Proofs.Ytknigcjpgkolgaa
open Go.RowKit
set_option linter.unusedVariables false
set_option maxRecDepth 100000
set_option linter.unusedSimpArgs false

theorem tbyF_ok (W T : Int) (xs : List Bool) (H : List Int) : (tbyF W T xs H).2 = hokB W T xs H := by
  unfold tbyF; split
  · rename_i h; rw [h]
  · rename_i h; simp only; cases hh : hokB W T xs H
    · rfl
    · exact absurd hh h
theorem tby_no {W T : Int} {xs : List Bool} {H : List Int} (h : hokB W T xs H = false) : tbyF W T xs H = ([], false) := by
  unfold tbyF; rw [h]; rfl
end Go.Proofs.Ytknigcjpgkolgaa
