/- Contracts of spec.RegionFlip. -/
import Derived.Test.YtdmnfafmbdmjmaaTurnS
import Derived.Test.YtdmnfafmbdmjmaaFlip
namespace Go.Proofs.Ytdmnfafmbdmjmaa
open Go.RowKit
set_option linter.unusedVariables false
set_option maxRecDepth 100000
set_option linter.unusedSimpArgs false

theorem fIdx_nat {W k : Nat} (hW : 0 < W) : k / W * W + W - 1 - k % W = fIdx W k := by
  have := Nat.mod_lt k hW
  unfold fIdx; omega
theorem fIdx_int' {W k : Nat} (hW : 0 < W) : (((k : Int) / W) * W + W - 1 - (k : Int) % W).toNat = fIdx W k := by
  rw [← fIdx_int hW]; congr 1; omega

end Go.Proofs.Ytdmnfafmbdmjmaa
