/- Contracts of spec.TilingTurn and spec.TilingFlip. -/
import Derived.Test.YthjocjiiihebbaaTurnI
namespace Go.Proofs.Ythjocjiiihebbaa
open Go.RowKit
set_option linter.unusedVariables false
set_option maxRecDepth 100000
set_option linter.unusedSimpArgs false

theorem tDst_int' {W T k : Nat} (hW : 0 < W) (hk : k < W * T) : (((k : Int) % W) * T + T - 1 - (k : Int) / W).toNat = tDst W T k := by
  rw [← tDst_int hW hk]; congr 1; omega
theorem tDst_nat {W T k : Nat} (h : k / W < T) : k % W * T + T - 1 - k / W = tDst W T k := by
  unfold tDst; omega
theorem fIdx_nat {W k : Nat} (hW : 0 < W) : k / W * W + W - 1 - k % W = fIdx W k := by
  have := Nat.mod_lt k hW
  unfold fIdx; omega
theorem fIdx_int' {W k : Nat} (hW : 0 < W) : (((k : Int) / W) * W + W - 1 - (k : Int) % W).toNat = fIdx W k := by
  rw [← fIdx_int hW]; congr 1; omega

end Go.Proofs.Ythjocjiiihebbaa
