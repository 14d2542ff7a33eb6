/- Contracts of spec.l1At, impl.hasCell, impl.cellAt, impl.darkAt and of the two functions RegionAt. -/
import Derived.Test.YtbeedmggfclmjaaValid
import Derived.Test.YtbeedmggfclmjaaOwn
namespace Go.Proofs.Ytbeedmggfclmjaa
open Go.RowKit
set_option linter.unusedVariables false
set_option maxRecDepth 100000
set_option linter.unusedSimpArgs false

def inF (W T x y : Int) : Bool := decide (0 ≤ x ∧ x < W ∧ 0 ≤ y ∧ y < T)
def atB (W T : Int) (xs : List Bool) (x y : Int) : Bool := inF W T x y && xs.getD (y * W + x).toNat false

theorem idx_bd {W T x y : Int} (hx0 : 0 ≤ x) (hx1 : x < W) (hy0 : 0 ≤ y) (hy1 : y < T) : 0 ≤ y * W ∧ 0 ≤ y * W + x ∧ y * W + x < W * T := by
  have h1 : 0 ≤ y * W := Int.mul_nonneg hy0 (by omega)
  have h2 : y * W ≤ (T - 1) * W := Int.mul_le_mul_of_nonneg_right (by omega) (by omega)
  have h3 : (T - 1) * W = W * T - W := by rw [Int.sub_mul, Int.mul_comm T W]; omega
  omega

theorem prod_bd {W T : Int} (h0 : 0 ≤ W) (h1 : W ≤ 100) (h2 : 0 ≤ T) (h3 : T ≤ 100) : 0 ≤ W * T ∧ W * T ≤ 10000 := by
  have a : 0 ≤ W * T := Int.mul_nonneg h0 h2
  have b : W * T ≤ 100 * T := Int.mul_le_mul_of_nonneg_right h1 h2
  omega

theorem rv_true {W T : Int} {xs : List Bool} (h : rv W T xs = true) : 1 ≤ W ∧ W ≤ 6 ∧ 1 ≤ T ∧ T ≤ 6 ∧ (xs.length : Int) = W * T ∧ cnt xs ≤ 24 := by simpa [rv] using h

def rAt (W T : Int) (xs : List Bool) (x y : Int) : Bool := rv W T xs && atB W T xs x y

end Go.Proofs.Ytbeedmggfclmjaa
