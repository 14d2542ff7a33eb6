/- Contract of impl.outside: what does not belong to a region, with a rim around its field. -/
import Derived.Test.YtbkoailejbenpaaPartsN
import Derived.Test.YtbkoailejbenpaaFlip
namespace Go.Proofs.Ytbkoailejbenpaa
open Go.RowKit
set_option linter.unusedVariables false
set_option maxRecDepth 100000
set_option linter.unusedSimpArgs false

/-- Whether the cell i of the field with a rim does not belong to the region. -/
def outB (W T : Int) (xs : List Bool) (i : Nat) : Bool := !atB W T xs ((i : Int) % (W + 2) - 1) ((i : Int) / (W + 2) - 1)
def outL (W T : Int) (xs : List Bool) (N : Nat) : List Bool := (List.range N).map (outB W T xs)
theorem outL_len (W T : Int) (xs : List Bool) (N : Nat) : (outL W T xs N).length = N := by simp [outL]
theorem outL_get {W T : Int} {xs : List Bool} {N i : Nat} (h : i < N) : (outL W T xs N).getD i false = outB W T xs i := by simp [outL, h]
theorem rim_bd {W T : Int} (h1 : 1 ≤ W) (h2 : W ≤ 6) (h3 : 1 ≤ T) (h4 : T ≤ 6) : 9 ≤ (W + 2) * (T + 2) ∧ (W + 2) * (T + 2) ≤ 64 := by
  have a : (W + 2) * (T + 2) ≤ 8 * 8 := Int.mul_le_mul (by omega) (by omega) (by omega) (by omega)
  have b : 3 * 3 ≤ (W + 2) * (T + 2) := Int.mul_le_mul (by omega) (by omega) (by omega) (by omega)
  omega

end Go.Proofs.Ytbkoailejbenpaa
