/- Contracts of impl.freeAt, impl.firstFree and of the two functions TilingOk. -/
import Derived.Test.YtppfiacellebkaaLaidS
namespace Go.Proofs.Ytppfiacellebkaa
open Go.RowKit
set_option linter.unusedVariables false
set_option maxRecDepth 100000
set_option linter.unusedSimpArgs false

/-- No cell from s to k is free. -/
def NoFree (xs : List Bool) (L : List Int) (s k : Nat) : Prop := ∀ j, s ≤ j → j < k → freeB xs L j = false
theorem NoFree.step {xs : List Bool} {L : List Int} {s k : Nat} (h : NoFree xs L s k) (hk : freeB xs L k = false) : NoFree xs L s (k + 1) := fun j h1 h2 => by
  by_cases e : j = k
  · rw [e]; exact hk
  · exact h j h1 (by omega)

end Go.Proofs.Ytppfiacellebkaa
