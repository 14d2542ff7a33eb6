/- Contracts of impl.marksMany and of both functions PartsMany. -/
import Derived.Test.YtgkkkonmiggohaaParts
namespace Go.Proofs.Ytgkkkonmiggohaa
open Go.RowKit
set_option linter.unusedVariables false
set_option maxRecDepth 100000
set_option linter.unusedSimpArgs false

/-- How many of the first k entries are their own index. -/
def selfN (L : List Int) (k : Nat) : Nat := (List.range k).countP fun i => L.getD i 0 == (i : Int)
theorem selfN_zero (L : List Int) : selfN L 0 = 0 := rfl
theorem selfN_succ (L : List Int) (k : Nat) : selfN L (k + 1) = selfN L k + if L.getD k 0 == (k : Int) then 1 else 0 := by
  unfold selfN; rw [List.range_succ, List.countP_append]; simp [List.countP_cons]
theorem selfN_le (L : List Int) (k : Nat) : selfN L k ≤ k := by
  have := List.countP_le_length (p := fun i => L.getD i 0 == (i : Int)) (l := List.range k)
  rwa [List.length_range] at this

/-- How many parts there are. -/
def partsN (W T : Int) (xs : List Bool) : Int := if rv W T xs then (selfN (partsF W T xs) (partsF W T xs).length : Nat) else -1

end Go.Proofs.Ytgkkkonmiggohaa
