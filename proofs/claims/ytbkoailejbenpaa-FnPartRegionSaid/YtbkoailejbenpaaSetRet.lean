/- RegionSet, both sides, said by one function. -/
import Derived.Test.YtbkoailejbenpaaBox
import Derived.Test.YtbkoailejbenpaaSetS
namespace Go.Proofs.Ytbkoailejbenpaa
open Go.RowKit
set_option linter.unusedVariables false
set_option maxRecDepth 100000
set_option linter.unusedSimpArgs false

/-- A region and a mark are returned, the region's cells being fresh. -/
def RetRegT (w : World) (W T : Int) (n : Nat) (xs : List Bool) (ok : Bool) (e : Ending) (w' : World) : Prop :=
  ∃ (a : Option Addr) (cap : Nat), e = .returned (.tuple #[.agg #[.int .i64 W, .int .i64 T, .slice a n cap], .bool ok]) ∧ OwnsB w' w.heap.size (.slice a n cap) xs ∧ Below w.heap.size w w'

def setF (W T : Int) (xs : List Bool) (cell : Int) (has : Bool) : Int × Int × List Bool × Bool :=
  if setIn W T xs cell && rv W T (setB xs cell.toNat has) then (W, T, setB xs cell.toNat has, true) else (0, 0, [], false)

theorem setF_len (W T : Int) (xs : List Bool) (cell : Int) (has : Bool) : (setF W T xs cell has).2.2.1.length ≤ xs.length := by
  unfold setF
  split
  · simp [setB, tab_len]
  · simp

end Go.Proofs.Ytbkoailejbenpaa
