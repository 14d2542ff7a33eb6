/- Contracts of spec.l20Heights and of the draws that use it, or two tilings. -/
import Derived.Test.YtknigcjpgkolgaaKInts
import Derived.Deep.DeepCutAuto
import Derived.Deep.AppendLies
import Derived.Laws.OwnMore
import Derived.Laws.CopyOwn
import Derived.Deep.DeepMust
import Derived.Deep.CutBlock
import Derived.ArgAppend
import Derived.Deep.LoopGhost
import Derived.Deep.RegionLaw
import Derived.Laws.Bits64b
import Derived.Maps.AppendAt
import Derived.Maps.RangeWalk
import Derived.Maps.OwnOps
import Derived.Maps.Ext
namespace Go.Proofs.Ytknigcjpgkolgaa
open Go.RowKit
set_option linter.unusedVariables false
set_option maxRecDepth 100000
set_option linter.unusedSimpArgs false

def DrawnRLh (w : World) (e : Ending) (w' : World) : Prop :=
  ∃ (W T : Int) (a : Option Addr) (n cap : Nat) (xs : List Bool) (la : Option Addr) (m lcap : Nat) (L : List Int), e = .returned (.tuple #[.agg #[.int .i64 W, .int .i64 T, .slice a n cap], .slice la m lcap]) ∧
    n = xs.length ∧ n ≤ 36 ∧ (0 ≤ W ∧ W ≤ 6 ∧ 0 ≤ T ∧ T ≤ 6) ∧ OwnsB w' w.heap.size (.slice a n cap) xs ∧ m = L.length ∧ m ≤ 49 ∧ OwnsI w' w.heap.size (.slice la m lcap) L ∧ Below w.heap.size w w'
end Go.Proofs.Ytknigcjpgkolgaa
