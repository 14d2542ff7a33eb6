/- Contract of spec.l4Outside: whether all outside hangs together. -/
import Derived.Test.YtbkoailejbenpaaOutsideN
import Derived.Deep.DeepMust
namespace Go.Proofs.Ytbkoailejbenpaa
open Go.RowKit
set_option linter.unusedVariables false
set_option maxRecDepth 100000
set_option linter.unusedSimpArgs false

theorem own_one_lit (w : World) {B : Nat} (z : Int) (hB : B ≤ w.heap.size) : OwnsI (w.alloc (.cells #[.int .i64 z] 3 (0, 0))) B (.slice (some ⟨w.heap.size, 0, none⟩) 1 1) [z] :=
  ⟨rfl, Or.inr ⟨w.heap.size, 1, #[.int .i64 z], rfl, hB, heap_new _ _, Nat.le_refl _, by decide, rfl, rfl⟩⟩
/-- Whether all that does not belong to a region hangs together. -/
def outOne (W T : Int) (xs : List Bool) : Bool := oneMark ((W + 2) * (T + 2)).toNat (outB W T xs) (adjW (W + 2) false)

end Go.Proofs.Ytbkoailejbenpaa
