/- Contract of spec.FaultsOf. -/
import Derived.Test.YtagbjhiagkkahaaFaults
namespace Go.Proofs.Ytagbjhiagkkahaa
open Go.RowKit
set_option linter.unusedVariables false
set_option maxRecDepth 100000
set_option linter.unusedSimpArgs false

theorem own_nil_lit (w : World) {B : Nat} (hB : B ≤ w.heap.size) : OwnsI (w.alloc (.cells #[] 3 (0, 0))) B (.slice (some ⟨w.heap.size, 0, none⟩) 0 0) [] :=
  World.ownsRow_made w #[] 0 hB (Nat.zero_le _) rfl

end Go.Proofs.Ytagbjhiagkkahaa
