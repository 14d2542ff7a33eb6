/- Contracts of spec.Complete and spec.TilingFirst. -/
import Derived.Test.YthlagmnnkckcnaaComp
import Derived.Test.YthlagmnnkckcnaaCloneI
import Derived.Test.YthlagmnnkckcnaaSetS
import Derived.Test.YthlagmnnkckcnaaTill
namespace Go.Proofs.Ythlagmnnkckcnaa
open Go.RowKit
set_option linter.unusedVariables false
set_option maxRecDepth 100000
set_option linter.unusedSimpArgs false

def compF (W T : Int) (xs : List Bool) (L : List Int) : List Int × Bool := if lok W T xs L then compL W T xs (xs.length + 1) L else ([], false)
theorem compF_len (W T : Int) (xs : List Bool) (L : List Int) : (compF W T xs L).1.length ≤ L.length := by
  unfold compF; split
  · exact compL_len _ _ _ _ _
  · simp

def firstF (W T : Int) (xs : List Bool) : List Int × Bool := compF W T xs (bareL W T xs)
theorem firstF_len (W T : Int) (xs : List Bool) : (firstF W T xs).1.length ≤ xs.length := by
  refine Nat.le_trans (compF_len _ _ _ _) ?_
  unfold bareL; split <;> simp

end Go.Proofs.Ythlagmnnkckcnaa
