/- Contract of impl.RegionTurn. -/
import Derived.Test.YtnpmnjmjbpfipaaTurnMath
import Derived.Test.YtnpmnjmjbpfipaaDark
import Derived.Test.YtnpmnjmjbpfipaaMore
import Derived.Test.YtnpmnjmjbpfipaaBox
namespace Go.Proofs.Ytnpmnjmjbpfipaa
open Go.RowKit
set_option linter.unusedVariables false
set_option maxRecDepth 100000
set_option linter.unusedSimpArgs false

theorem tDst_int {W T k : Nat} (hW : 0 < W) (hk : k < W * T) : (((k : Int) % W) * T + ((T : Int) - 1 - (k : Int) / W)).toNat = tDst W T k := by
  have h1 := div_lt_of hW hk
  have : (((k : Int) % W) * T + ((T : Int) - 1 - (k : Int) / W)) = ((tDst W T k : Nat) : Int) := by
    unfold tDst
    have e : ((T - 1 - k / W : Nat) : Int) = (T : Int) - 1 - ((k / W : Nat) : Int) := by omega
    push_cast
    rw [e]; simp
  rw [this]; simp

end Go.Proofs.Ytnpmnjmjbpfipaa
