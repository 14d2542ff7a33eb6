/- Contract of impl.RegionFlip. -/
import Derived.Test.YtpcajacekmidbaaTurn
import Derived.Test.YtpcajacekmidbaaDark
import Derived.Test.YtpcajacekmidbaaOwn
import Derived.Test.YtpcajacekmidbaaBox
namespace Go.Proofs.Ytpcajacekmidbaa
open Go.RowKit
set_option linter.unusedVariables false
set_option maxRecDepth 100000
set_option linter.unusedSimpArgs false

theorem fIdx_int {W k : Nat} (hW : 0 < W) : (((k : Int) / W) * W + ((W : Int) - 1 - (k : Int) % W)).toNat = fIdx W k := by
  have h1 := Nat.mod_lt k hW
  have : (((k : Int) / W) * W + ((W : Int) - 1 - (k : Int) % W)) = ((fIdx W k : Nat) : Int) := by
    unfold fIdx
    have e : ((W - 1 - k % W : Nat) : Int) = (W : Int) - 1 - ((k % W : Nat) : Int) := by omega
    push_cast
    rw [e]; simp
  rw [this]; simp

end Go.Proofs.Ytpcajacekmidbaa
