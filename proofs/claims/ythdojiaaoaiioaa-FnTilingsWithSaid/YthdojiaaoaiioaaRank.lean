/- Contracts of spec.l2First, spec.l3With and of the two functions RankOf. -/
import Derived.Test.YthdojiaaoaiioaaRankM
import Derived.Test.YthdojiaaoaiioaaLaid
import Derived.Test.YthdojiaaoaiioaaWithS
import Derived.Test.YthdojiaaoaiioaaLayOne
import Derived.Test.YthdojiaaoaiioaaCloneI
import Derived.Test.YthdojiaaoaiioaaFaultsS
namespace Go.Proofs.Ythdojiaaoaiioaa
open Go.RowKit
set_option linter.unusedVariables false
set_option maxRecDepth 100000
set_option linter.unusedSimpArgs false

theorem RInv.skips {W T : Int} {xs : List Bool} {L M : List Int} {c : Nat} {ys : List Bool} (h : RInv W T xs L c M ys) : ∀ d, (∀ j, c ≤ j → j < c + d → ys.getD j false = false) → RInv W T xs L (c + d) M ys
  | 0, _ => h
  | d + 1, hz => (RInv.skips h d (fun j h1 h2 => hz j h1 (by omega))).skip (hz (c + d) (by omega) (by omega))
theorem rest_step {W T : Int} {xs : List Bool} {L : List Int} {f : Nat} {ys : List Bool} (e : ys = restN W T xs L f) (hy : ys.getD f false = true) :
    takeB W T ys f (L.getD f 0) = restN W T xs L (f + 1) ∧ rankN W T xs L (f + 1) = rankN W T xs L f + (if L.getD f 0 = 2 then withN W T ys f 1 else 0) := by
  have e1 : restN W T xs L (f + 1) = if (restN W T xs L f).getD f false = true then takeB W T (restN W T xs L f) f (L.getD f 0) else restN W T xs L f := rfl
  have e2 : rankN W T xs L (f + 1) = rankN W T xs L f + (if (restN W T xs L f).getD f false = true ∧ L.getD f 0 = 2 then withN W T (restN W T xs L f) f 1 else 0) := rfl
  rw [e1, e2, ← e, if_pos hy]
  refine ⟨rfl, ?_⟩
  by_cases h2 : L.getD f 0 = 2
  · rw [if_pos h2, if_pos ⟨hy, h2⟩]
  · rw [if_neg h2, if_neg (fun q => h2 q.2)]

end Go.Proofs.Ythdojiaaoaiioaa
