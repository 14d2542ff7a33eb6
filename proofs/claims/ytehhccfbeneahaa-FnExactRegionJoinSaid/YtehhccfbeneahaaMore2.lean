/- More small facts on lists. -/
import Derived.Test.YtehhccfbeneahaaOwn
namespace Go.Proofs.Ytehhccfbeneahaa
theorem tab_snoc (k : Nat) (f : Nat → Bool) : tab (k + 1) f = tab k f ++ [f k] := by
  unfold tab; rw [List.range_succ, List.map_append]; rfl
end Go.Proofs.Ytehhccfbeneahaa
