/- More small facts on lists. -/
import Derived.Test.YtlgmnceicnhhnaaOwn
namespace Go.Proofs.Ytlgmnceicnhhnaa
theorem tab_snoc (k : Nat) (f : Nat → Bool) : tab (k + 1) f = tab k f ++ [f k] := by
  unfold tab; rw [List.range_succ, List.map_append]; rfl
end Go.Proofs.Ytlgmnceicnhhnaa
