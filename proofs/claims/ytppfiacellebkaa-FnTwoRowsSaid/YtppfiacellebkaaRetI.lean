/- Functions that return a list of integers of the call's own, alone or with a mark beside it. -/
import Derived.Test.YtppfiacellebkaaInts
namespace Go.Proofs.Ytppfiacellebkaa
open Go.RowKit
set_option linter.unusedVariables false
set_option maxRecDepth 100000

/-- The call returns a list of its own, with n entries. -/
def RetL (w : World) (n : Nat) (ys : List Int) (e : Ending) (w' : World) : Prop :=
  ∃ a cap, e = .returned (.slice a n cap) ∧ OwnsI w' w.heap.size (.slice a n cap) ys ∧ Below w.heap.size w w'
def RetLT (w : World) (n : Nat) (ys : List Int) (ok : Bool) (e : Ending) (w' : World) : Prop :=
  ∃ a cap, e = .returned (.tuple #[.slice a n cap, .bool ok]) ∧ OwnsI w' w.heap.size (.slice a n cap) ys ∧ Below w.heap.size w w'
end Go.Proofs.Ytppfiacellebkaa
