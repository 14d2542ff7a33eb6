/- Functions that return a list of integers of the call's own, alone or with a mark beside it. -/
import Derived.Test.YtnpmnjmjbpfipaaInts
namespace Go.Proofs.Ytnpmnjmjbpfipaa
open Go.RowKit
set_option linter.unusedVariables false
set_option maxRecDepth 100000

/-- The call returns a list of its own, with n entries. -/
def RetL (w : World) (n : Nat) (ys : List Int) (e : Ending) (w' : World) : Prop :=
  ∃ a cap, e = .returned (.slice a n cap) ∧ OwnsI w' w.heap.size (.slice a n cap) ys ∧ Below w.heap.size w w'
def RetLT (w : World) (n : Nat) (ys : List Int) (ok : Bool) (e : Ending) (w' : World) : Prop :=
  ∃ a cap, e = .returned (.tuple #[.slice a n cap, .bool ok]) ∧ OwnsI w' w.heap.size (.slice a n cap) ys ∧ Below w.heap.size w w'
theorem eqIntS_below (a b : Option Addr) (n cap cap' : Nat) (xs : List Int) (w : World) (hn : n = xs.length) (hn' : n ≤ 1048576) (ha : IntsAt w a xs) (hb : IntsAt w b xs) :
    Calls Try.prog 35 #[.slice a n cap, .slice b n cap'] w fun e w' => e = .returned (.bool true) ∧ Below w.heap.size w w' :=
  (eqIntS_same a b n cap cap' xs w hn hn' ha hb).mono fun _ _ ⟨h, q, hq⟩ => ⟨h, by rw [hq]; exact drewN_below _ _⟩
theorem heldIntS_below (a : Option Addr) (n cap : Nat) (k : Int) (w : World) (hn' : n ≤ 1048576) (hk0 : 0 ≤ k) (hk1 : k ≤ 4194304) (ha : IntsAt w a (marksI n k)) :
    Calls Try.prog 38 #[.slice a n cap, .int .i64 k] w fun e w' => e = .returned (.int .i64 (k + n)) ∧ Below w.heap.size w w' :=
  (heldIntS_marksI a n cap k w hn' hk0 hk1 ha).mono fun _ _ ⟨h, q, hq⟩ => ⟨h, by rw [hq]; exact drewN_below _ _⟩
end Go.Proofs.Ytnpmnjmjbpfipaa
