/- The law FnExactRegionBox: its walk. -/
import Derived.Test.YtllcojeimnncoaaBoxS
import Derived.Test.YtllcojeimnncoaaLawValid
namespace Go.Proofs.Ytllcojeimnncoaa
open Go.RowKit
set_option linter.unusedVariables false
set_option maxRecDepth 100000
set_option linter.unusedSimpArgs false

def RetReg (w : World) (W T : Int) (n : Nat) (xs : List Bool) (e : Ending) (w' : World) : Prop :=
  ∃ (a : Option Addr) (cap : Nat), e = .returned (.agg #[.int .i64 W, .int .i64 T, .slice a n cap]) ∧ OwnsB w' w.heap.size (.slice a n cap) xs ∧ Below w.heap.size w w'

def boxF (W T : Int) : Int × Int × List Bool := if boxB W T then (W, T, List.replicate (W * T).toNat true) else (0, 0, [])
theorem boxF_len (W T : Int) : (boxF W T).2.2.length ≤ 24 := by
  unfold boxF
  split
  · next h => have := boxB_yes h; simp; omega
  · simp

theorem okq {n : Nat} (h : n ≤ 1048576) : ((1 : Int) + n < 0) = False ∧ ((1 : Int) + n != 1 + n) = false := ⟨by simp; omega, by simp⟩

end Go.Proofs.Ytllcojeimnncoaa
