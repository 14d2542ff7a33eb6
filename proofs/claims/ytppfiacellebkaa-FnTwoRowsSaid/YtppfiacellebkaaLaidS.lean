/- Contract of spec.LaidOk. -/
import Derived.Test.YtppfiacellebkaaLaidI
namespace Go.Proofs.Ytppfiacellebkaa
open Go.RowKit
set_option linter.unusedVariables false
set_option maxRecDepth 100000
set_option linter.unusedSimpArgs false

theorem inB_way (wy : Int) : inB wy 1 4 = okOf wy := rfl
theorem both_no {W T : Int} {xs : List Bool} {L : List Int} {k : Nat} (h : okOf (L.getD k 0) = false) : bothB W T xs L k = false := by
  unfold bothB; rw [step_bad h]; rfl
theorem both_off {W T : Int} {xs : List Bool} {L : List Int} {k : Nat} (h : xs.getD k false = false) : bothB W T xs L k = false := by
  unfold bothB; rw [h]; simp
end Go.Proofs.Ytppfiacellebkaa
