/- Contract of impl.LaidOk. -/
import Derived.Test.YtppfiacellebkaaLaid
namespace Go.Proofs.Ytppfiacellebkaa
open Go.RowKit
set_option linter.unusedVariables false
set_option maxRecDepth 100000
set_option linter.unusedSimpArgs false

theorem good_zero {W T : Int} {xs : List Bool} {L : List Int} {k : Nat} (h : L.getD k 0 = 0) : goodB W T xs L k = true := by unfold goodB; rw [h]; rfl
theorem good_both {W T : Int} {xs : List Bool} {L : List Int} {k : Nat} (h : L.getD k 0 ≠ 0) : goodB W T xs L k = bothB W T xs L k := by
  unfold goodB; rw [show (L.getD k 0 == 0) = false by simpa using h]; rfl
theorem lok_no {W T : Int} {xs : List Bool} {L : List Int} {k : Nat} (hk : k < L.length) (h : goodB W T xs L k = false) : lok W T xs L = false := by
  unfold lok; rw [goodN_false hk h]; simp
theorem lok_yes {W T : Int} {xs : List Bool} {L : List Int} (h : rv W T xs = true) (hl : L.length = xs.length) (hg : goodN W T xs L L.length = true) : lok W T xs L = true := by
  unfold lok; rw [h, hg, hl]; simp

end Go.Proofs.Ytppfiacellebkaa
