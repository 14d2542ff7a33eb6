/- Contract of spec.TilingOk. -/
import Derived.Test.YtppfiacellebkaaFree
namespace Go.Proofs.Ytppfiacellebkaa
open Go.RowKit
set_option linter.unusedVariables false
set_option maxRecDepth 100000
set_option linter.unusedSimpArgs false

theorem tok_lok {W T : Int} {xs : List Bool} {L : List Int} (h : lok W T xs L = false) : tok W T xs L = false := by unfold tok; rw [h]; rfl
theorem tok_hit {W T : Int} {xs : List Bool} {L : List Int} {k : Nat} (hk : k < L.length) (hn : NoFree xs L 0 k) (hf : freeB xs L k = true) : tok W T xs L = false := by
  unfold tok; rw [first_some (Nat.zero_le _) hk hn hf]; simp
theorem tok_all {W T : Int} {xs : List Bool} {L : List Int} (h : lok W T xs L = true) (hn : NoFree xs L 0 L.length) : tok W T xs L = true := by
  unfold tok; rw [first_none hn, h]; rfl
theorem free_off {xs : List Bool} {L : List Int} {k : Nat} (h : xs.getD k false = false) : freeB xs L k = false := by unfold freeB; rw [h]; rfl
theorem free_on {xs : List Bool} {L : List Int} {k : Nat} (h : xs.getD k false = true) {v : Int} (hv : v = L.getD k 0) : freeB xs L k = (v == 0) := by unfold freeB; rw [h, ← hv]; rfl

end Go.Proofs.Ytppfiacellebkaa
