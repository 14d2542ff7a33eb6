/- Contracts of impl.countWay and of impl.LaidMany, impl.FlatMany. Merged of: LaidN, LaidNS. -/
import Derived.Test.YthjocjiiihebbaaLaid
namespace Go.Proofs.Ythjocjiiihebbaa
open Go.RowKit
set_option linter.unusedVariables false
set_option maxRecDepth 100000
set_option linter.unusedSimpArgs false

theorem wayN_hit {L : List Int} {way : Int} {k : Nat} {v : Int} (hv : v = L.getD k 0) (h : (v == way) = true) : wayN L way (k + 1) = wayN L way k + 1 := by
  rw [wayN_succ, ← hv, h]; rfl
theorem wayN_miss {L : List Int} {way : Int} {k : Nat} {v : Int} (hv : v = L.getD k 0) (h : (v == way) = false) : wayN L way (k + 1) = wayN L way k := by
  rw [wayN_succ, ← hv, h]; rfl

end Go.Proofs.Ythjocjiiihebbaa

namespace Go.Proofs.Ythjocjiiihebbaa
open Go.RowKit
set_option linter.unusedVariables false
set_option maxRecDepth 100000
set_option linter.unusedSimpArgs false

theorem lok_len {W T : Int} {xs : List Bool} {L : List Int} (h : lok W T xs L = true) : L.length = xs.length := (lok_rv h).2.1

end Go.Proofs.Ythjocjiiihebbaa
