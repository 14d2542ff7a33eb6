/- Contracts of impl.heightMay, impl.riseMay, impl.firstCorner, impl.HeightsOk. -/
import Derived.Test.YtpcajacekmidbaaSidesOf
import Derived.Test.YtpcajacekmidbaaSimple
namespace Go.Proofs.Ytpcajacekmidbaa
open Go.RowKit
set_option linter.unusedVariables false
set_option maxRecDepth 100000
set_option linter.unusedSimpArgs false

theorem hasCell_is (W T x y : Int) (a : Option Addr) (n cap : Nat) (xs : List Bool) (w : World) {v : Bool} (hn : n = xs.length) (hW0 : 0 ≤ W) (hW1 : W ≤ 100) (hT0 : 0 ≤ T) (hT1 : T ≤ 100) (hWT : (n : Int) = W * T) (ha : BoolsAt w a xs) (h : atB W T xs x y = v) :
    Calls Try.prog 133 #[.agg #[.int .i64 W, .int .i64 T, .slice a n cap], .int .i64 x, .int .i64 y] w fun e w' => e = .returned (.bool v) ∧ Below w.heap.size w w' := by
  subst h; exact hasCell_any W T x y a n cap xs w hn hW0 hW1 hT0 hT1 hWT ha

theorem jumpOf_any (k kt r cl wy : Int) (b : Bool) (w : World) (hr : r = 1 ∨ r = -1) :
    Calls Try.prog 175 #[.agg #[.int .i64 k, .int .i64 kt, .int .i64 r, .bool b, .int .i64 cl, .int .i64 wy]] w fun e w' => e = .returned (.int .i64 (-3 * r)) ∧ Below w.heap.size w w' := by
  rcases hr with rfl | rfl
  all_goals
    go_enter Try.func175, Try.ntmps175
    go_wp2
    go_ret
    exact ⟨rfl, below1 _ _⟩
end Go.Proofs.Ytpcajacekmidbaa
