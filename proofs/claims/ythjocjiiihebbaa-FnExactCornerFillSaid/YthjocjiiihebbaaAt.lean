/- Contracts of spec.l1At, impl.hasCell, impl.cellAt, impl.darkAt and of the two functions RegionAt. -/
import Derived.Test.YthjocjiiihebbaaValid
import Derived.Test.YthjocjiiihebbaaOwn
namespace Go.Proofs.Ythjocjiiihebbaa
open Go.RowKit
set_option linter.unusedVariables false
set_option maxRecDepth 100000
set_option linter.unusedSimpArgs false

def inF (W T x y : Int) : Bool := decide (0 ≤ x ∧ x < W ∧ 0 ≤ y ∧ y < T)
def atB (W T : Int) (xs : List Bool) (x y : Int) : Bool := inF W T x y && xs.getD (y * W + x).toNat false

theorem idx_bd {W T x y : Int} (hx0 : 0 ≤ x) (hx1 : x < W) (hy0 : 0 ≤ y) (hy1 : y < T) : 0 ≤ y * W ∧ 0 ≤ y * W + x ∧ y * W + x < W * T := by
  have h1 : 0 ≤ y * W := Int.mul_nonneg hy0 (by omega)
  have h2 : y * W ≤ (T - 1) * W := Int.mul_le_mul_of_nonneg_right (by omega) (by omega)
  have h3 : (T - 1) * W = W * T - W := by rw [Int.sub_mul, Int.mul_comm T W]; omega
  omega

theorem prod_bd {W T : Int} (h0 : 0 ≤ W) (h1 : W ≤ 100) (h2 : 0 ≤ T) (h3 : T ≤ 100) : 0 ≤ W * T ∧ W * T ≤ 10000 := by
  have a : 0 ≤ W * T := Int.mul_nonneg h0 h2
  have b : W * T ≤ 100 * T := Int.mul_le_mul_of_nonneg_right h1 h2
  omega

theorem cellAt_any (W T x y : Int) (sv : Value) (a : Option Addr) (n cap : Nat) (w : World) (hx0 : 0 ≤ x) (hx1 : x ≤ 1000) (hy0 : 0 ≤ y * W) (hy1 : y * W ≤ 100000) :
    Calls Try.prog 80 #[.agg #[.int .i64 W, .int .i64 T, .slice a n cap], .int .i64 x, .int .i64 y] w fun e w' => e = .returned (.int .i64 (y * W + x)) ∧ Below w.heap.size w w' := by
  go_enter Try.func80, Try.ntmps80
  go_wp2
  go_ret
  exact ⟨rfl, below1 _ _⟩

theorem inField_any (W T x y : Int) (sl : Value) (w : World) :
    Calls Try.prog 79 #[.agg #[.int .i64 W, .int .i64 T, sl], .int .i64 x, .int .i64 y] w fun e w' => e = .returned (.bool (inF W T x y)) ∧ Below w.heap.size w w' := by
  by_cases h1 : 0 ≤ x
  · by_cases h2 : x < W
    · by_cases h3 : 0 ≤ y
      · by_cases h4 : y < T
        all_goals
          go_enter Try.func79, Try.ntmps79
          go_wp2
          go_ret
          exact ⟨ret_bool (by simp [inF]; omega), below1 _ _⟩
      · go_enter Try.func79, Try.ntmps79
        go_wp2
        go_ret
        exact ⟨ret_bool (by simp [inF]; omega), below1 _ _⟩
    · go_enter Try.func79, Try.ntmps79
      go_wp2
      go_ret
      exact ⟨ret_bool (by simp [inF]; omega), below1 _ _⟩
  · go_enter Try.func79, Try.ntmps79
    go_wp2
    go_ret
    exact ⟨ret_bool (by simp [inF]; omega), below1 _ _⟩

theorem inField_is (W T x y : Int) (sl : Value) (w : World) {v : Bool} (h : inF W T x y = v) :
    Calls Try.prog 79 #[.agg #[.int .i64 W, .int .i64 T, sl], .int .i64 x, .int .i64 y] w fun e w' => e = .returned (.bool v) ∧ Below w.heap.size w w' := by
  subst h; exact inField_any W T x y sl w

theorem rv_true {W T : Int} {xs : List Bool} (h : rv W T xs = true) : 1 ≤ W ∧ W ≤ 6 ∧ 1 ≤ T ∧ T ≤ 6 ∧ (xs.length : Int) = W * T ∧ cnt xs ≤ 24 := by simpa [rv] using h

def rAt (W T : Int) (xs : List Bool) (x y : Int) : Bool := rv W T xs && atB W T xs x y

end Go.Proofs.Ythjocjiiihebbaa
