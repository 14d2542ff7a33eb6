/- Contracts of the two functions CellsMany. Merged of: Many, Dark. -/
import Derived.Test.YtgfeemghpdeblaaAt
namespace Go.Proofs.Ytgfeemghpdeblaa
open Go.RowKit
set_option linter.unusedVariables false
set_option maxRecDepth 100000
set_option linter.unusedSimpArgs false

def many (W T : Int) (xs : List Bool) : Int := if rv W T xs then cnt xs else -1

end Go.Proofs.Ytgfeemghpdeblaa

namespace Go.Proofs.Ytgfeemghpdeblaa
open Go.RowKit
set_option linter.unusedVariables false
set_option maxRecDepth 100000
set_option linter.unusedSimpArgs false

/-- Whether the k-th cell is dark, in a field that is W cells wide. -/
def dkAt (W : Int) (k : Nat) : Bool := ((k : Int) % W + (k : Int) / W) % 2 == 0
def dkN (W : Int) (xs : List Bool) (k : Nat) : Nat := (List.range k).countP fun i => xs.getD i false && dkAt W i
theorem dkN_succ (W : Int) (xs : List Bool) (k : Nat) : dkN W xs (k + 1) = dkN W xs k + if xs.getD k false && dkAt W k then 1 else 0 := by
  unfold dkN
  rw [List.range_succ, List.countP_append]
  simp [List.countP_cons]
theorem dkN_le (W : Int) (xs : List Bool) (k : Nat) : dkN W xs k ≤ k := by
  have := List.countP_le_length (p := fun i => xs.getD i false && dkAt W i) (l := List.range k)
  rw [List.length_range] at this; exact this
def dark (W T : Int) (xs : List Bool) : Int := if rv W T xs then dkN W xs xs.length else -1

theorem divmod_bd {W : Int} {k : Nat} (h : 1 ≤ W) : 0 ≤ (k : Int) % W ∧ (k : Int) % W < W ∧ 0 ≤ (k : Int) / W ∧ (k : Int) / W ≤ k :=
  ⟨Int.emod_nonneg _ (by omega), Int.emod_lt_of_pos _ (by omega), Int.ediv_nonneg (by omega) (by omega), Int.ediv_le_self _ (by omega)⟩

theorem darkAt_any (x y : Int) (w : World) (hx : 0 ≤ x) (hx1 : x ≤ 10000000) (hy : 0 ≤ y) (hy1 : y ≤ 10000000) :
    Calls Try.prog 110 #[.int .i64 x, .int .i64 y] w fun e w' => e = .returned (.bool ((x + y) % 2 == 0)) ∧ w' = w := by
  go_enter Try.func110, Try.ntmps110
  go_wp2
  go_ret
  exact ⟨rfl, rfl⟩

theorem darkAt_eq (x y X Y : Int) (w : World) (ex : x = X) (ey : y = Y) (hx : 0 ≤ X) (hx1 : X ≤ 10000000) (hy : 0 ≤ Y) (hy1 : Y ≤ 10000000) :
    Calls Try.prog 110 #[.int .i64 x, .int .i64 y] w fun e w' => e = .returned (.bool ((X + Y) % 2 == 0)) ∧ w' = w := by
  subst ex; subst ey; exact darkAt_any x y w hx hx1 hy hy1

end Go.Proofs.Ytgfeemghpdeblaa
