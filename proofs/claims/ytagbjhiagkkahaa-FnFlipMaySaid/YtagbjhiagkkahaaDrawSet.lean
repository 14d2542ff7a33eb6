/- A region, a column and a row are drawn. Merged of: DrawAt, DrawSet. -/
import Derived.Test.YtagbjhiagkkahaaProm
namespace Go.Proofs.Ytagbjhiagkkahaa
open Go.RowKit
set_option linter.unusedVariables false
set_option maxRecDepth 100000
set_option linter.unusedSimpArgs false

def DrawnAt (w : World) (e : Ending) (w' : World) : Prop :=
  ∃ (W T : Int) (a : Option Addr) (n cap : Nat) (xs : List Bool) (x y : Int), e = .returned (.tuple #[.agg #[.int .i64 W, .int .i64 T, .slice a n cap], .int .i64 x, .int .i64 y]) ∧ n = xs.length ∧ n ≤ 36 ∧ (0 ≤ W ∧ W ≤ 6 ∧ 0 ≤ T ∧ T ≤ 6) ∧ (-40 ≤ x ∧ x ≤ 40 ∧ -40 ≤ y ∧ y ≤ 40) ∧ OwnsB w' (w.heap.size + 1) (.slice a n cap) xs ∧ Below w.heap.size w w'

end Go.Proofs.Ytagbjhiagkkahaa

namespace Go.Proofs.Ytagbjhiagkkahaa
open Go.RowKit
set_option linter.unusedVariables false
set_option maxRecDepth 100000
set_option linter.unusedSimpArgs false

theorem pick_i (rb P : Nat) (m : Int) (w : World) (hm0 : 1 ≤ m) (hm1 : m ≤ 1000000) (hP : P ≤ 100000) (h : RD w rb P) :
    Calls Try.prog 45 #[.pointer (some ⟨rb, 0, none⟩), .int .i64 m] w (Picked rb P m.toNat w) := by
  have := pick_any rb P m.toNat w (by omega) (by omega) hP h
  rwa [show ((m.toNat : Nat) : Int) = m by omega] at this
def DrawnCB (w : World) (e : Ending) (w' : World) : Prop :=
  ∃ (W T : Int) (a : Option Addr) (n cap : Nat) (xs : List Bool) (x : Int) (y : Bool), e = .returned (.tuple #[.agg #[.int .i64 W, .int .i64 T, .slice a n cap], .int .i64 x, .bool y]) ∧ n = xs.length ∧ n ≤ 36 ∧ (0 ≤ W ∧ W ≤ 6 ∧ 0 ≤ T ∧ T ≤ 6) ∧ (-40 ≤ x ∧ x ≤ 40) ∧ OwnsB w' (w.heap.size + 1) (.slice a n cap) xs ∧ Below w.heap.size w w'
def DrawnCW (w : World) (e : Ending) (w' : World) : Prop :=
  ∃ (W T : Int) (a : Option Addr) (n cap : Nat) (xs : List Bool) (x y : Int), e = .returned (.tuple #[.agg #[.int .i64 W, .int .i64 T, .slice a n cap], .int .i64 x, .int .i64 y]) ∧ n = xs.length ∧ n ≤ 36 ∧ (0 ≤ W ∧ W ≤ 6 ∧ 0 ≤ T ∧ T ≤ 6) ∧ (-40 ≤ x ∧ x ≤ 40 ∧ 0 ≤ y ∧ y ≤ 5) ∧ OwnsB w' (w.heap.size + 1) (.slice a n cap) xs ∧ Below w.heap.size w w'

end Go.Proofs.Ytagbjhiagkkahaa
