/- What the promises' laws share: a fixed answer, lists and regions compared, a region drawn. -/
import Derived.Test.YtngececngelohaaDrawR
import Derived.Test.YtngececngelohaaBox
import Derived.Test.YtngececngelohaaDark
import Derived.Test.YtngececngelohaaInts
namespace Go.Proofs.Ytngececngelohaa
open Go.RowKit
set_option linter.unusedVariables false
set_option maxRecDepth 100000
set_option linter.unusedSimpArgs false

theorem alive_any (w : World) : Calls Try.prog 8 #[] w fun e w' => e = .returned (.bool true) ∧ Below w.heap.size w w' := by
  go_enter Try.func8, Try.ntmps8
  go_wp2_with fail
  refine (iRegionBox_yes 2 3 6 _ (by decide) (by decide)).mono ?_; rintro e w1 ⟨g, rfl, ho, hb⟩
  have HM : Hid (many 2 3 (List.replicate 6 true) = 6) := by show _ = _; rfl
  go_wp2_with fail
  refine (iCellsMany_any _ _ _ _ _ (List.replicate 6 true) _ rfl (by simp) (OwnsB.at ho)).mono ?_; rintro e w2 ⟨rfl, hb2⟩
  rw [HM.out]
  go_wp2
  go_ret
  exact ⟨rfl, below_seq hb hb2⟩

/-- A region was drawn of a code. -/
def DrawnX (w : World) (e : Ending) (w' : World) : Prop :=
  ∃ (W T : Int) (a : Option Addr) (n cap : Nat) (xs : List Bool), e = .returned (.agg #[.int .i64 W, .int .i64 T, .slice a n cap]) ∧ n = xs.length ∧ n ≤ 36 ∧ (0 ≤ W ∧ W ≤ 6 ∧ 0 ≤ T ∧ T ≤ 6) ∧ OwnsB w' (w.heap.size + 1) (.slice a n cap) xs ∧ Below w.heap.size w w'

end Go.Proofs.Ytngececngelohaa
