/- Contracts of the law's own helpers that measure arguments. -/
import Derived.Test.YtnpmnjmjbpfipaaBase
namespace Go.Proofs.Ytnpmnjmjbpfipaa
open Go.RowKit
set_option linter.unusedVariables false
set_option maxRecDepth 100000
set_option linter.unusedSimpArgs false

def szB (n : Nat) (left : Int) : Int := if left - n < 0 then -1 else left - n

theorem szBoolS_any (a : Option Addr) (n cap : Nat) (left : Int) (w : World) (h0 : 0 ≤ left) (h1 : left ≤ 1048576) (hn : n ≤ maxLen) :
    Calls Try.prog 58 #[.slice a n cap, .int .i64 left] w fun e w' => e = .returned (.int .i64 (szB n left)) ∧ w = w' := by
  unfold maxLen at hn
  by_cases h : left - n < 0
  all_goals
    go_enter Try.func58, Try.ntmps58
    go_wp2
    go_ret
    exact ⟨ret_int (by unfold szB; first | rw [if_pos (by omega)] | rw [if_neg (by omega)]), rfl⟩


set_option maxHeartbeats 400000 in
theorem szRegion_any (W T : Int) (a : Option Addr) (n cap : Nat) (left : Int) (w : World) (h0 : 0 ≤ left) (h1 : left ≤ 1048576) (hn : n ≤ maxLen) :
    Calls Try.prog 26 #[.agg #[.int .i64 W, .int .i64 T, .slice a n cap], .int .i64 left] w fun e w' => e = .returned (.int .i64 (szB n left)) ∧ Below w.heap.size w w' := by
  by_cases h : szB n left < 0
  all_goals
    have h' : Hid (szB n left = szB n left) := rfl
    go_enter Try.func26, Try.ntmps26
    go_wp2_with (go_at_call 58; refine (szBoolS_any _ _ _ _ _ h0 h1 hn).mono ?_; rintro e w1 ⟨rfl, rfl⟩)
    go_outline
    go_ret
    exact ⟨ret_int (by unfold szB at h ⊢; split at h <;> omega), (Below.refl _ _).alloc (Nat.le_refl _) _⟩
end Go.Proofs.Ytnpmnjmjbpfipaa
