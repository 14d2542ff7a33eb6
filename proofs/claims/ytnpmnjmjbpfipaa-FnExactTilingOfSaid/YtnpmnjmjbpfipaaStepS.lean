/- Contracts of spec.l2Step and spec.StepTo. -/
import Derived.Test.YtnpmnjmjbpfipaaStep
namespace Go.Proofs.Ytnpmnjmjbpfipaa
open Go.RowKit
set_option linter.unusedVariables false
set_option maxRecDepth 100000
set_option linter.unusedSimpArgs false

set_option maxHeartbeats 1000000 in
theorem l2Step_any (W T : Int) (a : Option Addr) (n cap : Nat) (k way : Int) (w : World) (hW0 : 1 ≤ W) (hW1 : W ≤ 6) (hT0 : 1 ≤ T) (hT1 : T ≤ 6) (h0 : 0 ≤ k) (h1 : k < W * T) :
    Calls Try.prog 60 #[.agg #[.int .i64 W, .int .i64 T, .slice a n cap], .int .i64 k, .int .i64 way] w fun e w' => e = .returned (.int .i64 (stepI W T k way)) ∧ Below w.heap.size w w' := by
  have pb := (prod_bd (W := W) (T := T) (by omega) (by omega) (by omega) (by omega)).2
  obtain ⟨m1, m2, m3, m4, m5⟩ := cell_split (W := W) (T := T) hW0 h0 h1
  have e9 : k ≤ 10000 := by omega
  clear m5 h1
  have hW0' : W ≠ 0 := by omega
  by_cases hw1 : way = 1
  · subst hw1
    by_cases hc : k % W < W - 1
    · have hv : stepI W T k 1 = k + 1 := by simp [stepI, hc]
      rw [hv]; clear hv
      go_enter Try.func60, Try.ntmps60
      go_wp2
      go_quiet (fail)
      go_wp2
      go_ret
      first | exact ⟨rfl, below_seq (below1 _ _) (drewN_below _ _)⟩ | exact ⟨rfl, below_seq (below1 _ _) (below_seq (drewN_below _ _) (drewN_below _ _))⟩
    · have hv : stepI W T k 1 = -1 := by simp [stepI]; omega
      rw [hv]; clear hv
      go_enter Try.func60, Try.ntmps60
      go_wp2
      go_quiet (fail)
      go_wp2
      go_quiet (fail)
      go_wp2
      go_ret
      first | exact ⟨rfl, below_seq (below1 _ _) (drewN_below _ _)⟩ | exact ⟨rfl, below_seq (below1 _ _) (below_seq (drewN_below _ _) (drewN_below _ _))⟩
  by_cases hw2 : way = 2
  · subst hw2
    by_cases hc : k / W < T - 1
    · have hv : stepI W T k 2 = k + W := by simp [stepI, hc]
      rw [hv]; clear hv
      go_enter Try.func60, Try.ntmps60
      go_wp2
      go_quiet (fail)
      go_wp2
      go_quiet (fail)
      go_wp2
      go_ret
      first | exact ⟨rfl, below_seq (below1 _ _) (drewN_below _ _)⟩ | exact ⟨rfl, below_seq (below1 _ _) (below_seq (drewN_below _ _) (drewN_below _ _))⟩
    · have hv : stepI W T k 2 = -1 := by simp [stepI]; omega
      rw [hv]; clear hv
      go_enter Try.func60, Try.ntmps60
      go_wp2
      go_quiet (fail)
      go_wp2
      go_quiet (fail)
      go_wp2
      go_ret
      first | exact ⟨rfl, below_seq (below1 _ _) (drewN_below _ _)⟩ | exact ⟨rfl, below_seq (below1 _ _) (below_seq (drewN_below _ _) (drewN_below _ _))⟩
  by_cases hw3 : way = 3
  · subst hw3
    by_cases hc : 0 < k % W
    · have hv : stepI W T k 3 = k - 1 := by simp [stepI, hc]
      rw [hv]; clear hv
      go_enter Try.func60, Try.ntmps60
      go_wp2
      go_quiet (fail)
      go_wp2
      go_quiet (fail)
      go_wp2
      go_ret
      first | exact ⟨rfl, below_seq (below1 _ _) (drewN_below _ _)⟩ | exact ⟨rfl, below_seq (below1 _ _) (below_seq (drewN_below _ _) (drewN_below _ _))⟩
    · have hv : stepI W T k 3 = -1 := by simp [stepI]; omega
      rw [hv]; clear hv
      go_enter Try.func60, Try.ntmps60
      go_wp2
      go_quiet (fail)
      go_wp2
      go_quiet (fail)
      go_wp2
      go_ret
      first | exact ⟨rfl, below_seq (below1 _ _) (drewN_below _ _)⟩ | exact ⟨rfl, below_seq (below1 _ _) (below_seq (drewN_below _ _) (drewN_below _ _))⟩
  by_cases hw4 : way = 4
  · subst hw4
    by_cases hc : 0 < k / W
    · have hv : stepI W T k 4 = k - W := by simp [stepI, hc]
      rw [hv]; clear hv
      go_enter Try.func60, Try.ntmps60
      go_wp2
      go_quiet (fail)
      go_wp2
      go_quiet (fail)
      go_wp2
      go_ret
      first | exact ⟨rfl, below_seq (below1 _ _) (drewN_below _ _)⟩ | exact ⟨rfl, below_seq (below1 _ _) (below_seq (drewN_below _ _) (drewN_below _ _))⟩
    · have hv : stepI W T k 4 = -1 := by simp [stepI]; omega
      rw [hv]; clear hv
      go_enter Try.func60, Try.ntmps60
      go_wp2
      go_quiet (fail)
      go_wp2
      go_quiet (fail)
      go_wp2
      go_ret
      first | exact ⟨rfl, below_seq (below1 _ _) (drewN_below _ _)⟩ | exact ⟨rfl, below_seq (below1 _ _) (below_seq (drewN_below _ _) (drewN_below _ _))⟩
  have hv : stepI W T k way = -1 := by unfold stepI; rw [if_neg (by omega), if_neg (by omega), if_neg (by omega), if_neg (by omega)]
  rw [hv]; clear hv
  have b1 : (way == 1) = false := by simpa using hw1
  have b2 : (way == 2) = false := by simpa using hw2
  have b3 : (way == 3) = false := by simpa using hw3
  have b4 : (way == 4) = false := by simpa using hw4
  go_enter Try.func60, Try.ntmps60
  go_wp2
  go_quiet (fail)
  go_wp2
  go_quiet (fail)
  go_wp2
  go_ret
  first | exact ⟨rfl, below_seq (below1 _ _) (drewN_below _ _)⟩ | exact ⟨rfl, below_seq (below1 _ _) (below_seq (drewN_below _ _) (drewN_below _ _))⟩

end Go.Proofs.Ytnpmnjmjbpfipaa
