/- Plain facts on steps from cell to cell of a field. Merged of: StepM, Step, StepS. -/
import Derived.Test.YthjocjiiihebbaaAt
import Derived.OwnWalk
namespace Go.Proofs.Ythjocjiiihebbaa
open Go.RowKit
set_option linter.unusedVariables false
set_option maxRecDepth 100000
set_option linter.unusedSimpArgs false

/-- How many columns to the east and rows to the north a direction leads. -/
def dxOf (way : Int) : Int := if way = 1 then 1 else if way = 3 then -1 else 0
def dyOf (way : Int) : Int := if way = 2 then 1 else if way = 4 then -1 else 0
def okOf (way : Int) : Bool := decide (1 ≤ way ∧ way ≤ 4)
theorem dx_bd (way : Int) : -1 ≤ dxOf way ∧ dxOf way ≤ 1 := by unfold dxOf; split <;> (try split) <;> omega
theorem dy_bd (way : Int) : -1 ≤ dyOf way ∧ dyOf way ≤ 1 := by unfold dyOf; split <;> (try split) <;> omega

/-- The cell beside a cell of a field. -/
def stepI (W T k way : Int) : Int :=
  if way = 1 ∧ k % W < W - 1 then k + 1
  else if way = 2 ∧ k / W < T - 1 then k + W
  else if way = 3 ∧ 0 < k % W then k - 1
  else if way = 4 ∧ 0 < k / W then k - W else -1

theorem cell_split {W T k : Int} (hW : 1 ≤ W) (hk : 0 ≤ k) (hk1 : k < W * T) : 0 ≤ k % W ∧ k % W < W ∧ 0 ≤ k / W ∧ k / W < T ∧ k / W * W + k % W = k := by
  refine ⟨Int.emod_nonneg _ (by omega), Int.emod_lt_of_pos _ (by omega), Int.ediv_nonneg hk (by omega), ?_, ?_⟩
  · exact Int.ediv_lt_of_lt_mul (by omega) (by rw [Int.mul_comm]; exact hk1)
  · rw [Int.mul_comm]; exact Int.mul_ediv_add_emod k W

theorem step_in {W T k way : Int} (hW : 1 ≤ W) (hk : 0 ≤ k) (hk1 : k < W * T) (ho : okOf way = true) (h : inF W T (k % W + dxOf way) (k / W + dyOf way) = true) :
    (k / W + dyOf way) * W + (k % W + dxOf way) = stepI W T k way := by
  obtain ⟨m1, m2, m3, m4, m5⟩ := cell_split hW hk hk1
  simp only [okOf, decide_eq_true_eq] at ho
  simp only [inF, decide_eq_true_eq] at h
  have : way = 1 ∨ way = 2 ∨ way = 3 ∨ way = 4 := by omega
  rcases this with rfl | rfl | rfl | rfl
  all_goals simp [dxOf, dyOf] at h
  all_goals simp [dxOf, dyOf, stepI, Int.add_mul]
  · rw [if_pos (by omega)]; omega
  · rw [if_pos (by omega)]; omega
  · rw [if_pos (by omega)]; omega
  · rw [if_pos (by omega)]; omega

theorem step_out {W T k way : Int} (hW : 1 ≤ W) (hk : 0 ≤ k) (hk1 : k < W * T) (ho : okOf way = true) (h : inF W T (k % W + dxOf way) (k / W + dyOf way) = false) :
    stepI W T k way = -1 := by
  obtain ⟨m1, m2, m3, m4, m5⟩ := cell_split hW hk hk1
  simp only [okOf, decide_eq_true_eq] at ho
  simp only [inF, decide_eq_false_iff_not] at h
  have : way = 1 ∨ way = 2 ∨ way = 3 ∨ way = 4 := by omega
  rcases this with rfl | rfl | rfl | rfl
  all_goals simp [dxOf, dyOf] at h
  all_goals simp [stepI]
  all_goals omega

theorem step_bad {W T k way : Int} (ho : okOf way = false) : stepI W T k way = -1 := by
  simp only [okOf, decide_eq_false_iff_not] at ho
  unfold stepI
  rw [if_neg (by omega), if_neg (by omega), if_neg (by omega), if_neg (by omega)]

theorem step_bd {W T k way : Int} (hW : 1 ≤ W) (hk : 0 ≤ k) (hk1 : k < W * T) : stepI W T k way = -1 ∨ (0 ≤ stepI W T k way ∧ stepI W T k way < W * T) := by
  obtain ⟨m1, m2, m3, m4, m5⟩ := cell_split hW hk hk1
  unfold stepI
  have r1 : k / W ≤ T - 1 → (k / W) * W ≤ (T - 1) * W := fun h => Int.mul_le_mul_of_nonneg_right h (by omega)
  have r2 : k / W + 1 ≤ T - 1 → (k / W + 1) * W ≤ (T - 1) * W := fun h => Int.mul_le_mul_of_nonneg_right h (by omega)
  have r3 : 1 ≤ k / W → 1 * W ≤ (k / W) * W := fun h => Int.mul_le_mul_of_nonneg_right h (by omega)
  have r0 : 0 ≤ k / W * W := Int.mul_nonneg m3 (by omega)
  have e1 : (T - 1) * W = W * T - W := by rw [Int.sub_mul, Int.mul_comm T W]; omega
  have e2 : (k / W + 1) * W = k / W * W + W := by rw [Int.add_mul]; omega
  split
  · right; omega
  · split
    · right
      have := r2 (by omega)
      omega
    · split
      · right; omega
      · split
        · right
          have := r3 (by omega)
          omega
        · left; rfl

/-- The opposite direction. -/
def backI (way : Int) : Int := (way + 1) % 4 + 1

end Go.Proofs.Ythjocjiiihebbaa

namespace Go.Proofs.Ythjocjiiihebbaa
open Go.RowKit
set_option linter.unusedVariables false
set_option maxRecDepth 100000
set_option linter.unusedSimpArgs false

theorem stepOf_any (way : Int) (w : World) :
    Calls Try.prog 78 #[.int .i64 way] w fun e w' => e = .returned (.tuple #[.int .i64 (dxOf way), .int .i64 (dyOf way), .bool (okOf way)]) ∧ w = w' := by
  by_cases h1 : way = 1
  · subst h1
    go_enter Try.func78, Try.ntmps78
    go_wp2
    go_ret3
    exact ⟨rfl, rfl⟩
  by_cases h2 : way = 2
  · subst h2
    go_enter Try.func78, Try.ntmps78
    go_wp2
    go_ret3
    exact ⟨rfl, rfl⟩
  by_cases h3 : way = 3
  · subst h3
    go_enter Try.func78, Try.ntmps78
    go_wp2
    go_ret3
    exact ⟨rfl, rfl⟩
  by_cases h4 : way = 4
  · subst h4
    go_enter Try.func78, Try.ntmps78
    go_wp2
    go_ret3
    exact ⟨rfl, rfl⟩
  have e1 : dxOf way = 0 := by unfold dxOf; rw [if_neg h1, if_neg h3]
  have e2 : dyOf way = 0 := by unfold dyOf; rw [if_neg h2, if_neg h4]
  have e3 : okOf way = false := by unfold okOf; exact decide_eq_false (by omega)
  rw [e1, e2, e3]
  clear e1 e2 e3
  have b1 : (way == 1) = false := by simpa using h1
  have b2 : (way == 2) = false := by simpa using h2
  have b3 : (way == 3) = false := by simpa using h3
  have b4 : (way == 4) = false := by simpa using h4
  go_enter Try.func78, Try.ntmps78
  go_wp2
  go_ret3
  exact ⟨rfl, rfl⟩

theorem opposite_any (way : Int) (w : World) (h0 : 0 ≤ way) (h1 : way ≤ 1000) :
    Calls Try.prog 91 #[.int .i64 way] w fun e w' => e = .returned (.int .i64 (backI way)) ∧ w = w' := by
  go_enter Try.func91, Try.ntmps91
  go_wp2
  go_ret
  exact ⟨rfl, rfl⟩

theorem l2Back_any (way : Int) (w : World) (h0 : 0 ≤ way) (h1 : way ≤ 1000) :
    Calls Try.prog 76 #[.int .i64 way] w fun e w' => e = .returned (.int .i64 (backI way)) ∧ w = w' := by
  go_enter Try.func76, Try.ntmps76
  go_wp2
  go_ret
  exact ⟨rfl, rfl⟩

/-- The cell beside one that may not be there. -/
def cellB (W T : Int) (n : Nat) (k way : Int) : Int := if 0 ≤ k ∧ k < n then stepI W T k way else -1
theorem stepI_edge {W T k way : Int} (h : stepI W T k way ≠ -1) : okOf way = true := by
  cases ho : okOf way
  · exact absurd (step_bad ho) h
  · rfl

set_option maxHeartbeats 1000000 in
theorem cellBeside_any (W T : Int) (a : Option Addr) (n cap : Nat) (k way : Int) (w : World) (hW0 : 1 ≤ W) (hW1 : W ≤ 6) (hT0 : 1 ≤ T) (hT1 : T ≤ 6) (hWT : (n : Int) = W * T) :
    Calls Try.prog 57 #[.agg #[.int .i64 W, .int .i64 T, .slice a n cap], .int .i64 k, .int .i64 way] w fun e w' => e = .returned (.int .i64 (cellB W T n k way)) ∧ Below w.heap.size w w' := by
  have HWT := Lib.hid hWT; clear hWT
  obtain ⟨dx0, dx1⟩ := dx_bd way
  obtain ⟨dy0, dy1⟩ := dy_bd way
  have pb := (prod_bd (W := W) (T := T) (by omega) (by omega) (by omega) (by omega)).2
  have hn36 : n ≤ 10000 := by have := HWT.out; omega
  by_cases hg : okOf way = true ∧ 0 ≤ k ∧ k < n
  · obtain ⟨ho, h0, h1⟩ := hg
    obtain ⟨m1, m2, m3, m4, m5⟩ := cell_split (W := W) (T := T) hW0 h0 (by rw [← HWT.out]; exact h1)
    have hr : cellB W T n k way = stepI W T k way := by unfold cellB; rw [if_pos ⟨h0, h1⟩]
    rw [hr]
    clear hr
    have hW0' : W ≠ 0 := by omega
    have M5 := Lib.hid m5; clear m5
    obtain ⟨wA, hwA⟩ : ∃ wA, wA = w.alloc (.cells #[.int .i64 W, .int .i64 T, .slice a n cap] 35) := ⟨_, rfl⟩
    have pA : wA.heap[w.heap.size]? = some (.cells #[.int .i64 W, .int .i64 T, .slice a n cap] 35 (0, 0)) := by rw [hwA]; exact heap_new _ _
    have bA : Below w.heap.size w wA := by rw [hwA]; exact below1 _ _
    obtain ⟨d0, d1, d2⟩ := cells3 pA
    have lA := heap_lt pA
    cases hin : inF W T (k % W + dxOf way) (k / W + dyOf way)
    · have HE := Lib.hid (step_out hW0 h0 (by rw [← HWT.out]; exact h1) ho hin)
      have HIN := Lib.hid hin; clear hin
      go_enter Try.func57, Try.ntmps57
      go_wp2_with fail
      refine (stepOf_any _ _).mono ?_; rintro e w1 ⟨rfl, rfl⟩
      rw [ho, ← hwA]
      clear hwA
      go_wp2
      go_quiet (fail)
      have pq : (wA.drewN nq).heap[w.heap.size]? = some _ := pA
      obtain ⟨q0, q1, q2⟩ := cells3 pq
      go_wp2_with fail
      refine (inField_is _ _ _ _ _ _ HIN.out).mono ?_; rintro e w2 ⟨rfl, hb2⟩
      go_wp2
      go_ret
      exact ⟨ret_int HE.out.symm, below_seq bA (below_seq (drewN_below _ _) hb2)⟩
    · have HE := Lib.hid (step_in hW0 h0 (by rw [← HWT.out]; exact h1) ho hin)
      have ⟨g1, g2, g3, g4⟩ : 0 ≤ k % W + dxOf way ∧ k % W + dxOf way < W ∧ 0 ≤ k / W + dyOf way ∧ k / W + dyOf way < T := by simpa [inF] using hin
      obtain ⟨i0, i1, i2⟩ := idx_bd (W := W) (T := T) g1 g2 g3 g4
      have i3 : (k / W + dyOf way) * W ≤ 100000 := by omega
      have HIN := Lib.hid hin; clear hin
      go_enter Try.func57, Try.ntmps57
      go_wp2_with fail
      refine (stepOf_any _ _).mono ?_; rintro e w1 ⟨rfl, rfl⟩
      rw [ho, ← hwA]
      clear hwA
      go_wp2
      go_quiet (fail)
      have pq : (wA.drewN nq).heap[w.heap.size]? = some _ := pA
      obtain ⟨q0, q1, q2⟩ := cells3 pq
      go_wp2_with fail
      refine (inField_is _ _ _ _ _ _ HIN.out).mono ?_; rintro e w2 ⟨rfl, hb2⟩
      have p2 := heap_later pq hb2
      obtain ⟨c0, c1, c2⟩ := cells3 p2
      go_wp2_with fail
      refine (cellAt_any _ _ _ _ (.bool false) _ _ _ _ g1 (by omega) i0 i3).mono ?_; rintro e w3 ⟨rfl, hb3⟩
      go_wp2
      go_ret
      exact ⟨ret_int HE.out, below_seq bA (below_seq (drewN_below _ _) (below_seq hb2 hb3))⟩
  · have hr : cellB W T n k way = -1 := by
      unfold cellB
      by_cases hk : 0 ≤ k ∧ k < n
      · rw [if_pos hk]
        cases ho : okOf way
        · exact step_bad ho
        · exact absurd ⟨ho, hk⟩ hg
      · rw [if_neg hk]
    rw [hr]
    clear hr
    cases ho : okOf way
    · go_enter Try.func57, Try.ntmps57
      go_wp2_with fail
      refine (stepOf_any _ _).mono ?_; rintro e w1 ⟨rfl, rfl⟩
      go_wp2
      go_ret
      exact ⟨rfl, below1 _ _⟩
    · by_cases h0 : k < 0
      · go_enter Try.func57, Try.ntmps57
        go_wp2_with fail
        refine (stepOf_any _ _).mono ?_; rintro e w1 ⟨rfl, rfl⟩
        go_wp2
        go_ret
        exact ⟨rfl, below1 _ _⟩
      · have h1 : (n : Int) ≤ k := by
          apply Classical.byContradiction; intro hc
          exact hg ⟨ho, by omega, by omega⟩
        have h0' : 0 ≤ k := by omega
        clear hg
        go_enter Try.func57, Try.ntmps57
        go_wp2_with fail
        refine (stepOf_any _ _).mono ?_; rintro e w1 ⟨rfl, rfl⟩
        go_wp2
        go_ret
        exact ⟨rfl, below1 _ _⟩

/-- The cell beside one, or -1, in any region. -/
def stepTo (W T : Int) (xs : List Bool) (k way : Int) : Int := if rv W T xs then cellB W T xs.length k way else -1

end Go.Proofs.Ythjocjiiihebbaa

namespace Go.Proofs.Ythjocjiiihebbaa
open Go.RowKit
set_option linter.unusedVariables false
set_option maxRecDepth 100000
set_option linter.unusedSimpArgs false

set_option maxHeartbeats 1000000 in
theorem l2Step_any (W T : Int) (a : Option Addr) (n cap : Nat) (k way : Int) (w : World) (hW0 : 1 ≤ W) (hW1 : W ≤ 6) (hT0 : 1 ≤ T) (hT1 : T ≤ 6) (h0 : 0 ≤ k) (h1 : k < W * T) :
    Calls Try.prog 54 #[.agg #[.int .i64 W, .int .i64 T, .slice a n cap], .int .i64 k, .int .i64 way] w fun e w' => e = .returned (.int .i64 (stepI W T k way)) ∧ Below w.heap.size w w' := by
  have pb := (prod_bd (W := W) (T := T) (by omega) (by omega) (by omega) (by omega)).2
  obtain ⟨m1, m2, m3, m4, m5⟩ := cell_split (W := W) (T := T) hW0 h0 h1
  have e9 : k ≤ 10000 := by omega
  clear m5 h1
  have hW0' : W ≠ 0 := by omega
  by_cases hw1 : way = 1
  · subst hw1
    by_cases hc : k % W < W - 1
    · have hv : stepI W T k 1 = k + 1 := by simp [stepI, hc]
      rw [hv]; clear hv
      go_enter Try.func54, Try.ntmps54
      go_wp2
      go_quiet (fail)
      go_wp2
      go_ret
      first | exact ⟨rfl, below_seq (below1 _ _) (drewN_below _ _)⟩ | exact ⟨rfl, below_seq (below1 _ _) (below_seq (drewN_below _ _) (drewN_below _ _))⟩
    · have hv : stepI W T k 1 = -1 := by simp [stepI]; omega
      rw [hv]; clear hv
      go_enter Try.func54, Try.ntmps54
      go_wp2
      go_quiet (fail)
      go_wp2
      go_quiet (fail)
      go_wp2
      go_ret
      first | exact ⟨rfl, below_seq (below1 _ _) (drewN_below _ _)⟩ | exact ⟨rfl, below_seq (below1 _ _) (below_seq (drewN_below _ _) (drewN_below _ _))⟩
  by_cases hw2 : way = 2
  · subst hw2
    by_cases hc : k / W < T - 1
    · have hv : stepI W T k 2 = k + W := by simp [stepI, hc]
      rw [hv]; clear hv
      go_enter Try.func54, Try.ntmps54
      go_wp2
      go_quiet (fail)
      go_wp2
      go_quiet (fail)
      go_wp2
      go_ret
      first | exact ⟨rfl, below_seq (below1 _ _) (drewN_below _ _)⟩ | exact ⟨rfl, below_seq (below1 _ _) (below_seq (drewN_below _ _) (drewN_below _ _))⟩
    · have hv : stepI W T k 2 = -1 := by simp [stepI]; omega
      rw [hv]; clear hv
      go_enter Try.func54, Try.ntmps54
      go_wp2
      go_quiet (fail)
      go_wp2
      go_quiet (fail)
      go_wp2
      go_ret
      first | exact ⟨rfl, below_seq (below1 _ _) (drewN_below _ _)⟩ | exact ⟨rfl, below_seq (below1 _ _) (below_seq (drewN_below _ _) (drewN_below _ _))⟩
  by_cases hw3 : way = 3
  · subst hw3
    by_cases hc : 0 < k % W
    · have hv : stepI W T k 3 = k - 1 := by simp [stepI, hc]
      rw [hv]; clear hv
      go_enter Try.func54, Try.ntmps54
      go_wp2
      go_quiet (fail)
      go_wp2
      go_quiet (fail)
      go_wp2
      go_ret
      first | exact ⟨rfl, below_seq (below1 _ _) (drewN_below _ _)⟩ | exact ⟨rfl, below_seq (below1 _ _) (below_seq (drewN_below _ _) (drewN_below _ _))⟩
    · have hv : stepI W T k 3 = -1 := by simp [stepI]; omega
      rw [hv]; clear hv
      go_enter Try.func54, Try.ntmps54
      go_wp2
      go_quiet (fail)
      go_wp2
      go_quiet (fail)
      go_wp2
      go_ret
      first | exact ⟨rfl, below_seq (below1 _ _) (drewN_below _ _)⟩ | exact ⟨rfl, below_seq (below1 _ _) (below_seq (drewN_below _ _) (drewN_below _ _))⟩
  by_cases hw4 : way = 4
  · subst hw4
    by_cases hc : 0 < k / W
    · have hv : stepI W T k 4 = k - W := by simp [stepI, hc]
      rw [hv]; clear hv
      go_enter Try.func54, Try.ntmps54
      go_wp2
      go_quiet (fail)
      go_wp2
      go_quiet (fail)
      go_wp2
      go_ret
      first | exact ⟨rfl, below_seq (below1 _ _) (drewN_below _ _)⟩ | exact ⟨rfl, below_seq (below1 _ _) (below_seq (drewN_below _ _) (drewN_below _ _))⟩
    · have hv : stepI W T k 4 = -1 := by simp [stepI]; omega
      rw [hv]; clear hv
      go_enter Try.func54, Try.ntmps54
      go_wp2
      go_quiet (fail)
      go_wp2
      go_quiet (fail)
      go_wp2
      go_ret
      first | exact ⟨rfl, below_seq (below1 _ _) (drewN_below _ _)⟩ | exact ⟨rfl, below_seq (below1 _ _) (below_seq (drewN_below _ _) (drewN_below _ _))⟩
  have hv : stepI W T k way = -1 := by unfold stepI; rw [if_neg (by omega), if_neg (by omega), if_neg (by omega), if_neg (by omega)]
  rw [hv]; clear hv
  have b1 : (way == 1) = false := by simpa using hw1
  have b2 : (way == 2) = false := by simpa using hw2
  have b3 : (way == 3) = false := by simpa using hw3
  have b4 : (way == 4) = false := by simpa using hw4
  go_enter Try.func54, Try.ntmps54
  go_wp2
  go_quiet (fail)
  go_wp2
  go_quiet (fail)
  go_wp2
  go_ret
  first | exact ⟨rfl, below_seq (below1 _ _) (drewN_below _ _)⟩ | exact ⟨rfl, below_seq (below1 _ _) (below_seq (drewN_below _ _) (drewN_below _ _))⟩

end Go.Proofs.Ythjocjiiihebbaa
