/- Contracts of impl.stepOf, impl.cellBeside, impl.opposite, spec.l2Step, spec.l2Back and of the two functions StepTo. -/
import Derived.Test.YtnpmnjmjbpfipaaStepM
import Derived.OwnWalk
namespace Go.Proofs.Ytnpmnjmjbpfipaa
open Go.RowKit
set_option linter.unusedVariables false
set_option maxRecDepth 100000
set_option linter.unusedSimpArgs false

theorem stepOf_any (way : Int) (w : World) :
    Calls Try.prog 108 #[.int .i64 way] w fun e w' => e = .returned (.tuple #[.int .i64 (dxOf way), .int .i64 (dyOf way), .bool (okOf way)]) ∧ w = w' := by
  by_cases h1 : way = 1
  · subst h1
    go_enter Try.func108, Try.ntmps108
    go_wp2
    go_ret3
    exact ⟨rfl, rfl⟩
  by_cases h2 : way = 2
  · subst h2
    go_enter Try.func108, Try.ntmps108
    go_wp2
    go_ret3
    exact ⟨rfl, rfl⟩
  by_cases h3 : way = 3
  · subst h3
    go_enter Try.func108, Try.ntmps108
    go_wp2
    go_ret3
    exact ⟨rfl, rfl⟩
  by_cases h4 : way = 4
  · subst h4
    go_enter Try.func108, Try.ntmps108
    go_wp2
    go_ret3
    exact ⟨rfl, rfl⟩
  have e1 : dxOf way = 0 := by unfold dxOf; rw [if_neg h1, if_neg h3]
  have e2 : dyOf way = 0 := by unfold dyOf; rw [if_neg h2, if_neg h4]
  have e3 : okOf way = false := by unfold okOf; exact decide_eq_false (by omega)
  rw [e1, e2, e3]
  clear e1 e2 e3
  have b1 : (way == 1) = false := by simpa using h1
  have b2 : (way == 2) = false := by simpa using h2
  have b3 : (way == 3) = false := by simpa using h3
  have b4 : (way == 4) = false := by simpa using h4
  go_enter Try.func108, Try.ntmps108
  go_wp2
  go_ret3
  exact ⟨rfl, rfl⟩

theorem opposite_any (way : Int) (w : World) (h0 : 0 ≤ way) (h1 : way ≤ 1000) :
    Calls Try.prog 102 #[.int .i64 way] w fun e w' => e = .returned (.int .i64 (backI way)) ∧ w = w' := by
  go_enter Try.func102, Try.ntmps102
  go_wp2
  go_ret
  exact ⟨rfl, rfl⟩

theorem l2Back_any (way : Int) (w : World) (h0 : 0 ≤ way) (h1 : way ≤ 1000) :
    Calls Try.prog 96 #[.int .i64 way] w fun e w' => e = .returned (.int .i64 (backI way)) ∧ w = w' := by
  go_enter Try.func96, Try.ntmps96
  go_wp2
  go_ret
  exact ⟨rfl, rfl⟩

/-- The cell beside one that may not be there. -/
def cellB (W T : Int) (n : Nat) (k way : Int) : Int := if 0 ≤ k ∧ k < n then stepI W T k way else -1
theorem stepI_edge {W T k way : Int} (h : stepI W T k way ≠ -1) : okOf way = true := by
  cases ho : okOf way
  · exact absurd (step_bad ho) h
  · rfl

set_option maxHeartbeats 1000000 in
theorem cellBeside_any (W T : Int) (a : Option Addr) (n cap : Nat) (k way : Int) (w : World) (hW0 : 1 ≤ W) (hW1 : W ≤ 6) (hT0 : 1 ≤ T) (hT1 : T ≤ 6) (hWT : (n : Int) = W * T) :
    Calls Try.prog 100 #[.agg #[.int .i64 W, .int .i64 T, .slice a n cap], .int .i64 k, .int .i64 way] w fun e w' => e = .returned (.int .i64 (cellB W T n k way)) ∧ Below w.heap.size w w' := by
  have HWT := Lib.hid hWT; clear hWT
  obtain ⟨dx0, dx1⟩ := dx_bd way
  obtain ⟨dy0, dy1⟩ := dy_bd way
  have pb := (prod_bd (W := W) (T := T) (by omega) (by omega) (by omega) (by omega)).2
  have hn36 : n ≤ 10000 := by have := HWT.out; omega
  by_cases hg : okOf way = true ∧ 0 ≤ k ∧ k < n
  · obtain ⟨ho, h0, h1⟩ := hg
    obtain ⟨m1, m2, m3, m4, m5⟩ := cell_split (W := W) (T := T) hW0 h0 (by rw [← HWT.out]; exact h1)
    have hr : cellB W T n k way = stepI W T k way := by unfold cellB; rw [if_pos ⟨h0, h1⟩]
    rw [hr]
    clear hr
    have hW0' : W ≠ 0 := by omega
    have M5 := Lib.hid m5; clear m5
    obtain ⟨wA, hwA⟩ : ∃ wA, wA = w.alloc (.cells #[.int .i64 W, .int .i64 T, .slice a n cap] 35) := ⟨_, rfl⟩
    have pA : wA.heap[w.heap.size]? = some (.cells #[.int .i64 W, .int .i64 T, .slice a n cap] 35 (0, 0)) := by rw [hwA]; exact heap_new _ _
    have bA : Below w.heap.size w wA := by rw [hwA]; exact below1 _ _
    obtain ⟨d0, d1, d2⟩ := cells3 pA
    have lA := heap_lt pA
    cases hin : inF W T (k % W + dxOf way) (k / W + dyOf way)
    · have HE := Lib.hid (step_out hW0 h0 (by rw [← HWT.out]; exact h1) ho hin)
      have HIN := Lib.hid hin; clear hin
      go_enter Try.func100, Try.ntmps100
      go_wp2_with fail
      refine (stepOf_any _ _).mono ?_; rintro e w1 ⟨rfl, rfl⟩
      rw [ho, ← hwA]
      clear hwA
      go_wp2
      go_quiet (fail)
      have pq : (wA.drewN nq).heap[w.heap.size]? = some _ := pA
      obtain ⟨q0, q1, q2⟩ := cells3 pq
      go_wp2_with fail
      refine (inField_is _ _ _ _ _ _ HIN.out).mono ?_; rintro e w2 ⟨rfl, hb2⟩
      go_wp2
      go_ret
      exact ⟨ret_int HE.out.symm, below_seq bA (below_seq (drewN_below _ _) hb2)⟩
    · have HE := Lib.hid (step_in hW0 h0 (by rw [← HWT.out]; exact h1) ho hin)
      have ⟨g1, g2, g3, g4⟩ : 0 ≤ k % W + dxOf way ∧ k % W + dxOf way < W ∧ 0 ≤ k / W + dyOf way ∧ k / W + dyOf way < T := by simpa [inF] using hin
      obtain ⟨i0, i1, i2⟩ := idx_bd (W := W) (T := T) g1 g2 g3 g4
      have i3 : (k / W + dyOf way) * W ≤ 100000 := by omega
      have HIN := Lib.hid hin; clear hin
      go_enter Try.func100, Try.ntmps100
      go_wp2_with fail
      refine (stepOf_any _ _).mono ?_; rintro e w1 ⟨rfl, rfl⟩
      rw [ho, ← hwA]
      clear hwA
      go_wp2
      go_quiet (fail)
      have pq : (wA.drewN nq).heap[w.heap.size]? = some _ := pA
      obtain ⟨q0, q1, q2⟩ := cells3 pq
      go_wp2_with fail
      refine (inField_is _ _ _ _ _ _ HIN.out).mono ?_; rintro e w2 ⟨rfl, hb2⟩
      have p2 := heap_later pq hb2
      obtain ⟨c0, c1, c2⟩ := cells3 p2
      go_wp2_with fail
      refine (cellAt_any _ _ _ _ (.bool false) _ _ _ _ g1 (by omega) i0 i3).mono ?_; rintro e w3 ⟨rfl, hb3⟩
      go_wp2
      go_ret
      exact ⟨ret_int HE.out, below_seq bA (below_seq (drewN_below _ _) (below_seq hb2 hb3))⟩
  · have hr : cellB W T n k way = -1 := by
      unfold cellB
      by_cases hk : 0 ≤ k ∧ k < n
      · rw [if_pos hk]
        cases ho : okOf way
        · exact step_bad ho
        · exact absurd ⟨ho, hk⟩ hg
      · rw [if_neg hk]
    rw [hr]
    clear hr
    cases ho : okOf way
    · go_enter Try.func100, Try.ntmps100
      go_wp2_with fail
      refine (stepOf_any _ _).mono ?_; rintro e w1 ⟨rfl, rfl⟩
      go_wp2
      go_ret
      exact ⟨rfl, below1 _ _⟩
    · by_cases h0 : k < 0
      · go_enter Try.func100, Try.ntmps100
        go_wp2_with fail
        refine (stepOf_any _ _).mono ?_; rintro e w1 ⟨rfl, rfl⟩
        go_wp2
        go_ret
        exact ⟨rfl, below1 _ _⟩
      · have h1 : (n : Int) ≤ k := by
          apply Classical.byContradiction; intro hc
          exact hg ⟨ho, by omega, by omega⟩
        have h0' : 0 ≤ k := by omega
        clear hg
        go_enter Try.func100, Try.ntmps100
        go_wp2_with fail
        refine (stepOf_any _ _).mono ?_; rintro e w1 ⟨rfl, rfl⟩
        go_wp2
        go_ret
        exact ⟨rfl, below1 _ _⟩

/-- The cell beside one, or -1, in any region. -/
def stepTo (W T : Int) (xs : List Bool) (k way : Int) : Int := if rv W T xs then cellB W T xs.length k way else -1

end Go.Proofs.Ytnpmnjmjbpfipaa
