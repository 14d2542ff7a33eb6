/- Contracts of impl.stepOf, impl.cellBeside, impl.opposite, spec.l2Step, spec.l2Back and of the two functions StepTo. -/
import Derived.Test.YtlgmnceicnhhnaaStepM
import Derived.OwnWalk
namespace Go.Proofs.Ytlgmnceicnhhnaa
open Go.RowKit
set_option linter.unusedVariables false
set_option maxRecDepth 100000
set_option linter.unusedSimpArgs false

theorem stepOf_any (way : Int) (w : World) :
    Calls Try.prog 87 #[.int .i64 way] w fun e w' => e = .returned (.tuple #[.int .i64 (dxOf way), .int .i64 (dyOf way), .bool (okOf way)]) ∧ w = w' := by
  by_cases h1 : way = 1
  · subst h1
    go_enter Try.func87, Try.ntmps87
    go_wp2
    go_ret3
    exact ⟨rfl, rfl⟩
  by_cases h2 : way = 2
  · subst h2
    go_enter Try.func87, Try.ntmps87
    go_wp2
    go_ret3
    exact ⟨rfl, rfl⟩
  by_cases h3 : way = 3
  · subst h3
    go_enter Try.func87, Try.ntmps87
    go_wp2
    go_ret3
    exact ⟨rfl, rfl⟩
  by_cases h4 : way = 4
  · subst h4
    go_enter Try.func87, Try.ntmps87
    go_wp2
    go_ret3
    exact ⟨rfl, rfl⟩
  have e1 : dxOf way = 0 := by unfold dxOf; rw [if_neg h1, if_neg h3]
  have e2 : dyOf way = 0 := by unfold dyOf; rw [if_neg h2, if_neg h4]
  have e3 : okOf way = false := by unfold okOf; exact decide_eq_false (by omega)
  rw [e1, e2, e3]
  clear e1 e2 e3
  have b1 : (way == 1) = false := by simpa using h1
  have b2 : (way == 2) = false := by simpa using h2
  have b3 : (way == 3) = false := by simpa using h3
  have b4 : (way == 4) = false := by simpa using h4
  go_enter Try.func87, Try.ntmps87
  go_wp2
  go_ret3
  exact ⟨rfl, rfl⟩

theorem opposite_any (way : Int) (w : World) (h0 : 0 ≤ way) (h1 : way ≤ 1000) :
    Calls Try.prog 95 #[.int .i64 way] w fun e w' => e = .returned (.int .i64 (backI way)) ∧ w = w' := by
  go_enter Try.func95, Try.ntmps95
  go_wp2
  go_ret
  exact ⟨rfl, rfl⟩

theorem l2Back_any (way : Int) (w : World) (h0 : 0 ≤ way) (h1 : way ≤ 1000) :
    Calls Try.prog 98 #[.int .i64 way] w fun e w' => e = .returned (.int .i64 (backI way)) ∧ w = w' := by
  go_enter Try.func98, Try.ntmps98
  go_wp2
  go_ret
  exact ⟨rfl, rfl⟩

/-- The cell beside one that may not be there. -/
def cellB (W T : Int) (n : Nat) (k way : Int) : Int := if 0 ≤ k ∧ k < n then stepI W T k way else -1
theorem stepI_edge {W T k way : Int} (h : stepI W T k way ≠ -1) : okOf way = true := by
  cases ho : okOf way
  · exact absurd (step_bad ho) h
  · rfl

set_option maxHeartbeats 1000000 in
theorem cellBeside_any (W T : Int) (a : Option Addr) (n cap : Nat) (k way : Int) (w : World) (hW0 : 1 ≤ W) (hW1 : W ≤ 6) (hT0 : 1 ≤ T) (hT1 : T ≤ 6) (hWT : (n : Int) = W * T) :
    Calls Try.prog 76 #[.agg #[.int .i64 W, .int .i64 T, .slice a n cap], .int .i64 k, .int .i64 way] w fun e w' => e = .returned (.int .i64 (cellB W T n k way)) ∧ Below w.heap.size w w' := by
  have HWT := Lib.hid hWT; clear hWT
  obtain ⟨dx0, dx1⟩ := dx_bd way
  obtain ⟨dy0, dy1⟩ := dy_bd way
  have pb := (prod_bd (W := W) (T := T) (by omega) (by omega) (by omega) (by omega)).2
  have hn36 : n ≤ 10000 := by have := HWT.out; omega
  by_cases hg : okOf way = true ∧ 0 ≤ k ∧ k < n
  · obtain ⟨ho, h0, h1⟩ := hg
    obtain ⟨m1, m2, m3, m4, m5⟩ := cell_split (W := W) (T := T) hW0 h0 (by rw [← HWT.out]; exact h1)
    have hr : cellB W T n k way = stepI W T k way := by unfold cellB; rw [if_pos ⟨h0, h1⟩]
    rw [hr]
    clear hr
    have hW0' : W ≠ 0 := by omega
    have M5 := Lib.hid m5; clear m5
    obtain ⟨wA, hwA⟩ : ∃ wA, wA = w.alloc (.cells #[.int .i64 W, .int .i64 T, .slice a n cap] 25) := ⟨_, rfl⟩
    have pA : wA.heap[w.heap.size]? = some (.cells #[.int .i64 W, .int .i64 T, .slice a n cap] 25 (0, 0)) := by rw [hwA]; exact heap_new _ _
    have bA : Below w.heap.size w wA := by rw [hwA]; exact below1 _ _
    obtain ⟨d0, d1, d2⟩ := cells3 pA
    have lA := heap_lt pA
    cases hin : inF W T (k % W + dxOf way) (k / W + dyOf way)
    · have HE := Lib.hid (step_out hW0 h0 (by rw [← HWT.out]; exact h1) ho hin)
      have HIN := Lib.hid hin; clear hin
      go_enter Try.func76, Try.ntmps76
      go_wp2_with fail
      refine (stepOf_any _ _).mono ?_; rintro e w1 ⟨rfl, rfl⟩
      rw [ho, ← hwA]
      clear hwA
      go_wp2
      go_quiet (fail)
      have pq : (wA.drewN nq).heap[w.heap.size]? = some _ := pA
      obtain ⟨q0, q1, q2⟩ := cells3 pq
      go_wp2_with fail
      refine (inField_is _ _ _ _ _ _ HIN.out).mono ?_; rintro e w2 ⟨rfl, hb2⟩
      go_wp2
      go_ret
      exact ⟨ret_int HE.out.symm, below_seq bA (below_seq (drewN_below _ _) hb2)⟩
    · have HE := Lib.hid (step_in hW0 h0 (by rw [← HWT.out]; exact h1) ho hin)
      have ⟨g1, g2, g3, g4⟩ : 0 ≤ k % W + dxOf way ∧ k % W + dxOf way < W ∧ 0 ≤ k / W + dyOf way ∧ k / W + dyOf way < T := by simpa [inF] using hin
      obtain ⟨i0, i1, i2⟩ := idx_bd (W := W) (T := T) g1 g2 g3 g4
      have i3 : (k / W + dyOf way) * W ≤ 100000 := by omega
      have HIN := Lib.hid hin; clear hin
      go_enter Try.func76, Try.ntmps76
      go_wp2_with fail
      refine (stepOf_any _ _).mono ?_; rintro e w1 ⟨rfl, rfl⟩
      rw [ho, ← hwA]
      clear hwA
      go_wp2
      go_quiet (fail)
      have pq : (wA.drewN nq).heap[w.heap.size]? = some _ := pA
      obtain ⟨q0, q1, q2⟩ := cells3 pq
      go_wp2_with fail
      refine (inField_is _ _ _ _ _ _ HIN.out).mono ?_; rintro e w2 ⟨rfl, hb2⟩
      have p2 := heap_later pq hb2
      obtain ⟨c0, c1, c2⟩ := cells3 p2
      go_wp2_with fail
      refine (cellAt_any _ _ _ _ (.bool false) _ _ _ _ g1 (by omega) i0 i3).mono ?_; rintro e w3 ⟨rfl, hb3⟩
      go_wp2
      go_ret
      exact ⟨ret_int HE.out, below_seq bA (below_seq (drewN_below _ _) (below_seq hb2 hb3))⟩
  · have hr : cellB W T n k way = -1 := by
      unfold cellB
      by_cases hk : 0 ≤ k ∧ k < n
      · rw [if_pos hk]
        cases ho : okOf way
        · exact step_bad ho
        · exact absurd ⟨ho, hk⟩ hg
      · rw [if_neg hk]
    rw [hr]
    clear hr
    cases ho : okOf way
    · go_enter Try.func76, Try.ntmps76
      go_wp2_with fail
      refine (stepOf_any _ _).mono ?_; rintro e w1 ⟨rfl, rfl⟩
      go_wp2
      go_ret
      exact ⟨rfl, below1 _ _⟩
    · by_cases h0 : k < 0
      · go_enter Try.func76, Try.ntmps76
        go_wp2_with fail
        refine (stepOf_any _ _).mono ?_; rintro e w1 ⟨rfl, rfl⟩
        go_wp2
        go_ret
        exact ⟨rfl, below1 _ _⟩
      · have h1 : (n : Int) ≤ k := by
          apply Classical.byContradiction; intro hc
          exact hg ⟨ho, by omega, by omega⟩
        have h0' : 0 ≤ k := by omega
        clear hg
        go_enter Try.func76, Try.ntmps76
        go_wp2_with fail
        refine (stepOf_any _ _).mono ?_; rintro e w1 ⟨rfl, rfl⟩
        go_wp2
        go_ret
        exact ⟨rfl, below1 _ _⟩

/-- The cell beside one, or -1, in any region. -/
def stepTo (W T : Int) (xs : List Bool) (k way : Int) : Int := if rv W T xs then cellB W T xs.length k way else -1

set_option maxHeartbeats 1000000 in
theorem iStepTo_any (W T : Int) (a : Option Addr) (n cap : Nat) (xs : List Bool) (k way : Int) (w : World) (hn : n = xs.length) (hn' : n ≤ 1048576) (ha : BoolsAt w a xs) :
    Calls Try.prog 44 #[.agg #[.int .i64 W, .int .i64 T, .slice a n cap], .int .i64 k, .int .i64 way] w fun e w' => e = .returned (.int .i64 (stepTo W T xs k way)) ∧ Below w.heap.size w w' := by
  have HN := Lib.hid hn; clear hn
  have HA := Lib.hid ha; clear ha
  by_cases h : rv W T xs = true
  · obtain ⟨v1, v2, v3, v4, v5, _⟩ := rv_true h
    have HV := Lib.hid v5; clear v5
    go_enter Try.func44, Try.ntmps44
    go_wp2_with fail
    refine (iRegionValid_any _ _ _ _ _ xs _ HN.out hn' (HA.out.one _)).mono ?_; rintro e w1 ⟨rfl, hb1⟩
    have p1 := heap_later (heap_new w _) hb1
    have b1 := below_seq (below1 _ _) hb1
    obtain ⟨c0, c1, c2⟩ := cells3 p1
    go_wp2_with fail
    refine (cellBeside_any _ _ _ _ _ _ _ _ v1 v2 v3 v4 (by rw [HN.out]; exact HV.out)).mono ?_; rintro e w2 ⟨rfl, hb2⟩
    go_wp2
    go_ret
    exact ⟨ret_int (by unfold stepTo; rw [if_pos h, HN.out]), below_seq b1 hb2⟩
  · rw [Bool.not_eq_true] at h
    go_enter Try.func44, Try.ntmps44
    go_wp2_with fail
    refine (iRegionValid_any _ _ _ _ _ xs _ HN.out hn' (HA.out.one _)).mono ?_; rintro e w1 ⟨rfl, hb1⟩
    go_wp2
    go_ret
    exact ⟨ret_int (by unfold stepTo; rw [h]; rfl), below_seq (below1 _ _) hb1⟩

end Go.Proofs.Ytlgmnceicnhhnaa
