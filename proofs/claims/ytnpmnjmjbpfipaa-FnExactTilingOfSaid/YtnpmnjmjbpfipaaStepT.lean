/- Contract of spec.StepTo. -/
import Derived.Test.YtnpmnjmjbpfipaaLaidS
namespace Go.Proofs.Ytnpmnjmjbpfipaa
open Go.RowKit
set_option linter.unusedVariables false
set_option maxRecDepth 100000
set_option linter.unusedSimpArgs false

set_option maxHeartbeats 2000000 in
theorem sStepTo_any (W T : Int) (k way : Int) (a : Option Addr) (n cap : Nat) (xs : List Bool) (w : World) (hn : n = xs.length) (hn' : n ≤ 1048576) (ha : BoolsAt w a xs) :
    Calls Try.prog 65 #[.agg #[.int .i64 W, .int .i64 T, .slice a n cap], .int .i64 k, .int .i64 way] w fun e w' => e = .returned (.int .i64 (stepTo W T xs k way)) ∧ Below w.heap.size w w' := by
  have HN := Lib.hid hn; clear hn
  have HA := Lib.hid ha; clear ha
  by_cases h : rv W T xs = true
  · obtain ⟨v1, v2, v3, v4, v5, _⟩ := rv_true h
    have HV := Lib.hid v5; clear v5
    have H := Lib.hid h; clear h
    cases hk : inB k 0 ((n : Int) - 1)
    · have HR : Hid (stepTo W T xs k way = -1) := by
        show _ = _; unfold stepTo cellB; rw [if_pos H.out, if_neg]; rw [← HN.out]; simp only [inB, decide_eq_false_iff_not] at hk; omega
      have HK := Lib.hid hk; clear hk
      go_enter Try.func65, Try.ntmps65
      go_wp2_with fail
      refine (sRegionValid_any _ _ _ _ _ xs _ HN.out hn' (HA.out.one _)).mono ?_; rintro e w1 ⟨rfl, hb1⟩
      have p1 := heap_later (heap_new w _) hb1
      have b1 := below_seq (below1 _ _) hb1
      rw [H.out]
      obtain ⟨c0, c1, c2⟩ := cells3 p1
      go_wp2_with (go_at_call 52; refine (l1In_any _ _ _ _).mono ?_; rintro e w6 ⟨rfl, rfl⟩; rw [HK.out])
      go_ret
      exact ⟨ret_int HR.out.symm, b1⟩
    · have hk2 : 0 ≤ k ∧ k < n := by simp only [inB, decide_eq_true_eq] at hk; omega
      obtain ⟨k0, k1⟩ := hk2
      have HK := Lib.hid hk; clear hk
      have HR : Hid (stepTo W T xs k way = stepI W T k way) := by
        show _ = _; unfold stepTo cellB; rw [if_pos H.out, if_pos (by rw [← HN.out]; exact ⟨k0, k1⟩)]
      cases ho : okOf way
      · have HR2 := Lib.hid (HR.out.trans (step_bad ho))
        have HO : Hid (inB way 1 4 = false) := ho
        clear ho
        go_enter Try.func65, Try.ntmps65
        go_wp2_with fail
        refine (sRegionValid_any _ _ _ _ _ xs _ HN.out hn' (HA.out.one _)).mono ?_; rintro e w1 ⟨rfl, hb1⟩
        have p1 := heap_later (heap_new w _) hb1
        have b1 := below_seq (below1 _ _) hb1
        rw [H.out]
        obtain ⟨c0, c1, c2⟩ := cells3 p1
        go_wp2_with fail
        refine (l1In_any _ _ _ _).mono ?_; rintro e w6 ⟨rfl, rfl⟩; rw [HK.out]
        go_wp2_with fail
        refine (l1In_any _ _ _ _).mono ?_; rintro e w6 ⟨rfl, rfl⟩; rw [HO.out]
        go_wp2
        go_ret
        exact ⟨ret_int HR2.out.symm, b1⟩
      · have HO : Hid (inB way 1 4 = true) := ho
        clear ho
        go_enter Try.func65, Try.ntmps65
        go_wp2_with fail
        refine (sRegionValid_any _ _ _ _ _ xs _ HN.out hn' (HA.out.one _)).mono ?_; rintro e w1 ⟨rfl, hb1⟩
        have p1 := heap_later (heap_new w _) hb1
        have b1 := below_seq (below1 _ _) hb1
        rw [H.out]
        obtain ⟨c0, c1, c2⟩ := cells3 p1
        go_wp2_with fail
        refine (l1In_any _ _ _ _).mono ?_; rintro e w6 ⟨rfl, rfl⟩; rw [HK.out]
        go_wp2_with fail
        refine (l1In_any _ _ _ _).mono ?_; rintro e w6 ⟨rfl, rfl⟩; rw [HO.out]
        go_wp2_with fail
        refine (l2Step_any _ _ _ _ _ _ _ _ v1 v2 v3 v4 k0 (by rw [← HV.out, ← HN.out]; exact k1)).mono ?_; rintro e w7 ⟨rfl, hb7⟩
        go_wp2
        go_ret
        exact ⟨ret_int HR.out.symm, below_seq b1 hb7⟩
  · rw [Bool.not_eq_true] at h
    go_enter Try.func65, Try.ntmps65
    go_wp2_with fail
    refine (sRegionValid_any _ _ _ _ _ xs _ HN.out hn' (HA.out.one _)).mono ?_; rintro e w1 ⟨rfl, hb1⟩
    go_wp2
    go_ret
    exact ⟨ret_int (by unfold stepTo; rw [h]; rfl), below_seq (below1 _ _) hb1⟩

end Go.Proofs.Ytnpmnjmjbpfipaa
