/- The law FnExactRegionValid: its walk. -/
import Derived.Test.YtehhccfbeneahaaValid2
namespace Go.Proofs.Ytehhccfbeneahaa
open Go.RowKit
set_option linter.unusedVariables false
set_option linter.unusedSimpArgs false

theorem szB_neg {n : Nat} (h : 1048576 < n) : szB n 1048576 = -1 := by unfold szB; rw [if_pos (by omega)]
theorem szB_pos {n : Nat} (h : n ≤ 1048576) : 0 ≤ szB n 1048576 ∧ szB n 1048576 ≤ 1048576 := by unfold szB; rw [if_neg (by omega)]; omega

set_option maxHeartbeats 1000000 in
theorem lawValid_walk (W T : Int) (a : Option Addr) (n cap : Nat) (xs : List Bool) (w : World) (hn : n = xs.length) (hn' : n ≤ maxLen) (ha : BoolsAt w a xs) :
    Calls Try.prog 3 #[.agg #[.int .i64 W, .int .i64 T, .slice a n cap]] w fun e w' => e = .returned (.bool true) ∧ Below w.heap.size w w' := by
  have HN := Lib.hid hn; clear hn
  have HA := Lib.hid ha; clear ha
  by_cases hsm : 1048576 < n
  · have hz := szB_neg hsm
    go_enter Try.func3, Try.ntmps3
    go_wp2_with (go_at_call 15; refine (szRegion_any _ _ _ _ _ _ _ (by omega) (by omega) hn').mono ?_; rintro e w1 ⟨rfl, hb⟩)
    go_ret
    exact ⟨rfl, below_seq (below1 _ _) hb⟩
  · have hsm' : n ≤ 1048576 := by omega
    have hz := szB_pos hsm'
    go_enter Try.func3, Try.ntmps3
    go_wp2_with fail
    refine (szRegion_any _ _ _ _ _ _ _ (by omega) (by omega) hn').mono ?_; rintro e w1 ⟨rfl, hb1⟩
    have b1 : Below w.heap.size w w1 := below_seq (below1 _ _) hb1
    have p1 := heap_later (heap_new w _) hb1
    clear hb1
    obtain ⟨c10, c11, c12⟩ := cells3 p1
    go_wp2_with fail
    refine (toRegion_any _ _ _ _ _ xs _ HN.out hsm' (HA.out.below b1)).mono ?_; rintro e w2 ⟨g2, rfl, ho2, hb2⟩
    have b2 := below_seq b1 hb2
    have p2 := heap_later p1 hb2
    clear c10 c11 c12
    have HO2 := Lib.hid ho2; clear ho2
    go_wp2_with fail
    refine (sRegionValid_any _ _ _ _ _ xs _ HN.out hsm' HO2.out.at).mono ?_; rintro e w3 ⟨rfl, hb3⟩
    have b3 := below_seq b2 hb3
    have p3 := heap_later p2 hb3
    clear HO2
    obtain ⟨c30, c31, c32⟩ := cells3 p3
    go_wp2_with fail
    refine (toRegion_any _ _ _ _ _ xs _ HN.out hsm' (HA.out.below b3)).mono ?_; rintro e w4 ⟨g4, rfl, ho4, hb4⟩
    have b4 := below_seq b3 hb4
    have p4 := heap_later p3 hb4
    clear c30 c31 c32
    have A4 := Lib.hid ho4.at; clear ho4
    go_wp2_with fail
    refine (iRegionValid_any _ _ _ _ _ xs _ HN.out hsm' (A4.out.one _)).mono ?_; rintro e w5 ⟨rfl, hb5⟩
    have b5 := below_seq (below_seq b4 (below1 _ _)) hb5
    have p5 := heap_later (heap_later p4 (below1 _ _)) hb5
    have q5 := heap_later (heap_new w4 _) hb5
    have A5 := Lib.hid ((A4.out.one _).below hb5); clear A4
    obtain ⟨c50, c51, c52⟩ := cells3 p5
    obtain ⟨d50, d51, d52⟩ := cells3 q5
    go_wp2_with fail
    have l1 := heap_lt p5
    have l2 := heap_lt q5
    have p5' : w5.drew.heap[w.heap.size]? = some _ := p5
    have q5' : w5.drew.heap[w4.heap.size]? = some _ := q5
    go_region_held3 (fun w' => w'.cell? ⟨w.heap.size, 0, none⟩ = some (.int .i64 W) ∧ w'.cell? ⟨w.heap.size, 1, none⟩ = some (.int .i64 T) ∧ w'.cell? ⟨w.heap.size, 2, none⟩ = some (.slice a n cap) ∧
        w'.cell? ⟨w4.heap.size, 0, none⟩ = some (.int .i64 W) ∧ w'.cell? ⟨w4.heap.size, 1, none⟩ = some (.int .i64 T) ∧ w'.cell? ⟨w4.heap.size, 2, none⟩ = some (.slice (some ⟨g4, 0, none⟩) n n))
      (go_keep)
      (first
        | (go_at_call 17; refine (toRegion_any _ _ _ _ _ xs _ HN.out hsm' (HA.out.below b5.drew)).mono ?_; rintro e w6 ⟨g6, rfl, ho6, hb6⟩; have p6 := heap_later p5' hb6; have q6 := heap_later q5' hb6; obtain ⟨c60, c61, c62⟩ := cells3 p6; obtain ⟨d60, d61, d62⟩ := cells3 q6)
        | (go_at_call 19; refine (eqRegion_same _ _ _ _ _ _ _ xs _ HN.out hsm' ((show BoolsAt w5.drew _ xs from A5.out).below hb6) ho6.at).mono ?_; rintro e w7 ⟨rfl, hb7⟩; have p7 := heap_later p6 hb7; have q7 := heap_later q6 hb7; obtain ⟨c70, c71, c72⟩ := cells3 p7; obtain ⟨d70, d71, d72⟩ := cells3 q7))
    go_wp2
    go_ret
    exact ⟨rfl, below_seq b5 (below_seq (below_seq (drew_below _) hb6) hb7)⟩
end Go.Proofs.Ytehhccfbeneahaa
