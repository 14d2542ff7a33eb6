/- The law FnExactBarsMany: its walk. Generated from one pattern for all functions of a region that return a plain value. -/
import Derived.Test.YthlagmnnkckcnaaValid
import Derived.Test.YthlagmnnkckcnaaBarsS
namespace Go.Proofs.Ythlagmnnkckcnaa
open Go.RowKit
set_option linter.unusedVariables false
set_option linter.unusedSimpArgs false

set_option maxHeartbeats 1000000 in
theorem lawBarsMany_walk (W T : Int) (a : Option Addr) (n cap : Nat) (xs : List Bool) (long : Int) (w : World) (hn : n = xs.length) (hn' : n ≤ maxLen) (ha : BoolsAt w a xs) :
    Calls Try.prog 12 #[.agg #[.int .i64 W, .int .i64 T, .slice a n cap], .int .i64 long] w fun e w' => e = .returned (.bool true) ∧ Below w.heap.size w w' := by
  have HN := Lib.hid hn; clear hn
  have HA := Lib.hid ha; clear ha
  by_cases hsm : 1048576 < n
  · have hz := szB_neg hsm
    go_enter Try.func12, Try.ntmps12
    go_wp2_with (go_at_call 34; refine (szRegion_any _ _ _ _ _ _ _ (by omega) (by omega) hn').mono ?_; rintro e w1 ⟨rfl, hb⟩)
    go_ret
    exact ⟨rfl, below_seq (below1 _ _) hb⟩
  · have hsm' : n ≤ 1048576 := by omega
    have hz := szB_pos hsm'
    go_enter Try.func12, Try.ntmps12
    go_wp2_with fail
    refine (szRegion_any _ _ _ _ _ _ _ (by omega) (by omega) hn').mono ?_; rintro e w1 ⟨rfl, hb1⟩
    have b1 := below_seq (below1 _ _) hb1
    have z1 : w.heap.size + 1 ≤ w1.heap.size := by have := hb1.size; (try simp at this); omega
    have pa_1 := heap_later (heap_new _ _) hb1
    obtain ⟨c1_pa0, c1_pa1, c1_pa2⟩ := cells3 pa_1
    have l1_pa := heap_lt pa_1
    go_wp2_with fail
    refine (toRegion_any _ _ _ _ _ xs _ HN.out hsm' (HA.out.below b1)).mono ?_; rintro e w2 ⟨g2, rfl, ho2, hb2⟩
    have b2 := below_seq b1 hb2
    have z2 : w1.heap.size + 0 ≤ w2.heap.size := by have := hb2.size; (try simp at this); omega
    have pa_2 := heap_later pa_1 hb2
    have O2_2 := Lib.hid (ho2)
    clear pa_1 c1_pa0 c1_pa1 c1_pa2 l1_pa
    clear ho2
    go_wp2_with fail
    refine (sBarsMany_any _ _ _ _ _ _ xs _ HN.out hsm' (OwnsB.at O2_2.out)).mono ?_; rintro e w3 ⟨rfl, hb3⟩
    have b3 := below_seq b2 hb3
    have z3 : w2.heap.size + 0 ≤ w3.heap.size := by have := hb3.size; (try simp at this); omega
    have pa_3 := heap_later pa_2 hb3
    clear pa_2 O2_2
    obtain ⟨c3_pa0, c3_pa1, c3_pa2⟩ := cells3 pa_3
    have l3_pa := heap_lt pa_3
    go_wp2_with fail
    refine (toRegion_any _ _ _ _ _ xs _ HN.out hsm' (HA.out.below b3)).mono ?_; rintro e w4 ⟨g4, rfl, ho4, hb4⟩
    have b4 := below_seq b3 hb4
    have z4 : w3.heap.size + 0 ≤ w4.heap.size := by have := hb4.size; (try simp at this); omega
    have pa_4 := heap_later pa_3 hb4
    have A4_4 := Lib.hid (OwnsB.at ho4)
    clear pa_3 c3_pa0 c3_pa1 c3_pa2 l3_pa
    clear ho4
    go_wp2_with fail
    refine (iBarsMany_any _ _ _ _ _ _ xs _ HN.out hsm' (BoolsAt.one A4_4.out _)).mono ?_; rintro e w5 ⟨rfl, hb5⟩
    have b5 := below_seq (below_seq b4 (below1 _ _)) hb5
    have z5 : w4.heap.size + 1 ≤ w5.heap.size := by have := hb5.size; (try simp at this); omega
    have pa_5 := heap_later (heap_later pa_4 (below1 _ _)) hb5
    have A4_5 := Lib.hid (BoolsAt.below (BoolsAt.one A4_4.out _) hb5)
    have px_5 := heap_later (heap_new _ _) hb5
    clear pa_4 A4_4
    obtain ⟨c5_pa0, c5_pa1, c5_pa2⟩ := cells3 pa_5
    have l5_pa := heap_lt pa_5
    obtain ⟨c5_px0, c5_px1, c5_px2⟩ := cells3 px_5
    have l5_px := heap_lt px_5
    go_wp2_with fail
    have P5 : w5.drew.heap[w.heap.size]? = some _ := pa_5
    have Q5 : w5.drew.heap[w4.heap.size]? = some _ := px_5
    go_region_held3 (fun w' => w'.cell? ⟨w.heap.size, 0, none⟩ = some (.int .i64 W) ∧ w'.cell? ⟨w.heap.size, 1, none⟩ = some (.int .i64 T) ∧ w'.cell? ⟨w.heap.size, 2, none⟩ = some (.slice a n cap) ∧
        w'.cell? ⟨w4.heap.size, 0, none⟩ = some (.int .i64 W) ∧ w'.cell? ⟨w4.heap.size, 1, none⟩ = some (.int .i64 T) ∧ w'.cell? ⟨w4.heap.size, 2, none⟩ = some (.slice (some ⟨g4, 0, none⟩) n n))
      (go_keep)
      (first
        | (go_at_call 35; refine (toRegion_any _ _ _ _ _ xs _ HN.out hsm' (HA.out.below b5.drew)).mono ?_; rintro e w6 ⟨g6, rfl, ho6, hb6⟩; have p6 := heap_later P5 hb6; have q6 := heap_later Q5 hb6; obtain ⟨c60, c61, c62⟩ := cells3 p6; obtain ⟨d60, d61, d62⟩ := cells3 q6)
        | (go_at_call 37; refine (eqRegion_same _ _ _ _ _ _ _ xs _ HN.out hsm' ((show BoolsAt w5.drew _ xs from A4_5.out).below hb6) ho6.at).mono ?_; rintro e w7 ⟨rfl, hb7⟩; have p7 := heap_later p6 hb7; have q7 := heap_later q6 hb7; obtain ⟨c70, c71, c72⟩ := cells3 p7; obtain ⟨d70, d71, d72⟩ := cells3 q7))
    go_wp2
    go_ret
    exact ⟨rfl, below_seq b5 (below_seq (below_seq (drew_below _) hb6) hb7)⟩

end Go.Proofs.Ythlagmnnkckcnaa
