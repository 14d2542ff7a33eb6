/- The law FnExactHeightsOk: its walk. Generated from one pattern for all functions of a region and a list that return a plain value. -/
import Derived.Test.YtdfbkadlhnlfhaaValid
import Derived.Test.YtdfbkadlhnlfhaaInts
import Derived.Test.YtdfbkadlhnlfhaaHokS
namespace Go.Proofs.Ytdfbkadlhnlfhaa
open Go.RowKit
set_option linter.unusedVariables false
set_option linter.unusedSimpArgs false

set_option maxHeartbeats 1000000 in
theorem lawHeightsOk_walk (W T : Int) (a : Option Addr) (n cap : Nat) (xs : List Bool) (la : Option Addr) (m lcap : Nat) (L : List Int) (w : World) (hn : n = xs.length) (hn' : n ≤ maxLen) (ha : BoolsAt w a xs) (hm : m = L.length) (hm' : m ≤ maxLen) (hl : IntsAt w la L) :
    Calls Try.prog 4 #[.agg #[.int .i64 W, .int .i64 T, .slice a n cap], .slice la m lcap] w fun e w' => e = .returned (.bool true) ∧ Below w.heap.size w w' := by
  have HN := Lib.hid hn; clear hn
  have HA := Lib.hid ha; clear ha
  have HM := Lib.hid hm; clear hm
  have HL := Lib.hid hl; clear hl
  by_cases hlm : 1048576 < m
  · unfold maxLen at hm'
    go_enter Try.func4, Try.ntmps4
    go_wp2
    go_ret
    exact ⟨rfl, below1 _ _⟩
  have hlm' : m ≤ 1048576 := by omega
  by_cases hsm : 1048576 < n
  · have hz := szB_neg hsm
    go_enter Try.func4, Try.ntmps4
    go_wp2_with (go_at_call 12; refine (szRegion_any _ _ _ _ _ _ _ (by omega) (by omega) hn').mono ?_; rintro e w1 ⟨rfl, hb⟩)
    go_ret
    exact ⟨rfl, below_seq (below1 _ _) hb⟩
  · have hsm' : n ≤ 1048576 := by omega
    have hz := szB_pos hsm'
    go_enter Try.func4, Try.ntmps4
    go_wp2_with fail
    refine (szRegion_any _ _ _ _ _ _ _ (by omega) (by omega) hn').mono ?_; rintro e w1 ⟨rfl, hb1⟩
    have b1 := below_seq (below1 _ _) hb1
    have z1 : w.heap.size + 1 ≤ w1.heap.size := by have := hb1.size; (try simp at this); omega
    have pa_1 := heap_later (heap_new _ _) hb1
    obtain ⟨c1_pa0, c1_pa1, c1_pa2⟩ := cells3 pa_1
    have l1_pa := heap_lt pa_1
    go_wp2_with fail
    refine (toRegion_any _ _ _ _ _ xs _ HN.out hsm' (HA.out.below b1)).mono ?_; rintro e w2 ⟨g2, rfl, ho2, hb2⟩
    have b2 := below_seq b1 hb2
    have z2 : w1.heap.size + 0 ≤ w2.heap.size := by have := hb2.size; (try simp at this); omega
    have pa_2 := heap_later pa_1 hb2
    have O2_2 := Lib.hid (ho2)
    clear pa_1 c1_pa0 c1_pa1 c1_pa2 l1_pa
    clear ho2
    go_wp2_with fail
    refine (toIntS_ex _ _ _ L _ HM.out hlm' (HL.out.below b2)).mono ?_; rintro e w3 ⟨y3, rfl, ho3, hb3⟩
    have b3 := below_seq b2 hb3
    have z3 : w2.heap.size + 0 ≤ w3.heap.size := by have := hb3.size; (try simp at this); omega
    have pa_3 := heap_later pa_2 hb3
    have O2_3 := Lib.hid (OwnsB.below O2_2.out hb3)
    have V3_3 := Lib.hid (ho3)
    clear pa_2 O2_2
    clear ho3
    go_wp2_with fail
    refine (sHeightsOk_any _ _ _ _ _ xs _ _ _ L _ HN.out hsm' HM.out hlm' (OwnsB.at O2_3.out) (OwnsI.at V3_3.out)).mono ?_; rintro e w4 ⟨rfl, hb4⟩
    have b4 := below_seq b3 hb4
    have z4 : w3.heap.size + 0 ≤ w4.heap.size := by have := hb4.size; (try simp at this); omega
    have pa_4 := heap_later pa_3 hb4
    clear pa_3 O2_3 V3_3
    obtain ⟨c4_pa0, c4_pa1, c4_pa2⟩ := cells3 pa_4
    have l4_pa := heap_lt pa_4
    go_wp2_with fail
    refine (toRegion_any _ _ _ _ _ xs _ HN.out hsm' (HA.out.below b4)).mono ?_; rintro e w5 ⟨g5, rfl, ho5, hb5⟩
    have b5 := below_seq b4 hb5
    have z5 : w4.heap.size + 0 ≤ w5.heap.size := by have := hb5.size; (try simp at this); omega
    have pa_5 := heap_later pa_4 hb5
    have AX_5 := Lib.hid (OwnsB.at ho5)
    clear pa_4 c4_pa0 c4_pa1 c4_pa2 l4_pa
    clear ho5
    go_wp2_with fail
    refine (toIntS_ex _ _ _ L _ HM.out hlm' (HL.out.below (below_seq b5 (below1 _ _)))).mono ?_; rintro e w6 ⟨y6, rfl, ho6, hb6⟩
    have b6 := below_seq (below_seq b5 (below1 _ _)) hb6
    have z6 : w5.heap.size + 1 ≤ w6.heap.size := by have := hb6.size; (try simp at this); omega
    have pa_6 := heap_later (heap_later pa_5 (below1 _ _)) hb6
    have AX_6 := Lib.hid (BoolsAt.below (BoolsAt.one AX_5.out _) hb6)
    have px_6 := heap_later (heap_new _ _) hb6
    have IX_6 := Lib.hid (OwnsI.at ho6)
    clear pa_5 AX_5
    obtain ⟨c6_px0, c6_px1, c6_px2⟩ := cells3 px_6
    have l6_px := heap_lt px_6
    clear ho6
    go_wp2_with fail
    refine (iHeightsOk_any _ _ _ _ _ xs _ _ _ L _ HN.out hsm' HM.out hlm' AX_6.out IX_6.out).mono ?_; rintro e w7 ⟨rfl, hb7⟩
    have b7 := below_seq b6 hb7
    have z7 : w6.heap.size + 0 ≤ w7.heap.size := by have := hb7.size; (try simp at this); omega
    have pa_7 := heap_later pa_6 hb7
    have AX_7 := Lib.hid (BoolsAt.below AX_6.out hb7)
    have px_7 := heap_later px_6 hb7
    have IX_7 := Lib.hid (IntsAt.below IX_6.out hb7)
    clear pa_6 AX_6 px_6 IX_6 c6_px0 c6_px1 c6_px2 l6_px
    obtain ⟨c7_pa0, c7_pa1, c7_pa2⟩ := cells3 pa_7
    have l7_pa := heap_lt pa_7
    obtain ⟨c7_px0, c7_px1, c7_px2⟩ := cells3 px_7
    have l7_px := heap_lt px_7
    go_wp2_with fail
    have P7 : w7.drew.heap[w.heap.size]? = some _ := pa_7
    have Q7 : w7.drew.heap[w5.heap.size]? = some _ := px_7
    go_region_held3 (fun w' => w'.cell? ⟨w.heap.size, 0, none⟩ = some (.int .i64 W) ∧ w'.cell? ⟨w.heap.size, 1, none⟩ = some (.int .i64 T) ∧ w'.cell? ⟨w.heap.size, 2, none⟩ = some (.slice a n cap) ∧
        w'.cell? ⟨w5.heap.size, 0, none⟩ = some (.int .i64 W) ∧ w'.cell? ⟨w5.heap.size, 1, none⟩ = some (.int .i64 T) ∧ w'.cell? ⟨w5.heap.size, 2, none⟩ = some (.slice (some ⟨g5, 0, none⟩) n n))
      (go_keep)
      (first
        | (go_at_call 14; refine (toRegion_any _ _ _ _ _ xs _ HN.out hsm' (HA.out.below b7.drew)).mono ?_; rintro e w8 ⟨g8, rfl, ho8, hb8⟩; have p8 := heap_later P7 hb8; have q8 := heap_later Q7 hb8; obtain ⟨cA0, cA1, cA2⟩ := cells3 p8; obtain ⟨dA0, dA1, dA2⟩ := cells3 q8)
        | (go_at_call 18; refine (eqRegion_same _ _ _ _ _ _ _ xs _ HN.out hsm' ((show BoolsAt w7.drew _ xs from AX_7.out).below hb8) ho8.at).mono ?_; rintro e w9 ⟨rfl, hb9⟩; have p9 := heap_later p8 hb9; have q9 := heap_later q8 hb9; obtain ⟨cB0, cB1, cB2⟩ := cells3 p9; obtain ⟨dB0, dB1, dB2⟩ := cells3 q9))
    have bb9 : Below w7.heap.size w7 w9 := below_seq (below_seq (drew_below _) hb8) hb9
    have b9 := below_seq b7 bb9
    have z9 : w7.heap.size ≤ w9.heap.size := bb9.size
    have pa_9 := heap_later pa_7 bb9
    have AX_9 := Lib.hid (BoolsAt.below AX_7.out bb9)
    have px_9 := heap_later px_7 bb9
    have IX_9 := Lib.hid (IntsAt.below IX_7.out bb9)
    clear pa_7 AX_7 px_7 IX_7 c7_pa0 c7_pa1 c7_pa2 l7_pa c7_px0 c7_px1 c7_px2 l7_px p8 q8 cA0 cA1 cA2 dA0 dA1 dA2 p9 q9 cB0 cB1 cB2 dB0 dB1 dB2 P7 Q7 ho8
    go_wp2_with fail
    refine (toIntS_ex _ _ _ L _ HM.out hlm' (HL.out.below b9)).mono ?_; rintro e w10 ⟨y10, rfl, ho10, hb10⟩
    have b10 := below_seq b9 hb10
    have z10 : w9.heap.size + 0 ≤ w10.heap.size := by have := hb10.size; (try simp at this); omega
    have pa_10 := heap_later pa_9 hb10
    have AX_10 := Lib.hid (BoolsAt.below AX_9.out hb10)
    have px_10 := heap_later px_9 hb10
    have IX_10 := Lib.hid (IntsAt.below IX_9.out hb10)
    have I10_10 := Lib.hid (OwnsI.at ho10)
    clear pa_9 AX_9 px_9 IX_9
    clear ho10
    go_wp2_with fail
    refine (eqIntS_same _ _ _ _ _ L _ HM.out hlm' IX_10.out I10_10.out).mono ?_; rintro e w11 ⟨rfl, q11, rfl⟩
    go_wp2
    go_ret
    exact ⟨rfl, below_seq b10 (drewN_below _ _)⟩

end Go.Proofs.Ytdfbkadlhnlfhaa
