/- The law FnExactPuzzleValid: its walk. Generated from one pattern for all functions of a region and lists. -/
import Derived.Test.YthjocjiiihebbaaValid
import Derived.Test.YthjocjiiihebbaaInts
import Derived.Test.YthjocjiiihebbaaPuz
namespace Go.Proofs.Ythjocjiiihebbaa
open Go.RowKit
set_option linter.unusedVariables false
set_option maxRecDepth 100000
set_option linter.unusedSimpArgs false

set_option maxHeartbeats 4000000 in
theorem lawPuzzleValid_walk (W T : Int) (a : Option Addr) (n cap : Nat) (xs : List Bool) (la0 : Option Addr) (m0 lcap0 : Nat) (L0 : List Int) (w : World) (hn : n = xs.length) (hn' : n ≤ maxLen) (ha : BoolsAt w a xs) (hm0 : m0 = L0.length) (hm0' : m0 ≤ maxLen) (hl0 : IntsAt w la0 L0) :
    Calls Try.prog 5 #[.agg #[.int .i64 W, .int .i64 T, .slice a n cap], .slice la0 m0 lcap0] w fun e w' => e = .returned (.bool true) ∧ Below w.heap.size w w' := by
  have HN := Lib.hid hn; clear hn
  have HA := Lib.hid ha; clear ha
  have HM0 := Lib.hid hm0; clear hm0
  have HL0 := Lib.hid hl0; clear hl0
  by_cases hlm0 : 1048576 < m0
  · unfold maxLen at hm0'
    go_enter Try.func5, Try.ntmps5
    go_wp2
    go_ret
    exact ⟨rfl, below1 _ _⟩
  have hlm0' : m0 ≤ 1048576 := by omega
  by_cases hsm : 1048576 < n
  · have hz := szB_neg hsm
    go_enter Try.func5, Try.ntmps5
    go_wp2_with (go_at_call 17; refine (szRegion_any _ _ _ _ _ _ _ (by omega) (by omega) hn').mono ?_; rintro e w1 ⟨rfl, hb⟩)
    go_ret
    exact ⟨rfl, below_seq (below1 _ _) hb⟩
  · have hsm' : n ≤ 1048576 := by omega
    have hz := szB_pos hsm'
    have hS : ∀ (a : Option Addr) (cap : Nat) (la0 : Option Addr) (lcap0 : Nat) (w : World), BoolsAt w a xs → IntsAt w la0 L0 → Calls Try.prog 18 #[.agg #[.int .i64 W, .int .i64 T, .slice a n cap], .slice la0 m0 lcap0] w (fun e w' => e = .returned (.bool (pzv W T xs L0)) ∧ Below w.heap.size w w') := fun a cap la0 lcap0 w h hl0 => sPuzzleValid_any W T a n cap xs la0 m0 lcap0 L0 w HN.out hsm' HM0.out hlm0' h hl0
    have hI : ∀ (a : Option Addr) (cap : Nat) (la0 : Option Addr) (lcap0 : Nat) (w : World), BoolsAt w a xs → IntsAt w la0 L0 → Calls Try.prog 21 #[.agg #[.int .i64 W, .int .i64 T, .slice a n cap], .slice la0 m0 lcap0] w (fun e w' => e = .returned (.bool (pzv W T xs L0)) ∧ Below w.heap.size w w') := fun a cap la0 lcap0 w h hl0 => iPuzzleValid_any W T a n cap xs la0 m0 lcap0 L0 w HN.out hsm' HM0.out hlm0' h hl0
    generalize (pzv W T xs L0) = okv at hS hI
    have HS := Lib.hid hS; clear hS
    have HI := Lib.hid hI; clear hI
    cases okv
    all_goals
      go_enter Try.func5, Try.ntmps5
      go_wp2_with fail
      refine (szRegion_any _ _ _ _ _ _ _ (by omega) (by omega) hn').mono ?_; rintro e w1 ⟨rfl, hb1⟩
      have b1 := below_seq (below1 _ _) hb1
      have z1 : w.heap.size + 1 ≤ w1.heap.size := by have := hb1.size; (try simp at this); omega
      have pa_1 := heap_later (heap_new _ _) hb1
      obtain ⟨c1_pa0, c1_pa1, c1_pa2⟩ := cells3 pa_1
      have l1_pa := heap_lt pa_1
      go_wp2_with fail
      refine (toRegion_any _ _ _ _ _ xs _ HN.out hsm' (HA.out.below b1)).mono ?_; rintro e w2 ⟨g2, rfl, ho2, hb2⟩
      have b2 := below_seq b1 hb2
      have z2 : w1.heap.size + 0 ≤ w2.heap.size := by have := hb2.size; (try simp at this); omega
      have pa_2 := heap_later pa_1 hb2
      have O2_2 := Lib.hid (ho2)
      clear pa_1 c1_pa0 c1_pa1 c1_pa2 l1_pa
      clear ho2
      go_wp2_with fail
      refine (toIntS_ex _ _ _ L0 _ HM0.out hlm0' (HL0.out.below b2)).mono ?_; rintro e w3 ⟨y3, rfl, ho3, hb3⟩
      have b3 := below_seq b2 hb3
      have z3 : w2.heap.size + 0 ≤ w3.heap.size := by have := hb3.size; (try simp at this); omega
      have pa_3 := heap_later pa_2 hb3
      have O2_3 := Lib.hid (OwnsB.below O2_2.out hb3)
      have S0_3 := Lib.hid (ho3)
      clear pa_2 O2_2
      clear ho3
      go_wp2_with fail
      refine (HS.out _ _ _ _ _ (OwnsB.at O2_3.out) (OwnsI.at S0_3.out)).mono ?_; rintro e w4 ⟨rfl, hb4⟩
      have b4 := below_seq b3 hb4
      have z4 : w3.heap.size + 0 ≤ w4.heap.size := by have := hb4.size; (try simp at this); omega
      have pa_4 := heap_later pa_3 hb4
      clear pa_3 O2_3 S0_3
      obtain ⟨c4_pa0, c4_pa1, c4_pa2⟩ := cells3 pa_4
      have l4_pa := heap_lt pa_4
      go_wp2_with fail
      refine (toRegion_any _ _ _ _ _ xs _ HN.out hsm' (HA.out.below b4)).mono ?_; rintro e w5 ⟨g5, rfl, ho5, hb5⟩
      have b5 := below_seq b4 hb5
      have z5 : w4.heap.size + 0 ≤ w5.heap.size := by have := hb5.size; (try simp at this); omega
      have pa_5 := heap_later pa_4 hb5
      have OX_5 := Lib.hid (OwnsB.at ho5)
      clear pa_4 c4_pa0 c4_pa1 c4_pa2 l4_pa
      clear ho5
      go_wp2_with fail
      refine (toIntS_ex _ _ _ L0 _ HM0.out hlm0' (HL0.out.below (below_seq b5 (below1 _ _)))).mono ?_; rintro e w6 ⟨y6, rfl, ho6, hb6⟩
      have b6 := below_seq (below_seq b5 (below1 _ _)) hb6
      have z6 : w5.heap.size + 1 ≤ w6.heap.size := by have := hb6.size; (try simp at this); omega
      have pa_6 := heap_later (heap_later pa_5 (below1 _ _)) hb6
      have OX_6 := Lib.hid (BoolsAt.below (BoolsAt.one OX_5.out _) hb6)
      have px_6 := heap_later (heap_new _ _) hb6
      have X0_6 := Lib.hid (OwnsI.at ho6)
      clear pa_5 OX_5
      clear ho6
      obtain ⟨c6_px0, c6_px1, c6_px2⟩ := cells3 px_6
      have l6_px := heap_lt px_6
      go_wp2_with fail
      refine (HI.out _ _ _ _ _ OX_6.out X0_6.out).mono ?_; rintro e w7 ⟨rfl, hb7⟩
      have b7 := below_seq b6 hb7
      have z7 : w6.heap.size + 0 ≤ w7.heap.size := by have := hb7.size; (try simp at this); omega
      have pa_7 := heap_later pa_6 hb7
      have OX_7 := Lib.hid (BoolsAt.below OX_6.out hb7)
      have px_7 := heap_later px_6 hb7
      have X0_7 := Lib.hid (IntsAt.below X0_6.out hb7)
      clear pa_6 OX_6 px_6 X0_6 c6_px0 c6_px1 c6_px2 l6_px
      obtain ⟨c7_pa0, c7_pa1, c7_pa2⟩ := cells3 pa_7
      have l7_pa := heap_lt pa_7
      obtain ⟨c7_px0, c7_px1, c7_px2⟩ := cells3 px_7
      have l7_px := heap_lt px_7
      go_wp2_with fail
      have P7 : w7.drew.heap[w.heap.size]? = some _ := pa_7
      have Q7 : w7.drew.heap[w5.heap.size]? = some _ := px_7
      go_region_held3 (fun w' => w'.cell? ⟨w.heap.size, 0, none⟩ = some (.int .i64 W) ∧ w'.cell? ⟨w.heap.size, 1, none⟩ = some (.int .i64 T) ∧ w'.cell? ⟨w.heap.size, 2, none⟩ = some (.slice a n cap) ∧
          w'.cell? ⟨w5.heap.size, 0, none⟩ = some (.int .i64 W) ∧ w'.cell? ⟨w5.heap.size, 1, none⟩ = some (.int .i64 T) ∧ w'.cell? ⟨w5.heap.size, 2, none⟩ = some (.slice (some ⟨g5, 0, none⟩) n n))
        (go_keep)
        (first
          | (go_at_call 19; refine (toRegion_any _ _ _ _ _ xs _ HN.out hsm' (HA.out.below b7.drew)).mono ?_; rintro e w8 ⟨g8, rfl, ho8, hb8⟩; have p8 := heap_later P7 hb8; have q8 := heap_later Q7 hb8; obtain ⟨cA0, cA1, cA2⟩ := cells3 p8; obtain ⟨dA0, dA1, dA2⟩ := cells3 q8)
          | (go_at_call 22; refine (eqRegion_same _ _ _ _ _ _ _ xs _ HN.out hsm' ((show BoolsAt w7.drew _ xs from OX_7.out).below hb8) ho8.at).mono ?_; rintro e w9 ⟨rfl, hb9⟩; have p9 := heap_later p8 hb9; have q9 := heap_later q8 hb9; obtain ⟨cB0, cB1, cB2⟩ := cells3 p9; obtain ⟨dB0, dB1, dB2⟩ := cells3 q9))
      have bb9 : Below w7.heap.size w7 w9 := below_seq (below_seq (drew_below _) hb8) hb9
      have b9 := below_seq b7 bb9
      have z9 : w7.heap.size ≤ w9.heap.size := bb9.size
      have pa_9 := heap_later pa_7 bb9
      have OX_9 := Lib.hid (BoolsAt.below OX_7.out bb9)
      have px_9 := heap_later px_7 bb9
      have X0_9 := Lib.hid (IntsAt.below X0_7.out bb9)
      clear pa_7 OX_7 px_7 X0_7 c7_pa0 c7_pa1 c7_pa2 l7_pa c7_px0 c7_px1 c7_px2 l7_px p8 q8 cA0 cA1 cA2 dA0 dA1 dA2 p9 q9 cB0 cB1 cB2 dB0 dB1 dB2 P7 Q7 ho8
      go_wp2_with fail
      refine (toIntS_ex _ _ _ L0 _ HM0.out hlm0' (HL0.out.below b9)).mono ?_; rintro e w10 ⟨y10, rfl, ho10, hb10⟩
      have b10 := below_seq b9 hb10
      have z10 : w9.heap.size + 0 ≤ w10.heap.size := by have := hb10.size; (try simp at this); omega
      have pa_10 := heap_later pa_9 hb10
      have OX_10 := Lib.hid (BoolsAt.below OX_9.out hb10)
      have px_10 := heap_later px_9 hb10
      have X0_10 := Lib.hid (IntsAt.below X0_9.out hb10)
      have I0_10 := Lib.hid (OwnsI.at ho10)
      clear pa_9 OX_9 px_9 X0_9
      clear ho10
      go_wp2_with fail
      refine (eqIntS_below _ _ _ _ _ L0 _ HM0.out hlm0' X0_10.out I0_10.out).mono ?_; rintro e w11 ⟨rfl, hb11⟩
      have b11 := below_seq b10 hb11
      have z11 : w10.heap.size + 0 ≤ w11.heap.size := by have := hb11.size; (try simp at this); omega
      have pa_11 := heap_later pa_10 hb11
      have OX_11 := Lib.hid (BoolsAt.below OX_10.out hb11)
      have px_11 := heap_later px_10 hb11
      have X0_11 := Lib.hid (IntsAt.below X0_10.out hb11)
      clear pa_10 OX_10 px_10 X0_10 I0_10
      go_wp2
      go_ret
      exact ⟨rfl, b11⟩

end Go.Proofs.Ythjocjiiihebbaa
