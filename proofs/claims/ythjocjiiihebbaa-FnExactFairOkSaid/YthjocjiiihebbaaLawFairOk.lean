/- The law FnExactFairOk: its walk. Generated from one pattern for all functions of a region and lists. -/
import Derived.Test.YthjocjiiihebbaaValid
import Derived.Test.YthjocjiiihebbaaInts
import Derived.Test.YthjocjiiihebbaaFair
namespace Go.Proofs.Ythjocjiiihebbaa
open Go.RowKit
set_option linter.unusedVariables false
set_option maxRecDepth 100000
set_option linter.unusedSimpArgs false

set_option maxHeartbeats 4000000 in
theorem lawFairOk_walk (W T : Int) (a : Option Addr) (n cap : Nat) (xs : List Bool) (la0 : Option Addr) (m0 lcap0 : Nat) (L0 : List Int) (la1 : Option Addr) (m1 lcap1 : Nat) (L1 : List Int) (w : World) (hn : n = xs.length) (hn' : n ≤ maxLen) (ha : BoolsAt w a xs) (hm0 : m0 = L0.length) (hm0' : m0 ≤ maxLen) (hl0 : IntsAt w la0 L0) (hm1 : m1 = L1.length) (hm1' : m1 ≤ maxLen) (hl1 : IntsAt w la1 L1) :
    Calls Try.prog 7 #[.agg #[.int .i64 W, .int .i64 T, .slice a n cap], .slice la0 m0 lcap0, .slice la1 m1 lcap1] w fun e w' => e = .returned (.bool true) ∧ Below w.heap.size w w' := by
  have HN := Lib.hid hn; clear hn
  have HA := Lib.hid ha; clear ha
  have HM0 := Lib.hid hm0; clear hm0
  have HL0 := Lib.hid hl0; clear hl0
  have HM1 := Lib.hid hm1; clear hm1
  have HL1 := Lib.hid hl1; clear hl1
  by_cases hlm0 : 1048576 < m0
  · unfold maxLen at hm0' hm1'
    go_enter Try.func7, Try.ntmps7
    go_wp2
    go_ret
    exact ⟨rfl, below1 _ _⟩
  have hlm0' : m0 ≤ 1048576 := by omega
  by_cases hlm1 : 1048576 < m1
  · unfold maxLen at hm0' hm1'
    go_enter Try.func7, Try.ntmps7
    go_wp2
    go_ret
    exact ⟨rfl, below1 _ _⟩
  have hlm1' : m1 ≤ 1048576 := by omega
  by_cases hsm : 1048576 < n
  · have hz := szB_neg hsm
    go_enter Try.func7, Try.ntmps7
    go_wp2_with (go_at_call 17; refine (szRegion_any _ _ _ _ _ _ _ (by omega) (by omega) hn').mono ?_; rintro e w1 ⟨rfl, hb⟩)
    go_ret
    exact ⟨rfl, below_seq (below1 _ _) hb⟩
  · have hsm' : n ≤ 1048576 := by omega
    have hz := szB_pos hsm'
    have hS : ∀ (a : Option Addr) (cap : Nat) (la0 : Option Addr) (lcap0 : Nat) (la1 : Option Addr) (lcap1 : Nat) (w : World), BoolsAt w a xs → IntsAt w la0 L0 → IntsAt w la1 L1 → Calls Try.prog 29 #[.agg #[.int .i64 W, .int .i64 T, .slice a n cap], .slice la0 m0 lcap0, .slice la1 m1 lcap1] w (fun e w' => e = .returned (.bool (fairB W T xs L0 L1)) ∧ Below w.heap.size w w') := fun a cap la0 lcap0 la1 lcap1 w h hl0 hl1 => sFairOk_any W T a n cap xs la0 m0 lcap0 L0 la1 m1 lcap1 L1 w HN.out hsm' HM0.out hlm0' HM1.out hlm1' h hl0 hl1
    have hI : ∀ (a : Option Addr) (cap : Nat) (la0 : Option Addr) (lcap0 : Nat) (la1 : Option Addr) (lcap1 : Nat) (w : World), BoolsAt w a xs → IntsAt w la0 L0 → IntsAt w la1 L1 → Calls Try.prog 30 #[.agg #[.int .i64 W, .int .i64 T, .slice a n cap], .slice la0 m0 lcap0, .slice la1 m1 lcap1] w (fun e w' => e = .returned (.bool (fairB W T xs L0 L1)) ∧ Below w.heap.size w w') := fun a cap la0 lcap0 la1 lcap1 w h hl0 hl1 => iFairOk_any W T a n cap xs la0 m0 lcap0 L0 la1 m1 lcap1 L1 w HN.out hsm' HM0.out hlm0' HM1.out hlm1' h hl0 hl1
    generalize (fairB W T xs L0 L1) = okv at hS hI
    have HS := Lib.hid hS; clear hS
    have HI := Lib.hid hI; clear hI
    cases okv
    all_goals
      go_enter Try.func7, Try.ntmps7
      go_wp2_with fail
      refine (szRegion_any _ _ _ _ _ _ _ (by omega) (by omega) hn').mono ?_; rintro e w1 ⟨rfl, hb1⟩
      have b1 := below_seq (below1 _ _) hb1
      have z1 : w.heap.size + 1 ≤ w1.heap.size := by have := hb1.size; (try simp at this); omega
      have pa_1 := heap_later (heap_new _ _) hb1
      obtain ⟨c1_pa0, c1_pa1, c1_pa2⟩ := cells3 pa_1
      have l1_pa := heap_lt pa_1
      go_wp2_with fail
      refine (toRegion_any _ _ _ _ _ xs _ HN.out hsm' (HA.out.below b1)).mono ?_; rintro e w2 ⟨g2, rfl, ho2, hb2⟩
      have b2 := below_seq b1 hb2
      have z2 : w1.heap.size + 0 ≤ w2.heap.size := by have := hb2.size; (try simp at this); omega
      have pa_2 := heap_later pa_1 hb2
      have O2_2 := Lib.hid (ho2)
      clear pa_1 c1_pa0 c1_pa1 c1_pa2 l1_pa
      clear ho2
      go_wp2_with fail
      refine (toIntS_ex _ _ _ L0 _ HM0.out hlm0' (HL0.out.below b2)).mono ?_; rintro e w3 ⟨y3, rfl, ho3, hb3⟩
      have b3 := below_seq b2 hb3
      have z3 : w2.heap.size + 0 ≤ w3.heap.size := by have := hb3.size; (try simp at this); omega
      have pa_3 := heap_later pa_2 hb3
      have O2_3 := Lib.hid (OwnsB.below O2_2.out hb3)
      have S0_3 := Lib.hid (ho3)
      clear pa_2 O2_2
      clear ho3
      go_wp2_with fail
      refine (toIntS_ex _ _ _ L1 _ HM1.out hlm1' (HL1.out.below b3)).mono ?_; rintro e w4 ⟨y4, rfl, ho4, hb4⟩
      have b4 := below_seq b3 hb4
      have z4 : w3.heap.size + 0 ≤ w4.heap.size := by have := hb4.size; (try simp at this); omega
      have pa_4 := heap_later pa_3 hb4
      have O2_4 := Lib.hid (OwnsB.below O2_3.out hb4)
      have S0_4 := Lib.hid (OwnsI.below S0_3.out hb4)
      have S1_4 := Lib.hid (ho4)
      clear pa_3 O2_3 S0_3
      clear ho4
      go_wp2_with fail
      refine (HS.out _ _ _ _ _ _ _ (OwnsB.at O2_4.out) (OwnsI.at S0_4.out) (OwnsI.at S1_4.out)).mono ?_; rintro e w5 ⟨rfl, hb5⟩
      have b5 := below_seq b4 hb5
      have z5 : w4.heap.size + 0 ≤ w5.heap.size := by have := hb5.size; (try simp at this); omega
      have pa_5 := heap_later pa_4 hb5
      clear pa_4 O2_4 S0_4 S1_4
      obtain ⟨c5_pa0, c5_pa1, c5_pa2⟩ := cells3 pa_5
      have l5_pa := heap_lt pa_5
      go_wp2_with fail
      refine (toRegion_any _ _ _ _ _ xs _ HN.out hsm' (HA.out.below b5)).mono ?_; rintro e w6 ⟨g6, rfl, ho6, hb6⟩
      have b6 := below_seq b5 hb6
      have z6 : w5.heap.size + 0 ≤ w6.heap.size := by have := hb6.size; (try simp at this); omega
      have pa_6 := heap_later pa_5 hb6
      have OX_6 := Lib.hid (OwnsB.at ho6)
      clear pa_5 c5_pa0 c5_pa1 c5_pa2 l5_pa
      clear ho6
      go_wp2_with fail
      refine (toIntS_ex _ _ _ L0 _ HM0.out hlm0' (HL0.out.below (below_seq b6 (below1 _ _)))).mono ?_; rintro e w7 ⟨y7, rfl, ho7, hb7⟩
      have b7 := below_seq (below_seq b6 (below1 _ _)) hb7
      have z7 : w6.heap.size + 1 ≤ w7.heap.size := by have := hb7.size; (try simp at this); omega
      have pa_7 := heap_later (heap_later pa_6 (below1 _ _)) hb7
      have OX_7 := Lib.hid (BoolsAt.below (BoolsAt.one OX_6.out _) hb7)
      have px_7 := heap_later (heap_new _ _) hb7
      have X0_7 := Lib.hid (OwnsI.at ho7)
      clear pa_6 OX_6
      clear ho7
      go_wp2_with fail
      refine (toIntS_ex _ _ _ L1 _ HM1.out hlm1' (HL1.out.below b7)).mono ?_; rintro e w8 ⟨y8, rfl, ho8, hb8⟩
      have b8 := below_seq b7 hb8
      have z8 : w7.heap.size + 0 ≤ w8.heap.size := by have := hb8.size; (try simp at this); omega
      have pa_8 := heap_later pa_7 hb8
      have OX_8 := Lib.hid (BoolsAt.below OX_7.out hb8)
      have px_8 := heap_later px_7 hb8
      have X0_8 := Lib.hid (IntsAt.below X0_7.out hb8)
      have X1_8 := Lib.hid (OwnsI.at ho8)
      clear pa_7 OX_7 px_7 X0_7
      clear ho8
      obtain ⟨c8_px0, c8_px1, c8_px2⟩ := cells3 px_8
      have l8_px := heap_lt px_8
      go_wp2_with fail
      refine (HI.out _ _ _ _ _ _ _ OX_8.out X0_8.out X1_8.out).mono ?_; rintro e w9 ⟨rfl, hb9⟩
      have b9 := below_seq b8 hb9
      have z9 : w8.heap.size + 0 ≤ w9.heap.size := by have := hb9.size; (try simp at this); omega
      have pa_9 := heap_later pa_8 hb9
      have OX_9 := Lib.hid (BoolsAt.below OX_8.out hb9)
      have px_9 := heap_later px_8 hb9
      have X0_9 := Lib.hid (IntsAt.below X0_8.out hb9)
      have X1_9 := Lib.hid (IntsAt.below X1_8.out hb9)
      clear pa_8 OX_8 px_8 X0_8 X1_8 c8_px0 c8_px1 c8_px2 l8_px
      obtain ⟨c9_pa0, c9_pa1, c9_pa2⟩ := cells3 pa_9
      have l9_pa := heap_lt pa_9
      obtain ⟨c9_px0, c9_px1, c9_px2⟩ := cells3 px_9
      have l9_px := heap_lt px_9
      go_wp2_with fail
      have P9 : w9.drew.heap[w.heap.size]? = some _ := pa_9
      have Q9 : w9.drew.heap[w6.heap.size]? = some _ := px_9
      go_region_held3 (fun w' => w'.cell? ⟨w.heap.size, 0, none⟩ = some (.int .i64 W) ∧ w'.cell? ⟨w.heap.size, 1, none⟩ = some (.int .i64 T) ∧ w'.cell? ⟨w.heap.size, 2, none⟩ = some (.slice a n cap) ∧
          w'.cell? ⟨w6.heap.size, 0, none⟩ = some (.int .i64 W) ∧ w'.cell? ⟨w6.heap.size, 1, none⟩ = some (.int .i64 T) ∧ w'.cell? ⟨w6.heap.size, 2, none⟩ = some (.slice (some ⟨g6, 0, none⟩) n n))
        (go_keep)
        (first
          | (go_at_call 19; refine (toRegion_any _ _ _ _ _ xs _ HN.out hsm' (HA.out.below b9.drew)).mono ?_; rintro e w10 ⟨g10, rfl, ho10, hb10⟩; have p10 := heap_later P9 hb10; have q10 := heap_later Q9 hb10; obtain ⟨cA0, cA1, cA2⟩ := cells3 p10; obtain ⟨dA0, dA1, dA2⟩ := cells3 q10)
          | (go_at_call 22; refine (eqRegion_same _ _ _ _ _ _ _ xs _ HN.out hsm' ((show BoolsAt w9.drew _ xs from OX_9.out).below hb10) ho10.at).mono ?_; rintro e w11 ⟨rfl, hb11⟩; have p11 := heap_later p10 hb11; have q11 := heap_later q10 hb11; obtain ⟨cB0, cB1, cB2⟩ := cells3 p11; obtain ⟨dB0, dB1, dB2⟩ := cells3 q11))
      have bb11 : Below w9.heap.size w9 w11 := below_seq (below_seq (drew_below _) hb10) hb11
      have b11 := below_seq b9 bb11
      have z11 : w9.heap.size ≤ w11.heap.size := bb11.size
      have pa_11 := heap_later pa_9 bb11
      have OX_11 := Lib.hid (BoolsAt.below OX_9.out bb11)
      have px_11 := heap_later px_9 bb11
      have X0_11 := Lib.hid (IntsAt.below X0_9.out bb11)
      have X1_11 := Lib.hid (IntsAt.below X1_9.out bb11)
      clear pa_9 OX_9 px_9 X0_9 X1_9 c9_pa0 c9_pa1 c9_pa2 l9_pa c9_px0 c9_px1 c9_px2 l9_px p10 q10 cA0 cA1 cA2 dA0 dA1 dA2 p11 q11 cB0 cB1 cB2 dB0 dB1 dB2 P9 Q9 ho10
      go_wp2_with fail
      refine (toIntS_ex _ _ _ L0 _ HM0.out hlm0' (HL0.out.below b11)).mono ?_; rintro e w12 ⟨y12, rfl, ho12, hb12⟩
      have b12 := below_seq b11 hb12
      have z12 : w11.heap.size + 0 ≤ w12.heap.size := by have := hb12.size; (try simp at this); omega
      have pa_12 := heap_later pa_11 hb12
      have OX_12 := Lib.hid (BoolsAt.below OX_11.out hb12)
      have px_12 := heap_later px_11 hb12
      have X0_12 := Lib.hid (IntsAt.below X0_11.out hb12)
      have X1_12 := Lib.hid (IntsAt.below X1_11.out hb12)
      have I0_12 := Lib.hid (OwnsI.at ho12)
      clear pa_11 OX_11 px_11 X0_11 X1_11
      clear ho12
      go_wp2_with fail
      refine (eqIntS_below _ _ _ _ _ L0 _ HM0.out hlm0' X0_12.out I0_12.out).mono ?_; rintro e w13 ⟨rfl, hb13⟩
      have b13 := below_seq b12 hb13
      have z13 : w12.heap.size + 0 ≤ w13.heap.size := by have := hb13.size; (try simp at this); omega
      have pa_13 := heap_later pa_12 hb13
      have OX_13 := Lib.hid (BoolsAt.below OX_12.out hb13)
      have px_13 := heap_later px_12 hb13
      have X0_13 := Lib.hid (IntsAt.below X0_12.out hb13)
      have X1_13 := Lib.hid (IntsAt.below X1_12.out hb13)
      clear pa_12 OX_12 px_12 X0_12 X1_12 I0_12
      go_wp2_with fail
      refine (toIntS_ex _ _ _ L1 _ HM1.out hlm1' (HL1.out.below b13)).mono ?_; rintro e w14 ⟨y14, rfl, ho14, hb14⟩
      have b14 := below_seq b13 hb14
      have z14 : w13.heap.size + 0 ≤ w14.heap.size := by have := hb14.size; (try simp at this); omega
      have pa_14 := heap_later pa_13 hb14
      have OX_14 := Lib.hid (BoolsAt.below OX_13.out hb14)
      have px_14 := heap_later px_13 hb14
      have X0_14 := Lib.hid (IntsAt.below X0_13.out hb14)
      have X1_14 := Lib.hid (IntsAt.below X1_13.out hb14)
      have I1_14 := Lib.hid (OwnsI.at ho14)
      clear pa_13 OX_13 px_13 X0_13 X1_13
      clear ho14
      go_wp2_with fail
      refine (eqIntS_below _ _ _ _ _ L1 _ HM1.out hlm1' X1_14.out I1_14.out).mono ?_; rintro e w15 ⟨rfl, hb15⟩
      have b15 := below_seq b14 hb15
      have z15 : w14.heap.size + 0 ≤ w15.heap.size := by have := hb15.size; (try simp at this); omega
      have pa_15 := heap_later pa_14 hb15
      have OX_15 := Lib.hid (BoolsAt.below OX_14.out hb15)
      have px_15 := heap_later px_14 hb15
      have X0_15 := Lib.hid (IntsAt.below X0_14.out hb15)
      have X1_15 := Lib.hid (IntsAt.below X1_14.out hb15)
      clear pa_14 OX_14 px_14 X0_14 X1_14 I1_14
      go_wp2
      go_ret
      exact ⟨rfl, b15⟩

end Go.Proofs.Ythjocjiiihebbaa
