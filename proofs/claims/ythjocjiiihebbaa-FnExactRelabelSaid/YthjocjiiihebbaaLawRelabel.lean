/- The law FnExactRelabel: its walk. Generated from one pattern for all functions of a region and lists. -/
import Derived.Test.YthjocjiiihebbaaValid
import Derived.Test.YthjocjiiihebbaaInts
import Derived.Test.YthjocjiiihebbaaRelabI
import Derived.Test.YthjocjiiihebbaaRelabS
namespace Go.Proofs.Ythjocjiiihebbaa
open Go.RowKit
set_option linter.unusedVariables false
set_option maxRecDepth 100000
set_option linter.unusedSimpArgs false

theorem OwnsI.capLe {w : World} {B n cap : Nat} {a : Option Addr} {L : List Int} (h : OwnsI w B (.slice a n cap) L) : n ≤ cap := by
  rcases h.2 with ⟨e, e2⟩ | ⟨g', cap', cur, e, _, _, q1, _⟩
  · simp only [Value.slice.injEq] at e; omega
  · simp only [Value.slice.injEq] at e; rw [e.2.1, e.2.2]; exact q1

set_option maxHeartbeats 4000000 in
theorem lawRelabel_walk (W T : Int) (a : Option Addr) (n cap : Nat) (xs : List Bool) (la0 : Option Addr) (m0 lcap0 : Nat) (L0 : List Int) (la1 : Option Addr) (m1 lcap1 : Nat) (L1 : List Int) (w : World) (hn : n = xs.length) (hn' : n ≤ maxLen) (ha : BoolsAt w a xs) (hm0 : m0 = L0.length) (hm0' : m0 ≤ maxLen) (hl0 : IntsAt w la0 L0) (hm1 : m1 = L1.length) (hm1' : m1 ≤ maxLen) (hl1 : IntsAt w la1 L1) :
    Calls Try.prog 11 #[.agg #[.int .i64 W, .int .i64 T, .slice a n cap], .slice la0 m0 lcap0, .slice la1 m1 lcap1] w fun e w' => e = .returned (.bool true) ∧ Below w.heap.size w w' := by
  have HN := Lib.hid hn; clear hn
  have HA := Lib.hid ha; clear ha
  have HM0 := Lib.hid hm0; clear hm0
  have HL0 := Lib.hid hl0; clear hl0
  have HM1 := Lib.hid hm1; clear hm1
  have HL1 := Lib.hid hl1; clear hl1
  by_cases hlm0 : 1048576 < m0
  · unfold maxLen at hm0' hm1'
    go_enter Try.func11, Try.ntmps11
    go_wp2
    go_ret
    exact ⟨rfl, below1 _ _⟩
  have hlm0' : m0 ≤ 1048576 := by omega
  by_cases hlm1 : 1048576 < m1
  · unfold maxLen at hm0' hm1'
    go_enter Try.func11, Try.ntmps11
    go_wp2
    go_ret
    exact ⟨rfl, below1 _ _⟩
  have hlm1' : m1 ≤ 1048576 := by omega
  by_cases hsm : 1048576 < n
  · have hz := szB_neg hsm
    go_enter Try.func11, Try.ntmps11
    go_wp2_with (go_at_call 17; refine (szRegion_any _ _ _ _ _ _ _ (by omega) (by omega) hn').mono ?_; rintro e w1 ⟨rfl, hb⟩)
    go_ret
    exact ⟨rfl, below_seq (below1 _ _) hb⟩
  · have hsm' : n ≤ 1048576 := by omega
    have hz := szB_pos hsm'
    have hS : ∀ (a : Option Addr) (cap : Nat) (la0 : Option Addr) (lcap0 : Nat) (la1 : Option Addr) (lcap1 : Nat) (w : World), BoolsAt w a xs → IntsAt w la0 L0 → m1 ≤ lcap1 → IntsAt w la1 L1 → Calls Try.prog 38 #[.agg #[.int .i64 W, .int .i64 T, .slice a n cap], .slice la0 m0 lcap0, .slice la1 m1 lcap1] w (RetL w (relF W T xs L0 L1).length (relF W T xs L0 L1)) := fun a cap la0 lcap0 la1 lcap1 w h hl0 hc1 hl1 => sRelabel_ret W T a n cap xs la0 m0 lcap0 L0 la1 m1 lcap1 L1 w HN.out hsm' HM0.out hlm0' HM1.out hlm1' hc1 h hl0 hl1
    have hI : ∀ (a : Option Addr) (cap : Nat) (la0 : Option Addr) (lcap0 : Nat) (la1 : Option Addr) (lcap1 : Nat) (w : World), BoolsAt w a xs → IntsAt w la0 L0 → m1 ≤ lcap1 → IntsAt w la1 L1 → Calls Try.prog 39 #[.agg #[.int .i64 W, .int .i64 T, .slice a n cap], .slice la0 m0 lcap0, .slice la1 m1 lcap1] w (RetL w (relF W T xs L0 L1).length (relF W T xs L0 L1)) := fun a cap la0 lcap0 la1 lcap1 w h hl0 hc1 hl1 => iRelabel_ret W T a n cap xs la0 m0 lcap0 L0 la1 m1 lcap1 L1 w HN.out hsm' HM0.out hlm0' HM1.out hlm1' hc1 h hl0 hl1
    have hlen : (relF W T xs L0 L1).length ≤ 1048576 := by have := relF_le W T xs L0 L1; rw [← HM0.out] at this; omega
    generalize (relF W T xs L0 L1) = ys at hS hI hlen
    obtain ⟨r, hr⟩ : ∃ r, r = ys.length := ⟨_, rfl⟩
    rw [← hr] at hS hI hlen
    have HS := Lib.hid hS; clear hS
    have HI := Lib.hid hI; clear hI
    have HR := Lib.hid hr; clear hr
    go_enter Try.func11, Try.ntmps11
    go_wp2_with fail
    refine (szRegion_any _ _ _ _ _ _ _ (by omega) (by omega) hn').mono ?_; rintro e w1 ⟨rfl, hb1⟩
    have b1 := below_seq (below1 _ _) hb1
    have z1 : w.heap.size + 1 ≤ w1.heap.size := by have := hb1.size; (try simp at this); omega
    have pa_1 := heap_later (heap_new _ _) hb1
    obtain ⟨c1_pa0, c1_pa1, c1_pa2⟩ := cells3 pa_1
    have l1_pa := heap_lt pa_1
    go_wp2_with fail
    refine (toRegion_any _ _ _ _ _ xs _ HN.out hsm' (HA.out.below b1)).mono ?_; rintro e w2 ⟨g2, rfl, ho2, hb2⟩
    have b2 := below_seq b1 hb2
    have z2 : w1.heap.size + 0 ≤ w2.heap.size := by have := hb2.size; (try simp at this); omega
    have pa_2 := heap_later pa_1 hb2
    have O2_2 := Lib.hid (ho2)
    clear pa_1 c1_pa0 c1_pa1 c1_pa2 l1_pa
    clear ho2
    go_wp2_with fail
    refine (toIntS_ex _ _ _ L0 _ HM0.out hlm0' (HL0.out.below b2)).mono ?_; rintro e w3 ⟨y3, rfl, ho3, hb3⟩
    have b3 := below_seq b2 hb3
    have z3 : w2.heap.size + 0 ≤ w3.heap.size := by have := hb3.size; (try simp at this); omega
    have pa_3 := heap_later pa_2 hb3
    have O2_3 := Lib.hid (OwnsB.below O2_2.out hb3)
    have S0_3 := Lib.hid (ho3)
    clear pa_2 O2_2
    clear ho3
    go_wp2_with fail
    refine (toIntS_ex _ _ _ L1 _ HM1.out hlm1' (HL1.out.below b3)).mono ?_; rintro e w4 ⟨y4, rfl, ho4, hb4⟩
    have b4 := below_seq b3 hb4
    have z4 : w3.heap.size + 0 ≤ w4.heap.size := by have := hb4.size; (try simp at this); omega
    have pa_4 := heap_later pa_3 hb4
    have O2_4 := Lib.hid (OwnsB.below O2_3.out hb4)
    have S0_4 := Lib.hid (OwnsI.below S0_3.out hb4)
    have S1_4 := Lib.hid (ho4)
    clear pa_3 O2_3 S0_3
    clear ho4
    go_wp2_with fail
    refine (HS.out _ _ _ _ _ _ _ (OwnsB.at O2_4.out) (OwnsI.at S0_4.out) (OwnsI.capLe S1_4.out) (OwnsI.at S1_4.out)).mono ?_; rintro e w5 ⟨aS, capS, rfl, ho5, hb5⟩
    have b5 := below_seq b4 hb5
    have z5 : w4.heap.size + 0 ≤ w5.heap.size := by have := hb5.size; (try simp at this); omega
    have pa_5 := heap_later pa_4 hb5
    have IW_5 := Lib.hid (OwnsI.at ho5)
    clear pa_4 O2_4 S0_4 S1_4
    obtain ⟨c5_pa0, c5_pa1, c5_pa2⟩ := cells3 pa_5
    have l5_pa := heap_lt pa_5
    clear ho5
    have IWs := IW_5
    go_wp2_with fail
    refine (toRegion_any _ _ _ _ _ xs _ HN.out hsm' (HA.out.below b5)).mono ?_; rintro e w6 ⟨g6, rfl, ho6, hb6⟩
    have b6 := below_seq b5 hb6
    have z6 : w5.heap.size + 0 ≤ w6.heap.size := by have := hb6.size; (try simp at this); omega
    have pa_6 := heap_later pa_5 hb6
    have IW_6 := Lib.hid (IntsAt.below IW_5.out hb6)
    have OX_6 := Lib.hid (ho6)
    clear pa_5 IW_5 c5_pa0 c5_pa1 c5_pa2 l5_pa
    clear ho6
    have OXs := OX_6
    go_wp2_with fail
    refine (toIntS_ex _ _ _ L0 _ HM0.out hlm0' (HL0.out.below (below_seq b6 (below1 _ _)))).mono ?_; rintro e w7 ⟨y7, rfl, ho7, hb7⟩
    have b7 := below_seq (below_seq b6 (below1 _ _)) hb7
    have z7 : w6.heap.size + 1 ≤ w7.heap.size := by have := hb7.size; (try simp at this); omega
    have pa_7 := heap_later (heap_later pa_6 (below1 _ _)) hb7
    have IW_7 := Lib.hid (IntsAt.below (IntsAt.one IW_6.out _) hb7)
    have OX_7 := Lib.hid (OwnsB.below (OwnsB.alloc OX_6.out _) hb7)
    have px_7 := heap_later (heap_new _ _) hb7
    have X0_7 := Lib.hid (OwnsI.lower ho7 (show w6.heap.size + 1 ≤ _ by simp))
    clear pa_6 IW_6 OX_6
    clear ho7
    have X0s := X0_7
    go_wp2_with fail
    refine (toIntS_ex _ _ _ L1 _ HM1.out hlm1' (HL1.out.below b7)).mono ?_; rintro e w8 ⟨y8, rfl, ho8, hb8⟩
    have b8 := below_seq b7 hb8
    have z8 : w7.heap.size + 0 ≤ w8.heap.size := by have := hb8.size; (try simp at this); omega
    have pa_8 := heap_later pa_7 hb8
    have IW_8 := Lib.hid (IntsAt.below IW_7.out hb8)
    have OX_8 := Lib.hid (OwnsB.below OX_7.out hb8)
    have px_8 := heap_later px_7 hb8
    have X0_8 := Lib.hid (OwnsI.below X0_7.out hb8)
    have X1_8 := Lib.hid (OwnsI.lower ho8 (show w7.heap.size + 0 ≤ _ by simp))
    clear pa_7 IW_7 OX_7 px_7 X0_7
    clear ho8
    have X1s := X1_8
    obtain ⟨c8_px0, c8_px1, c8_px2⟩ := cells3 px_8
    have l8_px := heap_lt px_8
    go_wp2_with fail
    refine (HI.out _ _ _ _ _ _ _ (OwnsB.at OX_8.out) (OwnsI.at X0_8.out) (OwnsI.capLe X1_8.out) (OwnsI.at X1_8.out)).mono ?_; rintro e w9 ⟨aG, capG, rfl, ho9, hb9⟩
    have b9 := below_seq b8 hb9
    have z9 : w8.heap.size + 0 ≤ w9.heap.size := by have := hb9.size; (try simp at this); omega
    have pa_9 := heap_later pa_8 hb9
    have IW_9 := Lib.hid (IntsAt.below IW_8.out hb9)
    have OX_9 := Lib.hid (OwnsB.below OX_8.out hb9)
    have px_9 := heap_later px_8 hb9
    have X0_9 := Lib.hid (OwnsI.below X0_8.out hb9)
    have X1_9 := Lib.hid (OwnsI.below X1_8.out hb9)
    have VG_9 := Lib.hid (OwnsI.lower ho9 (show w8.heap.size + 0 ≤ _ by simp))
    clear pa_8 IW_8 OX_8 px_8 X0_8 X1_8 c8_px0 c8_px1 c8_px2 l8_px
    clear ho9
    have VGs := VG_9
    go_wp2_with fail
    refine (eqIntS_below _ _ _ _ _ ys _ HR.out hlen (OwnsI.at VG_9.out) IW_9.out).mono ?_; rintro e w10 ⟨rfl, hb10⟩
    have b10 := below_seq b9 hb10
    have z10 : w9.heap.size + 0 ≤ w10.heap.size := by have := hb10.size; (try simp at this); omega
    have pa_10 := heap_later pa_9 hb10
    have IW_10 := Lib.hid (IntsAt.below IW_9.out hb10)
    have OX_10 := Lib.hid (OwnsB.below OX_9.out hb10)
    have px_10 := heap_later px_9 hb10
    have X0_10 := Lib.hid (OwnsI.below X0_9.out hb10)
    have X1_10 := Lib.hid (OwnsI.below X1_9.out hb10)
    have VG_10 := Lib.hid (OwnsI.below VG_9.out hb10)
    clear pa_9 IW_9 OX_9 px_9 X0_9 X1_9 VG_9
    obtain ⟨c10_pa0, c10_pa1, c10_pa2⟩ := cells3 pa_10
    have l10_pa := heap_lt pa_10
    obtain ⟨c10_px0, c10_px1, c10_px2⟩ := cells3 px_10
    have l10_px := heap_lt px_10
    go_wp2_with fail
    have P10 : w10.drew.heap[w.heap.size]? = some _ := pa_10
    have Q10 : w10.drew.heap[w6.heap.size]? = some _ := px_10
    go_region_held3 (fun w' => w'.cell? ⟨w.heap.size, 0, none⟩ = some (.int .i64 W) ∧ w'.cell? ⟨w.heap.size, 1, none⟩ = some (.int .i64 T) ∧ w'.cell? ⟨w.heap.size, 2, none⟩ = some (.slice a n cap) ∧
        w'.cell? ⟨w6.heap.size, 0, none⟩ = some (.int .i64 W) ∧ w'.cell? ⟨w6.heap.size, 1, none⟩ = some (.int .i64 T) ∧ w'.cell? ⟨w6.heap.size, 2, none⟩ = some (.slice (some ⟨g6, 0, none⟩) n n))
      (go_keep)
      (first
        | (go_at_call 19; refine (toRegion_any _ _ _ _ _ xs _ HN.out hsm' (HA.out.below b10.drew)).mono ?_; rintro e w11 ⟨g11, rfl, ho11, hb11⟩; have p11 := heap_later P10 hb11; have q11 := heap_later Q10 hb11; obtain ⟨cA0, cA1, cA2⟩ := cells3 p11; obtain ⟨dA0, dA1, dA2⟩ := cells3 q11)
        | (go_at_call 22; refine (eqRegion_same _ _ _ _ _ _ _ xs _ HN.out hsm' ((show BoolsAt w10.drew _ xs from OwnsB.at OX_10.out).below hb11) ho11.at).mono ?_; rintro e w12 ⟨rfl, hb12⟩; have p12 := heap_later p11 hb12; have q12 := heap_later q11 hb12; obtain ⟨cB0, cB1, cB2⟩ := cells3 p12; obtain ⟨dB0, dB1, dB2⟩ := cells3 q12))
    have bb12 : Below w10.heap.size w10 w12 := below_seq (below_seq (drew_below _) hb11) hb12
    have b12 := below_seq b10 bb12
    have z12 : w10.heap.size ≤ w12.heap.size := bb12.size
    have pa_12 := heap_later pa_10 bb12
    have IW_12 := Lib.hid (IntsAt.below IW_10.out bb12)
    have OX_12 := Lib.hid (OwnsB.below OX_10.out bb12)
    have px_12 := heap_later px_10 bb12
    have X0_12 := Lib.hid (OwnsI.below X0_10.out bb12)
    have X1_12 := Lib.hid (OwnsI.below X1_10.out bb12)
    have VG_12 := Lib.hid (OwnsI.below VG_10.out bb12)
    clear pa_10 IW_10 OX_10 px_10 X0_10 X1_10 VG_10 c10_pa0 c10_pa1 c10_pa2 l10_pa c10_px0 c10_px1 c10_px2 l10_px p11 q11 cA0 cA1 cA2 dA0 dA1 dA2 p12 q12 cB0 cB1 cB2 dB0 dB1 dB2 P10 Q10 ho11
    go_wp2_with fail
    refine (toIntS_ex _ _ _ L0 _ HM0.out hlm0' (HL0.out.below b12)).mono ?_; rintro e w13 ⟨y13, rfl, ho13, hb13⟩
    have b13 := below_seq b12 hb13
    have z13 : w12.heap.size + 0 ≤ w13.heap.size := by have := hb13.size; (try simp at this); omega
    have pa_13 := heap_later pa_12 hb13
    have IW_13 := Lib.hid (IntsAt.below IW_12.out hb13)
    have OX_13 := Lib.hid (OwnsB.below OX_12.out hb13)
    have px_13 := heap_later px_12 hb13
    have X0_13 := Lib.hid (OwnsI.below X0_12.out hb13)
    have X1_13 := Lib.hid (OwnsI.below X1_12.out hb13)
    have VG_13 := Lib.hid (OwnsI.below VG_12.out hb13)
    have I0_13 := Lib.hid (OwnsI.at ho13)
    clear pa_12 IW_12 OX_12 px_12 X0_12 X1_12 VG_12
    clear ho13
    go_wp2_with fail
    refine (eqIntS_below _ _ _ _ _ L0 _ HM0.out hlm0' (OwnsI.at X0_13.out) I0_13.out).mono ?_; rintro e w14 ⟨rfl, hb14⟩
    have b14 := below_seq b13 hb14
    have z14 : w13.heap.size + 0 ≤ w14.heap.size := by have := hb14.size; (try simp at this); omega
    have pa_14 := heap_later pa_13 hb14
    have IW_14 := Lib.hid (IntsAt.below IW_13.out hb14)
    have OX_14 := Lib.hid (OwnsB.below OX_13.out hb14)
    have px_14 := heap_later px_13 hb14
    have X0_14 := Lib.hid (OwnsI.below X0_13.out hb14)
    have X1_14 := Lib.hid (OwnsI.below X1_13.out hb14)
    have VG_14 := Lib.hid (OwnsI.below VG_13.out hb14)
    clear pa_13 IW_13 OX_13 px_13 X0_13 X1_13 VG_13 I0_13
    go_wp2_with fail
    refine (toIntS_ex _ _ _ L1 _ HM1.out hlm1' (HL1.out.below b14)).mono ?_; rintro e w15 ⟨y15, rfl, ho15, hb15⟩
    have b15 := below_seq b14 hb15
    have z15 : w14.heap.size + 0 ≤ w15.heap.size := by have := hb15.size; (try simp at this); omega
    have pa_15 := heap_later pa_14 hb15
    have IW_15 := Lib.hid (IntsAt.below IW_14.out hb15)
    have OX_15 := Lib.hid (OwnsB.below OX_14.out hb15)
    have px_15 := heap_later px_14 hb15
    have X0_15 := Lib.hid (OwnsI.below X0_14.out hb15)
    have X1_15 := Lib.hid (OwnsI.below X1_14.out hb15)
    have VG_15 := Lib.hid (OwnsI.below VG_14.out hb15)
    have I1_15 := Lib.hid (OwnsI.at ho15)
    clear pa_14 IW_14 OX_14 px_14 X0_14 X1_14 VG_14
    clear ho15
    go_wp2_with fail
    refine (eqIntS_below _ _ _ _ _ L1 _ HM1.out hlm1' (OwnsI.at X1_15.out) I1_15.out).mono ?_; rintro e w16 ⟨rfl, hb16⟩
    have b16 := below_seq b15 hb16
    have z16 : w15.heap.size + 0 ≤ w16.heap.size := by have := hb16.size; (try simp at this); omega
    have pa_16 := heap_later pa_15 hb16
    have IW_16 := Lib.hid (IntsAt.below IW_15.out hb16)
    have OX_16 := Lib.hid (OwnsB.below OX_15.out hb16)
    have px_16 := heap_later px_15 hb16
    have X0_16 := Lib.hid (OwnsI.below X0_15.out hb16)
    have X1_16 := Lib.hid (OwnsI.below X1_15.out hb16)
    have VG_16 := Lib.hid (OwnsI.below VG_15.out hb16)
    clear pa_15 IW_15 OX_15 px_15 X0_15 X1_15 VG_15 I1_15
    obtain ⟨c16_px0, c16_px1, c16_px2⟩ := cells3 px_16
    have l16_px := heap_lt px_16
    go_wp2_with fail
    refine (markRegion_own _ _ _ _ _ w5.heap.size _ xs _ HN.out hsm' (by omega) (by omega) (by omega) OX_16.out).mono ?_; rintro e w17 ⟨rfl, ho17, hb17⟩
    have b17 := below_grown b16 hb17 (Nat.le_refl _) (OwnsB.ownAt OX_16.out (by omega))
    have z17 : w16.heap.size ≤ w17.heap.size := hb17.size
    have pa_17 := heap_grown pa_16 hb17 (OwnsB.ownBlock OX_16.out (by omega))
    have IW_17 := Lib.hid (IntsAt.grown IW_16.out IWs.out hb17 (OwnsB.ownAt OX_16.out (by omega)))
    have px_17 := heap_grown px_16 hb17 (fun e => by have h9 := OwnsB.blkLt OXs.out _ e; omega)
    have X0_17 := Lib.hid (OwnsI.keptBy X0_16.out hb17 (fun k e => by have h9 := OwnsB.blkLt OXs.out _ e; omega))
    have X1_17 := Lib.hid (OwnsI.keptBy X1_16.out hb17 (fun k e => by have h9 := OwnsB.blkLt OXs.out _ e; omega))
    have VG_17 := Lib.hid (OwnsI.keptBy VG_16.out hb17 (fun k e => by have h9 := OwnsB.blkLt OXs.out _ e; omega))
    clear pa_16 IW_16 OX_16 px_16 X0_16 X1_16 VG_16 c16_px0 c16_px1 c16_px2 l16_px
    clear ho17
    go_wp2_with fail
    refine (markIntS_own _ _ _ (w6.heap.size + 1) _ L0 _ HM0.out hlm0' (by omega) (by omega) X0_17.out).mono ?_; rintro e w18 ⟨rfl, ho18, hb18⟩
    have b18 := below_grown b17 hb18 (Nat.le_refl _) (OwnsI.ownAt X0_17.out (by omega))
    have z18 : w17.heap.size ≤ w18.heap.size := hb18.size
    have pa_18 := heap_grown pa_17 hb18 (OwnsI.ownBlock X0_17.out (by omega))
    have IW_18 := Lib.hid (IntsAt.grown IW_17.out IWs.out hb18 (OwnsI.ownAt X0_17.out (by omega)))
    have px_18 := heap_grown px_17 hb18 (OwnsI.ownBlock X0_17.out (by omega))
    have X1_18 := Lib.hid (OwnsI.keptBy X1_17.out hb18 (fun k e => by have h9 := OwnsI.blkLt X0s.out _ e; omega))
    have VG_18 := Lib.hid (OwnsI.keptBy VG_17.out hb18 (fun k e => by have h9 := OwnsI.blkLt X0s.out _ e; omega))
    clear pa_17 IW_17 px_17 X0_17 X1_17 VG_17
    clear ho18
    go_wp2_with fail
    refine (markIntS_own _ _ _ (w7.heap.size + 0) _ L1 _ HM1.out hlm1' (by omega) (by omega) X1_18.out).mono ?_; rintro e w19 ⟨rfl, ho19, hb19⟩
    have b19 := below_grown b18 hb19 (Nat.le_refl _) (OwnsI.ownAt X1_18.out (by omega))
    have z19 : w18.heap.size ≤ w19.heap.size := hb19.size
    have pa_19 := heap_grown pa_18 hb19 (OwnsI.ownBlock X1_18.out (by omega))
    have IW_19 := Lib.hid (IntsAt.grown IW_18.out IWs.out hb19 (OwnsI.ownAt X1_18.out (by omega)))
    have px_19 := heap_grown px_18 hb19 (OwnsI.ownBlock X1_18.out (by omega))
    have VG_19 := Lib.hid (OwnsI.keptBy VG_18.out hb19 (fun k e => by have h9 := OwnsI.blkLt X1s.out _ e; omega))
    clear pa_18 IW_18 px_18 X1_18 VG_18
    clear ho19
    go_wp2_with fail
    refine (eqIntS_below _ _ _ _ _ ys _ HR.out hlen (OwnsI.at VG_19.out) IW_19.out).mono ?_; rintro e w20 ⟨rfl, hb20⟩
    have b20 := below_seq b19 hb20
    have z20 : w19.heap.size + 0 ≤ w20.heap.size := by have := hb20.size; (try simp at this); omega
    have pa_20 := heap_later pa_19 hb20
    have IW_20 := Lib.hid (IntsAt.below IW_19.out hb20)
    have px_20 := heap_later px_19 hb20
    have VG_20 := Lib.hid (OwnsI.below VG_19.out hb20)
    clear pa_19 IW_19 px_19 VG_19
    go_wp2_with fail
    refine (markIntS_own _ _ _ (w8.heap.size + 0) _ ys _ HR.out hlen (by omega) (by omega) VG_20.out).mono ?_; rintro e w21 ⟨rfl, ho21, hb21⟩
    have b21 := below_grown b20 hb21 (Nat.le_refl _) (OwnsI.ownAt VG_20.out (by omega))
    have z21 : w20.heap.size ≤ w21.heap.size := hb21.size
    have pa_21 := heap_grown pa_20 hb21 (OwnsI.ownBlock VG_20.out (by omega))
    have IW_21 := Lib.hid (IntsAt.grown IW_20.out IWs.out hb21 (OwnsI.ownAt VG_20.out (by omega)))
    have px_21 := heap_grown px_20 hb21 (OwnsI.ownBlock VG_20.out (by omega))
    have M_21 := Lib.hid (ho21)
    clear pa_20 IW_20 px_20 VG_20
    clear ho21
    go_wp2_with fail
    refine (heldIntS_below _ _ _ _ _ hlen (by omega) (by omega) (marksI_at M_21.out)).mono ?_; rintro e w22 ⟨rfl, hb22⟩
    have b22 := below_seq b21 hb22
    have z22 : w21.heap.size + 0 ≤ w22.heap.size := by have := hb22.size; (try simp at this); omega
    have pa_22 := heap_later pa_21 hb22
    have IW_22 := Lib.hid (IntsAt.below IW_21.out hb22)
    have px_22 := heap_later px_21 hb22
    have M_22 := Lib.hid (OwnsI.below M_21.out hb22)
    clear pa_21 IW_21 px_21 M_21
    obtain ⟨c22_pa0, c22_pa1, c22_pa2⟩ := cells3 pa_22
    have l22_pa := heap_lt pa_22
    go_wp2_with fail
    refine (toRegion_any _ _ _ _ _ xs _ HN.out hsm' (HA.out.below b22)).mono ?_; rintro e w23 ⟨g23, rfl, ho23, hb23⟩
    have b23 := below_seq b22 hb23
    have z23 : w22.heap.size + 0 ≤ w23.heap.size := by have := hb23.size; (try simp at this); omega
    have pa_23 := heap_later pa_22 hb23
    have IW_23 := Lib.hid (IntsAt.below IW_22.out hb23)
    have px_23 := heap_later px_22 hb23
    have M_23 := Lib.hid (OwnsI.below M_22.out hb23)
    have O18_23 := Lib.hid (ho23)
    clear pa_22 IW_22 px_22 M_22 c22_pa0 c22_pa1 c22_pa2 l22_pa
    clear ho23
    go_wp2_with fail
    refine (toIntS_ex _ _ _ L0 _ HM0.out hlm0' (HL0.out.below b23)).mono ?_; rintro e w24 ⟨y24, rfl, ho24, hb24⟩
    have b24 := below_seq b23 hb24
    have z24 : w23.heap.size + 0 ≤ w24.heap.size := by have := hb24.size; (try simp at this); omega
    have pa_24 := heap_later pa_23 hb24
    have IW_24 := Lib.hid (IntsAt.below IW_23.out hb24)
    have px_24 := heap_later px_23 hb24
    have M_24 := Lib.hid (OwnsI.below M_23.out hb24)
    have O18_24 := Lib.hid (OwnsB.below O18_23.out hb24)
    have H0_24 := Lib.hid (ho24)
    clear pa_23 IW_23 px_23 M_23 O18_23
    clear ho24
    go_wp2_with fail
    refine (toIntS_ex _ _ _ L1 _ HM1.out hlm1' (HL1.out.below b24)).mono ?_; rintro e w25 ⟨y25, rfl, ho25, hb25⟩
    have b25 := below_seq b24 hb25
    have z25 : w24.heap.size + 0 ≤ w25.heap.size := by have := hb25.size; (try simp at this); omega
    have pa_25 := heap_later pa_24 hb25
    have IW_25 := Lib.hid (IntsAt.below IW_24.out hb25)
    have px_25 := heap_later px_24 hb25
    have M_25 := Lib.hid (OwnsI.below M_24.out hb25)
    have O18_25 := Lib.hid (OwnsB.below O18_24.out hb25)
    have H0_25 := Lib.hid (OwnsI.below H0_24.out hb25)
    have H1_25 := Lib.hid (ho25)
    clear pa_24 IW_24 px_24 M_24 O18_24 H0_24
    clear ho25
    go_wp2_with fail
    refine (HI.out _ _ _ _ _ _ _ (OwnsB.at O18_25.out) (OwnsI.at H0_25.out) (OwnsI.capLe H1_25.out) (OwnsI.at H1_25.out)).mono ?_; rintro e w26 ⟨aH, capH, rfl, ho26, hb26⟩
    have b26 := below_seq b25 hb26
    have z26 : w25.heap.size + 0 ≤ w26.heap.size := by have := hb26.size; (try simp at this); omega
    have pa_26 := heap_later pa_25 hb26
    have IW_26 := Lib.hid (IntsAt.below IW_25.out hb26)
    have px_26 := heap_later px_25 hb26
    have M_26 := Lib.hid (OwnsI.below M_25.out hb26)
    have IH_26 := Lib.hid (OwnsI.at ho26)
    clear pa_25 IW_25 px_25 M_25 O18_25 H0_25 H1_25
    clear ho26
    go_wp2_with fail
    refine (eqIntS_below _ _ _ _ _ ys _ HR.out hlen IH_26.out IW_26.out).mono ?_; rintro e w27 ⟨rfl, hb27⟩
    have b27 := below_seq b26 hb27
    have z27 : w26.heap.size + 0 ≤ w27.heap.size := by have := hb27.size; (try simp at this); omega
    have pa_27 := heap_later pa_26 hb27
    have IW_27 := Lib.hid (IntsAt.below IW_26.out hb27)
    have px_27 := heap_later px_26 hb27
    have M_27 := Lib.hid (OwnsI.below M_26.out hb27)
    have IH_27 := Lib.hid (IntsAt.below IH_26.out hb27)
    clear pa_26 IW_26 px_26 M_26 IH_26
    go_wp2_with fail
    refine (heldIntS_below _ _ _ _ _ hlen (by omega) (by omega) (marksI_at M_27.out)).mono ?_; rintro e w28 ⟨rfl, hb28⟩
    have b28 := below_seq b27 hb28
    have z28 : w27.heap.size + 0 ≤ w28.heap.size := by have := hb28.size; (try simp at this); omega
    have pa_28 := heap_later pa_27 hb28
    have IW_28 := Lib.hid (IntsAt.below IW_27.out hb28)
    have px_28 := heap_later px_27 hb28
    have M_28 := Lib.hid (OwnsI.below M_27.out hb28)
    have IH_28 := Lib.hid (IntsAt.below IH_27.out hb28)
    clear pa_27 IW_27 px_27 M_27 IH_27
    go_wp2
    go_ret
    exact ⟨rfl, b28⟩

end Go.Proofs.Ythjocjiiihebbaa
