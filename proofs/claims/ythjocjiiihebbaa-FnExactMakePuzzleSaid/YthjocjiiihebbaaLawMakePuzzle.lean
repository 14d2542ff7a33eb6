/- The law FnExactMakePuzzle: its walk. Generated from one pattern for all functions of a region and lists. -/
import Derived.Test.YthjocjiiihebbaaValid
import Derived.Test.YthjocjiiihebbaaInts
import Derived.Test.YthjocjiiihebbaaMakeS
namespace Go.Proofs.Ythjocjiiihebbaa
open Go.RowKit
set_option linter.unusedVariables false
set_option maxRecDepth 100000
set_option linter.unusedSimpArgs false

set_option maxHeartbeats 4000000 in
theorem lawMakePuzzle_walk (W T : Int) (a : Option Addr) (n cap : Nat) (xs : List Bool) (la0 : Option Addr) (m0 lcap0 : Nat) (L0 : List Int) (f : Int) (w : World) (hn : n = xs.length) (hn' : n ≤ maxLen) (ha : BoolsAt w a xs) (hm0 : m0 = L0.length) (hm0' : m0 ≤ maxLen) (hl0 : IntsAt w la0 L0) :
    Calls Try.prog 9 #[.agg #[.int .i64 W, .int .i64 T, .slice a n cap], .slice la0 m0 lcap0, .int .i64 f] w fun e w' => e = .returned (.bool true) ∧ Below w.heap.size w w' := by
  have HN := Lib.hid hn; clear hn
  have HA := Lib.hid ha; clear ha
  have HM0 := Lib.hid hm0; clear hm0
  have HL0 := Lib.hid hl0; clear hl0
  by_cases hlm0 : 1048576 < m0
  · unfold maxLen at hm0'
    go_enter Try.func9, Try.ntmps9
    go_wp2
    go_ret
    exact ⟨rfl, below1 _ _⟩
  have hlm0' : m0 ≤ 1048576 := by omega
  by_cases hsm : 1048576 < n
  · have hz := szB_neg hsm
    go_enter Try.func9, Try.ntmps9
    go_wp2_with (go_at_call 17; refine (szRegion_any _ _ _ _ _ _ _ (by omega) (by omega) hn').mono ?_; rintro e w1 ⟨rfl, hb⟩)
    go_ret
    exact ⟨rfl, below_seq (below1 _ _) hb⟩
  · have hsm' : n ≤ 1048576 := by omega
    have hz := szB_pos hsm'
    have hS : ∀ (a : Option Addr) (cap : Nat) (la0 : Option Addr) (lcap0 : Nat) (w : World), BoolsAt w a xs → IntsAt w la0 L0 → Calls Try.prog 33 #[.agg #[.int .i64 W, .int .i64 T, .slice a n cap], .slice la0 m0 lcap0, .int .i64 f] w (RetL w (mkF W T xs L0 f).length (mkF W T xs L0 f)) := fun a cap la0 lcap0 w h hl0 => sMakePuzzle_ret W T a n cap xs la0 m0 lcap0 L0 f w HN.out hsm' HM0.out hlm0' h hl0
    have hI : ∀ (a : Option Addr) (cap : Nat) (la0 : Option Addr) (lcap0 : Nat) (w : World), BoolsAt w a xs → IntsAt w la0 L0 → Calls Try.prog 34 #[.agg #[.int .i64 W, .int .i64 T, .slice a n cap], .slice la0 m0 lcap0, .int .i64 f] w (RetL w (mkF W T xs L0 f).length (mkF W T xs L0 f)) := fun a cap la0 lcap0 w h hl0 => iMakePuzzle_ret W T a n cap xs la0 m0 lcap0 L0 f w HN.out hsm' HM0.out hlm0' h hl0
    have hlen : (mkF W T xs L0 f).length ≤ 1048576 := by have := mkF_le W T xs L0 f; rw [← HM0.out] at this; omega
    generalize (mkF W T xs L0 f) = ys at hS hI hlen
    obtain ⟨r, hr⟩ : ∃ r, r = ys.length := ⟨_, rfl⟩
    rw [← hr] at hS hI hlen
    have HS := Lib.hid hS; clear hS
    have HI := Lib.hid hI; clear hI
    have HR := Lib.hid hr; clear hr
    go_enter Try.func9, Try.ntmps9
    go_wp2_with fail
    refine (szRegion_any _ _ _ _ _ _ _ (by omega) (by omega) hn').mono ?_; rintro e w1 ⟨rfl, hb1⟩
    have b1 := below_seq (below1 _ _) hb1
    have z1 : w.heap.size + 1 ≤ w1.heap.size := by have := hb1.size; (try simp at this); omega
    have pa_1 := heap_later (heap_new _ _) hb1
    obtain ⟨c1_pa0, c1_pa1, c1_pa2⟩ := cells3 pa_1
    have l1_pa := heap_lt pa_1
    go_wp2_with fail
    refine (toRegion_any _ _ _ _ _ xs _ HN.out hsm' (HA.out.below b1)).mono ?_; rintro e w2 ⟨g2, rfl, ho2, hb2⟩
    have b2 := below_seq b1 hb2
    have z2 : w1.heap.size + 0 ≤ w2.heap.size := by have := hb2.size; (try simp at this); omega
    have pa_2 := heap_later pa_1 hb2
    have O2_2 := Lib.hid (ho2)
    clear pa_1 c1_pa0 c1_pa1 c1_pa2 l1_pa
    clear ho2
    go_wp2_with fail
    refine (toIntS_ex _ _ _ L0 _ HM0.out hlm0' (HL0.out.below b2)).mono ?_; rintro e w3 ⟨y3, rfl, ho3, hb3⟩
    have b3 := below_seq b2 hb3
    have z3 : w2.heap.size + 0 ≤ w3.heap.size := by have := hb3.size; (try simp at this); omega
    have pa_3 := heap_later pa_2 hb3
    have O2_3 := Lib.hid (OwnsB.below O2_2.out hb3)
    have S0_3 := Lib.hid (ho3)
    clear pa_2 O2_2
    clear ho3
    go_wp2_with fail
    refine (HS.out _ _ _ _ _ (OwnsB.at O2_3.out) (OwnsI.at S0_3.out)).mono ?_; rintro e w4 ⟨aS, capS, rfl, ho4, hb4⟩
    have b4 := below_seq b3 hb4
    have z4 : w3.heap.size + 0 ≤ w4.heap.size := by have := hb4.size; (try simp at this); omega
    have pa_4 := heap_later pa_3 hb4
    have IW_4 := Lib.hid (OwnsI.at ho4)
    clear pa_3 O2_3 S0_3
    obtain ⟨c4_pa0, c4_pa1, c4_pa2⟩ := cells3 pa_4
    have l4_pa := heap_lt pa_4
    clear ho4
    have IWs := IW_4
    go_wp2_with fail
    refine (toRegion_any _ _ _ _ _ xs _ HN.out hsm' (HA.out.below b4)).mono ?_; rintro e w5 ⟨g5, rfl, ho5, hb5⟩
    have b5 := below_seq b4 hb5
    have z5 : w4.heap.size + 0 ≤ w5.heap.size := by have := hb5.size; (try simp at this); omega
    have pa_5 := heap_later pa_4 hb5
    have IW_5 := Lib.hid (IntsAt.below IW_4.out hb5)
    have OX_5 := Lib.hid (ho5)
    clear pa_4 IW_4 c4_pa0 c4_pa1 c4_pa2 l4_pa
    clear ho5
    have OXs := OX_5
    go_wp2_with fail
    refine (toIntS_ex _ _ _ L0 _ HM0.out hlm0' (HL0.out.below (below_seq b5 (below1 _ _)))).mono ?_; rintro e w6 ⟨y6, rfl, ho6, hb6⟩
    have b6 := below_seq (below_seq b5 (below1 _ _)) hb6
    have z6 : w5.heap.size + 1 ≤ w6.heap.size := by have := hb6.size; (try simp at this); omega
    have pa_6 := heap_later (heap_later pa_5 (below1 _ _)) hb6
    have IW_6 := Lib.hid (IntsAt.below (IntsAt.one IW_5.out _) hb6)
    have OX_6 := Lib.hid (OwnsB.below (OwnsB.alloc OX_5.out _) hb6)
    have px_6 := heap_later (heap_new _ _) hb6
    have X0_6 := Lib.hid (OwnsI.lower ho6 (show w5.heap.size + 1 ≤ _ by simp))
    clear pa_5 IW_5 OX_5
    clear ho6
    have X0s := X0_6
    obtain ⟨c6_px0, c6_px1, c6_px2⟩ := cells3 px_6
    have l6_px := heap_lt px_6
    go_wp2_with fail
    refine (HI.out _ _ _ _ _ (OwnsB.at OX_6.out) (OwnsI.at X0_6.out)).mono ?_; rintro e w7 ⟨aG, capG, rfl, ho7, hb7⟩
    have b7 := below_seq b6 hb7
    have z7 : w6.heap.size + 0 ≤ w7.heap.size := by have := hb7.size; (try simp at this); omega
    have pa_7 := heap_later pa_6 hb7
    have IW_7 := Lib.hid (IntsAt.below IW_6.out hb7)
    have OX_7 := Lib.hid (OwnsB.below OX_6.out hb7)
    have px_7 := heap_later px_6 hb7
    have X0_7 := Lib.hid (OwnsI.below X0_6.out hb7)
    have VG_7 := Lib.hid (OwnsI.lower ho7 (show w6.heap.size + 0 ≤ _ by simp))
    clear pa_6 IW_6 OX_6 px_6 X0_6 c6_px0 c6_px1 c6_px2 l6_px
    clear ho7
    have VGs := VG_7
    go_wp2_with fail
    refine (eqIntS_below _ _ _ _ _ ys _ HR.out hlen (OwnsI.at VG_7.out) IW_7.out).mono ?_; rintro e w8 ⟨rfl, hb8⟩
    have b8 := below_seq b7 hb8
    have z8 : w7.heap.size + 0 ≤ w8.heap.size := by have := hb8.size; (try simp at this); omega
    have pa_8 := heap_later pa_7 hb8
    have IW_8 := Lib.hid (IntsAt.below IW_7.out hb8)
    have OX_8 := Lib.hid (OwnsB.below OX_7.out hb8)
    have px_8 := heap_later px_7 hb8
    have X0_8 := Lib.hid (OwnsI.below X0_7.out hb8)
    have VG_8 := Lib.hid (OwnsI.below VG_7.out hb8)
    clear pa_7 IW_7 OX_7 px_7 X0_7 VG_7
    obtain ⟨c8_pa0, c8_pa1, c8_pa2⟩ := cells3 pa_8
    have l8_pa := heap_lt pa_8
    obtain ⟨c8_px0, c8_px1, c8_px2⟩ := cells3 px_8
    have l8_px := heap_lt px_8
    go_wp2_with fail
    have P8 : w8.drew.heap[w.heap.size]? = some _ := pa_8
    have Q8 : w8.drew.heap[w5.heap.size]? = some _ := px_8
    go_region_held3 (fun w' => w'.cell? ⟨w.heap.size, 0, none⟩ = some (.int .i64 W) ∧ w'.cell? ⟨w.heap.size, 1, none⟩ = some (.int .i64 T) ∧ w'.cell? ⟨w.heap.size, 2, none⟩ = some (.slice a n cap) ∧
        w'.cell? ⟨w5.heap.size, 0, none⟩ = some (.int .i64 W) ∧ w'.cell? ⟨w5.heap.size, 1, none⟩ = some (.int .i64 T) ∧ w'.cell? ⟨w5.heap.size, 2, none⟩ = some (.slice (some ⟨g5, 0, none⟩) n n))
      (go_keep)
      (first
        | (go_at_call 19; refine (toRegion_any _ _ _ _ _ xs _ HN.out hsm' (HA.out.below b8.drew)).mono ?_; rintro e w9 ⟨g9, rfl, ho9, hb9⟩; have p9 := heap_later P8 hb9; have q9 := heap_later Q8 hb9; obtain ⟨cA0, cA1, cA2⟩ := cells3 p9; obtain ⟨dA0, dA1, dA2⟩ := cells3 q9)
        | (go_at_call 22; refine (eqRegion_same _ _ _ _ _ _ _ xs _ HN.out hsm' ((show BoolsAt w8.drew _ xs from OwnsB.at OX_8.out).below hb9) ho9.at).mono ?_; rintro e w10 ⟨rfl, hb10⟩; have p10 := heap_later p9 hb10; have q10 := heap_later q9 hb10; obtain ⟨cB0, cB1, cB2⟩ := cells3 p10; obtain ⟨dB0, dB1, dB2⟩ := cells3 q10))
    have bb10 : Below w8.heap.size w8 w10 := below_seq (below_seq (drew_below _) hb9) hb10
    have b10 := below_seq b8 bb10
    have z10 : w8.heap.size ≤ w10.heap.size := bb10.size
    have pa_10 := heap_later pa_8 bb10
    have IW_10 := Lib.hid (IntsAt.below IW_8.out bb10)
    have OX_10 := Lib.hid (OwnsB.below OX_8.out bb10)
    have px_10 := heap_later px_8 bb10
    have X0_10 := Lib.hid (OwnsI.below X0_8.out bb10)
    have VG_10 := Lib.hid (OwnsI.below VG_8.out bb10)
    clear pa_8 IW_8 OX_8 px_8 X0_8 VG_8 c8_pa0 c8_pa1 c8_pa2 l8_pa c8_px0 c8_px1 c8_px2 l8_px p9 q9 cA0 cA1 cA2 dA0 dA1 dA2 p10 q10 cB0 cB1 cB2 dB0 dB1 dB2 P8 Q8 ho9
    go_wp2_with fail
    refine (toIntS_ex _ _ _ L0 _ HM0.out hlm0' (HL0.out.below b10)).mono ?_; rintro e w11 ⟨y11, rfl, ho11, hb11⟩
    have b11 := below_seq b10 hb11
    have z11 : w10.heap.size + 0 ≤ w11.heap.size := by have := hb11.size; (try simp at this); omega
    have pa_11 := heap_later pa_10 hb11
    have IW_11 := Lib.hid (IntsAt.below IW_10.out hb11)
    have OX_11 := Lib.hid (OwnsB.below OX_10.out hb11)
    have px_11 := heap_later px_10 hb11
    have X0_11 := Lib.hid (OwnsI.below X0_10.out hb11)
    have VG_11 := Lib.hid (OwnsI.below VG_10.out hb11)
    have I0_11 := Lib.hid (OwnsI.at ho11)
    clear pa_10 IW_10 OX_10 px_10 X0_10 VG_10
    clear ho11
    go_wp2_with fail
    refine (eqIntS_below _ _ _ _ _ L0 _ HM0.out hlm0' (OwnsI.at X0_11.out) I0_11.out).mono ?_; rintro e w12 ⟨rfl, hb12⟩
    have b12 := below_seq b11 hb12
    have z12 : w11.heap.size + 0 ≤ w12.heap.size := by have := hb12.size; (try simp at this); omega
    have pa_12 := heap_later pa_11 hb12
    have IW_12 := Lib.hid (IntsAt.below IW_11.out hb12)
    have OX_12 := Lib.hid (OwnsB.below OX_11.out hb12)
    have px_12 := heap_later px_11 hb12
    have X0_12 := Lib.hid (OwnsI.below X0_11.out hb12)
    have VG_12 := Lib.hid (OwnsI.below VG_11.out hb12)
    clear pa_11 IW_11 OX_11 px_11 X0_11 VG_11 I0_11
    obtain ⟨c12_px0, c12_px1, c12_px2⟩ := cells3 px_12
    have l12_px := heap_lt px_12
    go_wp2_with fail
    refine (markRegion_own _ _ _ _ _ w4.heap.size _ xs _ HN.out hsm' (by omega) (by omega) (by omega) OX_12.out).mono ?_; rintro e w13 ⟨rfl, ho13, hb13⟩
    have b13 := below_grown b12 hb13 (Nat.le_refl _) (OwnsB.ownAt OX_12.out (by omega))
    have z13 : w12.heap.size ≤ w13.heap.size := hb13.size
    have pa_13 := heap_grown pa_12 hb13 (OwnsB.ownBlock OX_12.out (by omega))
    have IW_13 := Lib.hid (IntsAt.grown IW_12.out IWs.out hb13 (OwnsB.ownAt OX_12.out (by omega)))
    have px_13 := heap_grown px_12 hb13 (fun e => by have h9 := OwnsB.blkLt OXs.out _ e; omega)
    have X0_13 := Lib.hid (OwnsI.keptBy X0_12.out hb13 (fun k e => by have h9 := OwnsB.blkLt OXs.out _ e; omega))
    have VG_13 := Lib.hid (OwnsI.keptBy VG_12.out hb13 (fun k e => by have h9 := OwnsB.blkLt OXs.out _ e; omega))
    clear pa_12 IW_12 OX_12 px_12 X0_12 VG_12 c12_px0 c12_px1 c12_px2 l12_px
    clear ho13
    go_wp2_with fail
    refine (markIntS_own _ _ _ (w5.heap.size + 1) _ L0 _ HM0.out hlm0' (by omega) (by omega) X0_13.out).mono ?_; rintro e w14 ⟨rfl, ho14, hb14⟩
    have b14 := below_grown b13 hb14 (Nat.le_refl _) (OwnsI.ownAt X0_13.out (by omega))
    have z14 : w13.heap.size ≤ w14.heap.size := hb14.size
    have pa_14 := heap_grown pa_13 hb14 (OwnsI.ownBlock X0_13.out (by omega))
    have IW_14 := Lib.hid (IntsAt.grown IW_13.out IWs.out hb14 (OwnsI.ownAt X0_13.out (by omega)))
    have px_14 := heap_grown px_13 hb14 (OwnsI.ownBlock X0_13.out (by omega))
    have VG_14 := Lib.hid (OwnsI.keptBy VG_13.out hb14 (fun k e => by have h9 := OwnsI.blkLt X0s.out _ e; omega))
    clear pa_13 IW_13 px_13 X0_13 VG_13
    clear ho14
    go_wp2_with fail
    refine (eqIntS_below _ _ _ _ _ ys _ HR.out hlen (OwnsI.at VG_14.out) IW_14.out).mono ?_; rintro e w15 ⟨rfl, hb15⟩
    have b15 := below_seq b14 hb15
    have z15 : w14.heap.size + 0 ≤ w15.heap.size := by have := hb15.size; (try simp at this); omega
    have pa_15 := heap_later pa_14 hb15
    have IW_15 := Lib.hid (IntsAt.below IW_14.out hb15)
    have px_15 := heap_later px_14 hb15
    have VG_15 := Lib.hid (OwnsI.below VG_14.out hb15)
    clear pa_14 IW_14 px_14 VG_14
    go_wp2_with fail
    refine (markIntS_own _ _ _ (w6.heap.size + 0) _ ys _ HR.out hlen (by omega) (by omega) VG_15.out).mono ?_; rintro e w16 ⟨rfl, ho16, hb16⟩
    have b16 := below_grown b15 hb16 (Nat.le_refl _) (OwnsI.ownAt VG_15.out (by omega))
    have z16 : w15.heap.size ≤ w16.heap.size := hb16.size
    have pa_16 := heap_grown pa_15 hb16 (OwnsI.ownBlock VG_15.out (by omega))
    have IW_16 := Lib.hid (IntsAt.grown IW_15.out IWs.out hb16 (OwnsI.ownAt VG_15.out (by omega)))
    have px_16 := heap_grown px_15 hb16 (OwnsI.ownBlock VG_15.out (by omega))
    have M_16 := Lib.hid (ho16)
    clear pa_15 IW_15 px_15 VG_15
    clear ho16
    go_wp2_with fail
    refine (heldIntS_below _ _ _ _ _ hlen (by omega) (by omega) (marksI_at M_16.out)).mono ?_; rintro e w17 ⟨rfl, hb17⟩
    have b17 := below_seq b16 hb17
    have z17 : w16.heap.size + 0 ≤ w17.heap.size := by have := hb17.size; (try simp at this); omega
    have pa_17 := heap_later pa_16 hb17
    have IW_17 := Lib.hid (IntsAt.below IW_16.out hb17)
    have px_17 := heap_later px_16 hb17
    have M_17 := Lib.hid (OwnsI.below M_16.out hb17)
    clear pa_16 IW_16 px_16 M_16
    obtain ⟨c17_pa0, c17_pa1, c17_pa2⟩ := cells3 pa_17
    have l17_pa := heap_lt pa_17
    go_wp2_with fail
    refine (toRegion_any _ _ _ _ _ xs _ HN.out hsm' (HA.out.below b17)).mono ?_; rintro e w18 ⟨g18, rfl, ho18, hb18⟩
    have b18 := below_seq b17 hb18
    have z18 : w17.heap.size + 0 ≤ w18.heap.size := by have := hb18.size; (try simp at this); omega
    have pa_18 := heap_later pa_17 hb18
    have IW_18 := Lib.hid (IntsAt.below IW_17.out hb18)
    have px_18 := heap_later px_17 hb18
    have M_18 := Lib.hid (OwnsI.below M_17.out hb18)
    have O18_18 := Lib.hid (ho18)
    clear pa_17 IW_17 px_17 M_17 c17_pa0 c17_pa1 c17_pa2 l17_pa
    clear ho18
    go_wp2_with fail
    refine (toIntS_ex _ _ _ L0 _ HM0.out hlm0' (HL0.out.below b18)).mono ?_; rintro e w19 ⟨y19, rfl, ho19, hb19⟩
    have b19 := below_seq b18 hb19
    have z19 : w18.heap.size + 0 ≤ w19.heap.size := by have := hb19.size; (try simp at this); omega
    have pa_19 := heap_later pa_18 hb19
    have IW_19 := Lib.hid (IntsAt.below IW_18.out hb19)
    have px_19 := heap_later px_18 hb19
    have M_19 := Lib.hid (OwnsI.below M_18.out hb19)
    have O18_19 := Lib.hid (OwnsB.below O18_18.out hb19)
    have H0_19 := Lib.hid (ho19)
    clear pa_18 IW_18 px_18 M_18 O18_18
    clear ho19
    go_wp2_with fail
    refine (HI.out _ _ _ _ _ (OwnsB.at O18_19.out) (OwnsI.at H0_19.out)).mono ?_; rintro e w20 ⟨aH, capH, rfl, ho20, hb20⟩
    have b20 := below_seq b19 hb20
    have z20 : w19.heap.size + 0 ≤ w20.heap.size := by have := hb20.size; (try simp at this); omega
    have pa_20 := heap_later pa_19 hb20
    have IW_20 := Lib.hid (IntsAt.below IW_19.out hb20)
    have px_20 := heap_later px_19 hb20
    have M_20 := Lib.hid (OwnsI.below M_19.out hb20)
    have IH_20 := Lib.hid (OwnsI.at ho20)
    clear pa_19 IW_19 px_19 M_19 O18_19 H0_19
    clear ho20
    go_wp2_with fail
    refine (eqIntS_below _ _ _ _ _ ys _ HR.out hlen IH_20.out IW_20.out).mono ?_; rintro e w21 ⟨rfl, hb21⟩
    have b21 := below_seq b20 hb21
    have z21 : w20.heap.size + 0 ≤ w21.heap.size := by have := hb21.size; (try simp at this); omega
    have pa_21 := heap_later pa_20 hb21
    have IW_21 := Lib.hid (IntsAt.below IW_20.out hb21)
    have px_21 := heap_later px_20 hb21
    have M_21 := Lib.hid (OwnsI.below M_20.out hb21)
    have IH_21 := Lib.hid (IntsAt.below IH_20.out hb21)
    clear pa_20 IW_20 px_20 M_20 IH_20
    go_wp2_with fail
    refine (heldIntS_below _ _ _ _ _ hlen (by omega) (by omega) (marksI_at M_21.out)).mono ?_; rintro e w22 ⟨rfl, hb22⟩
    have b22 := below_seq b21 hb22
    have z22 : w21.heap.size + 0 ≤ w22.heap.size := by have := hb22.size; (try simp at this); omega
    have pa_22 := heap_later pa_21 hb22
    have IW_22 := Lib.hid (IntsAt.below IW_21.out hb22)
    have px_22 := heap_later px_21 hb22
    have M_22 := Lib.hid (OwnsI.below M_21.out hb22)
    have IH_22 := Lib.hid (IntsAt.below IH_21.out hb22)
    clear pa_21 IW_21 px_21 M_21 IH_21
    go_wp2
    go_ret
    exact ⟨rfl, b22⟩

end Go.Proofs.Ythjocjiiihebbaa
