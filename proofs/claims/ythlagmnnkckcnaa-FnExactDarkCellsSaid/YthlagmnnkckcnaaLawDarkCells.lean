/- The law FnExactDarkCells: its walk. Generated from one pattern for all functions of a region that return a list. -/
import Derived.Test.YthlagmnnkckcnaaValid
import Derived.Test.YthlagmnnkckcnaaInts
import Derived.Test.YthlagmnnkckcnaaDarkC
namespace Go.Proofs.Ythlagmnnkckcnaa
open Go.RowKit
set_option linter.unusedVariables false
set_option maxRecDepth 100000
set_option linter.unusedSimpArgs false

set_option maxHeartbeats 4000000 in
theorem lawDarkCells_walk (W T : Int) (a : Option Addr) (n cap : Nat) (xs : List Bool) (w : World) (hn : n = xs.length) (hn' : n ≤ maxLen) (ha : BoolsAt w a xs) :
    Calls Try.prog 7 #[.agg #[.int .i64 W, .int .i64 T, .slice a n cap]] w fun e w' => e = .returned (.bool true) ∧ Below w.heap.size w w' := by
  have HN := Lib.hid hn; clear hn
  have HA := Lib.hid ha; clear ha
  by_cases hsm : 1048576 < n
  · have hz := szB_neg hsm
    go_enter Try.func7, Try.ntmps7
    go_wp2_with (go_at_call 34; refine (szRegion_any _ _ _ _ _ _ _ (by omega) (by omega) hn').mono ?_; rintro e w1 ⟨rfl, hb⟩)
    go_ret
    exact ⟨rfl, below_seq (below1 _ _) hb⟩
  · have hsm' : n ≤ 1048576 := by omega
    have hz := szB_pos hsm'
    have hS : ∀ (a : Option Addr) (cap : Nat) (w : World), BoolsAt w a xs → Calls Try.prog 16 #[.agg #[.int .i64 W, .int .i64 T, .slice a n cap]] w (RetL w (darkF W T xs).length (darkF W T xs)) := fun a cap w h => sDarkCells_ret W T a n cap xs w HN.out hsm' h
    have hI : ∀ (a : Option Addr) (cap : Nat) (w : World), BoolsAt w a xs → Calls Try.prog 14 #[.agg #[.int .i64 W, .int .i64 T, .slice a n cap]] w (RetL w (darkF W T xs).length (darkF W T xs)) := fun a cap w h => iDarkCells_ret W T a n cap xs w HN.out hsm' h
    have hlen : (darkF W T xs).length ≤ 1048576 := by have := darkF_le W T xs; rw [← HN.out] at this; omega
    generalize (darkF W T xs) = ys at hS hI hlen
    obtain ⟨r, hr⟩ : ∃ r, r = ys.length := ⟨_, rfl⟩
    rw [← hr] at hS hI hlen
    have HS := Lib.hid hS; clear hS
    have HI := Lib.hid hI; clear hI
    have HR := Lib.hid hr; clear hr
    go_enter Try.func7, Try.ntmps7
    go_wp2_with fail
    refine (szRegion_any _ _ _ _ _ _ _ (by omega) (by omega) hn').mono ?_; rintro e w1 ⟨rfl, hb1⟩
    have b1 := below_seq (below1 _ _) hb1
    have z1 : w.heap.size + 1 ≤ w1.heap.size := by have := hb1.size; (try simp at this); omega
    have pa_1 := heap_later (heap_new _ _) hb1
    obtain ⟨c1_pa0, c1_pa1, c1_pa2⟩ := cells3 pa_1
    have l1_pa := heap_lt pa_1
    go_wp2_with fail
    refine (toRegion_any _ _ _ _ _ xs _ HN.out hsm' (HA.out.below b1)).mono ?_; rintro e w2 ⟨g2, rfl, ho2, hb2⟩
    have b2 := below_seq b1 hb2
    have z2 : w1.heap.size + 0 ≤ w2.heap.size := by have := hb2.size; (try simp at this); omega
    have pa_2 := heap_later pa_1 hb2
    have O2_2 := Lib.hid (ho2)
    clear pa_1 c1_pa0 c1_pa1 c1_pa2 l1_pa
    clear ho2
    go_wp2_with fail
    refine (HS.out _ _ _ (OwnsB.at O2_2.out)).mono ?_; rintro e w3 ⟨aS, capS, rfl, ho3, hb3⟩
    have b3 := below_seq b2 hb3
    have z3 : w2.heap.size + 0 ≤ w3.heap.size := by have := hb3.size; (try simp at this); omega
    have pa_3 := heap_later pa_2 hb3
    have IW_3 := Lib.hid (OwnsI.at ho3)
    clear pa_2 O2_2
    obtain ⟨c3_pa0, c3_pa1, c3_pa2⟩ := cells3 pa_3
    have l3_pa := heap_lt pa_3
    clear ho3
    have IWs := IW_3
    go_wp2_with fail
    refine (toRegion_any _ _ _ _ _ xs _ HN.out hsm' (HA.out.below b3)).mono ?_; rintro e w4 ⟨g4, rfl, ho4, hb4⟩
    have b4 := below_seq b3 hb4
    have z4 : w3.heap.size + 0 ≤ w4.heap.size := by have := hb4.size; (try simp at this); omega
    have pa_4 := heap_later pa_3 hb4
    have IW_4 := Lib.hid (IntsAt.below IW_3.out hb4)
    have OX_4 := Lib.hid (ho4)
    clear pa_3 IW_3 c3_pa0 c3_pa1 c3_pa2 l3_pa
    clear ho4
    have OXs := OX_4
    go_wp2_with fail
    refine (HI.out _ _ _ (OwnsB.at (OwnsB.alloc OX_4.out _))).mono ?_; rintro e w5 ⟨aG, capG, rfl, ho5, hb5⟩
    have b5 := below_seq (below_seq b4 (below1 _ _)) hb5
    have z5 : w4.heap.size + 1 ≤ w5.heap.size := by have := hb5.size; (try simp at this); omega
    have pa_5 := heap_later (heap_later pa_4 (below1 _ _)) hb5
    have IW_5 := Lib.hid (IntsAt.below (IntsAt.one IW_4.out _) hb5)
    have OX_5 := Lib.hid (OwnsB.below (OwnsB.alloc OX_4.out _) hb5)
    have px_5 := heap_later (heap_new _ _) hb5
    have VG_5 := Lib.hid (OwnsI.lower ho5 (show w4.heap.size + 1 ≤ _ by simp))
    clear pa_4 IW_4 OX_4
    clear ho5
    have VGs := VG_5
    go_wp2_with fail
    refine (eqIntS_below _ _ _ _ _ ys _ HR.out hlen (OwnsI.at VG_5.out) IW_5.out).mono ?_; rintro e w6 ⟨rfl, hb6⟩
    have b6 := below_seq b5 hb6
    have z6 : w5.heap.size + 0 ≤ w6.heap.size := by have := hb6.size; (try simp at this); omega
    have pa_6 := heap_later pa_5 hb6
    have IW_6 := Lib.hid (IntsAt.below IW_5.out hb6)
    have OX_6 := Lib.hid (OwnsB.below OX_5.out hb6)
    have px_6 := heap_later px_5 hb6
    have VG_6 := Lib.hid (OwnsI.below VG_5.out hb6)
    clear pa_5 IW_5 OX_5 px_5 VG_5
    obtain ⟨c6_pa0, c6_pa1, c6_pa2⟩ := cells3 pa_6
    have l6_pa := heap_lt pa_6
    obtain ⟨c6_px0, c6_px1, c6_px2⟩ := cells3 px_6
    have l6_px := heap_lt px_6
    go_wp2_with fail
    have P6 : w6.drew.heap[w.heap.size]? = some _ := pa_6
    have Q6 : w6.drew.heap[w4.heap.size]? = some _ := px_6
    go_region_held3 (fun w' => w'.cell? ⟨w.heap.size, 0, none⟩ = some (.int .i64 W) ∧ w'.cell? ⟨w.heap.size, 1, none⟩ = some (.int .i64 T) ∧ w'.cell? ⟨w.heap.size, 2, none⟩ = some (.slice a n cap) ∧
        w'.cell? ⟨w4.heap.size, 0, none⟩ = some (.int .i64 W) ∧ w'.cell? ⟨w4.heap.size, 1, none⟩ = some (.int .i64 T) ∧ w'.cell? ⟨w4.heap.size, 2, none⟩ = some (.slice (some ⟨g4, 0, none⟩) n n))
      (go_keep)
      (first
        | (go_at_call 35; refine (toRegion_any _ _ _ _ _ xs _ HN.out hsm' (HA.out.below b6.drew)).mono ?_; rintro e w7 ⟨g7, rfl, ho7, hb7⟩; have p7 := heap_later P6 hb7; have q7 := heap_later Q6 hb7; obtain ⟨cA0, cA1, cA2⟩ := cells3 p7; obtain ⟨dA0, dA1, dA2⟩ := cells3 q7)
        | (go_at_call 37; refine (eqRegion_same _ _ _ _ _ _ _ xs _ HN.out hsm' ((show BoolsAt w6.drew _ xs from OwnsB.at OX_6.out).below hb7) ho7.at).mono ?_; rintro e w8 ⟨rfl, hb8⟩; have p8 := heap_later p7 hb8; have q8 := heap_later q7 hb8; obtain ⟨cB0, cB1, cB2⟩ := cells3 p8; obtain ⟨dB0, dB1, dB2⟩ := cells3 q8))
    have bb8 : Below w6.heap.size w6 w8 := below_seq (below_seq (drew_below _) hb7) hb8
    have b8 := below_seq b6 bb8
    have z8 : w6.heap.size ≤ w8.heap.size := bb8.size
    have pa_8 := heap_later pa_6 bb8
    have IW_8 := Lib.hid (IntsAt.below IW_6.out bb8)
    have OX_8 := Lib.hid (OwnsB.below OX_6.out bb8)
    have px_8 := heap_later px_6 bb8
    have VG_8 := Lib.hid (OwnsI.below VG_6.out bb8)
    clear pa_6 IW_6 OX_6 px_6 VG_6 c6_pa0 c6_pa1 c6_pa2 l6_pa c6_px0 c6_px1 c6_px2 l6_px p7 q7 cA0 cA1 cA2 dA0 dA1 dA2 p8 q8 cB0 cB1 cB2 dB0 dB1 dB2 P6 Q6 ho7
    obtain ⟨c8_px0, c8_px1, c8_px2⟩ := cells3 px_8
    have l8_px := heap_lt px_8
    go_wp2_with fail
    refine (markRegion_own _ _ _ _ _ w3.heap.size _ xs _ HN.out hsm' (by omega) (by omega) (by omega) OX_8.out).mono ?_; rintro e w9 ⟨rfl, ho9, hb9⟩
    have b9 := below_grown b8 hb9 (Nat.le_refl _) (OwnsB.ownAt OX_8.out (by omega))
    have z9 : w8.heap.size ≤ w9.heap.size := hb9.size
    have pa_9 := heap_grown pa_8 hb9 (OwnsB.ownBlock OX_8.out (by omega))
    have IW_9 := Lib.hid (IntsAt.grown IW_8.out IWs.out hb9 (OwnsB.ownAt OX_8.out (by omega)))
    have px_9 := heap_grown px_8 hb9 (fun e => by have h9 := OwnsB.blkLt OXs.out _ e; omega)
    have VG_9 := Lib.hid (OwnsI.keptBy VG_8.out hb9 (fun k e => by have h9 := OwnsB.blkLt OXs.out _ e; omega))
    clear pa_8 IW_8 OX_8 px_8 VG_8 c8_px0 c8_px1 c8_px2 l8_px
    clear ho9
    go_wp2_with fail
    refine (eqIntS_below _ _ _ _ _ ys _ HR.out hlen (OwnsI.at VG_9.out) IW_9.out).mono ?_; rintro e w10 ⟨rfl, hb10⟩
    have b10 := below_seq b9 hb10
    have z10 : w9.heap.size + 0 ≤ w10.heap.size := by have := hb10.size; (try simp at this); omega
    have pa_10 := heap_later pa_9 hb10
    have IW_10 := Lib.hid (IntsAt.below IW_9.out hb10)
    have px_10 := heap_later px_9 hb10
    have VG_10 := Lib.hid (OwnsI.below VG_9.out hb10)
    clear pa_9 IW_9 px_9 VG_9
    go_wp2_with fail
    refine (markIntS_own _ _ _ (w4.heap.size + 1) _ ys _ HR.out hlen (by omega) (by omega) VG_10.out).mono ?_; rintro e w11 ⟨rfl, ho11, hb11⟩
    have b11 := below_grown b10 hb11 (Nat.le_refl _) (OwnsI.ownAt VG_10.out (by omega))
    have z11 : w10.heap.size ≤ w11.heap.size := hb11.size
    have pa_11 := heap_grown pa_10 hb11 (OwnsI.ownBlock VG_10.out (by omega))
    have IW_11 := Lib.hid (IntsAt.grown IW_10.out IWs.out hb11 (OwnsI.ownAt VG_10.out (by omega)))
    have px_11 := heap_grown px_10 hb11 (OwnsI.ownBlock VG_10.out (by omega))
    have M_11 := Lib.hid (ho11)
    clear pa_10 IW_10 px_10 VG_10
    clear ho11
    go_wp2_with fail
    refine (heldIntS_below _ _ _ _ _ hlen (by omega) (by omega) (marksI_at M_11.out)).mono ?_; rintro e w12 ⟨rfl, hb12⟩
    have b12 := below_seq b11 hb12
    have z12 : w11.heap.size + 0 ≤ w12.heap.size := by have := hb12.size; (try simp at this); omega
    have pa_12 := heap_later pa_11 hb12
    have IW_12 := Lib.hid (IntsAt.below IW_11.out hb12)
    have px_12 := heap_later px_11 hb12
    have M_12 := Lib.hid (OwnsI.below M_11.out hb12)
    clear pa_11 IW_11 px_11 M_11
    obtain ⟨c12_pa0, c12_pa1, c12_pa2⟩ := cells3 pa_12
    have l12_pa := heap_lt pa_12
    go_wp2_with fail
    refine (toRegion_any _ _ _ _ _ xs _ HN.out hsm' (HA.out.below b12)).mono ?_; rintro e w13 ⟨g13, rfl, ho13, hb13⟩
    have b13 := below_seq b12 hb13
    have z13 : w12.heap.size + 0 ≤ w13.heap.size := by have := hb13.size; (try simp at this); omega
    have pa_13 := heap_later pa_12 hb13
    have IW_13 := Lib.hid (IntsAt.below IW_12.out hb13)
    have px_13 := heap_later px_12 hb13
    have M_13 := Lib.hid (OwnsI.below M_12.out hb13)
    have O18_13 := Lib.hid (ho13)
    clear pa_12 IW_12 px_12 M_12 c12_pa0 c12_pa1 c12_pa2 l12_pa
    clear ho13
    go_wp2_with fail
    refine (HI.out _ _ _ (OwnsB.at O18_13.out)).mono ?_; rintro e w14 ⟨aH, capH, rfl, ho14, hb14⟩
    have b14 := below_seq b13 hb14
    have z14 : w13.heap.size + 0 ≤ w14.heap.size := by have := hb14.size; (try simp at this); omega
    have pa_14 := heap_later pa_13 hb14
    have IW_14 := Lib.hid (IntsAt.below IW_13.out hb14)
    have px_14 := heap_later px_13 hb14
    have M_14 := Lib.hid (OwnsI.below M_13.out hb14)
    have IH_14 := Lib.hid (OwnsI.at ho14)
    clear pa_13 IW_13 px_13 M_13 O18_13
    clear ho14
    go_wp2_with fail
    refine (eqIntS_below _ _ _ _ _ ys _ HR.out hlen IH_14.out IW_14.out).mono ?_; rintro e w15 ⟨rfl, hb15⟩
    have b15 := below_seq b14 hb15
    have z15 : w14.heap.size + 0 ≤ w15.heap.size := by have := hb15.size; (try simp at this); omega
    have pa_15 := heap_later pa_14 hb15
    have IW_15 := Lib.hid (IntsAt.below IW_14.out hb15)
    have px_15 := heap_later px_14 hb15
    have M_15 := Lib.hid (OwnsI.below M_14.out hb15)
    have IH_15 := Lib.hid (IntsAt.below IH_14.out hb15)
    clear pa_14 IW_14 px_14 M_14 IH_14
    go_wp2_with fail
    refine (heldIntS_below _ _ _ _ _ hlen (by omega) (by omega) (marksI_at M_15.out)).mono ?_; rintro e w16 ⟨rfl, hb16⟩
    have b16 := below_seq b15 hb16
    have z16 : w15.heap.size + 0 ≤ w16.heap.size := by have := hb16.size; (try simp at this); omega
    have pa_16 := heap_later pa_15 hb16
    have IW_16 := Lib.hid (IntsAt.below IW_15.out hb16)
    have px_16 := heap_later px_15 hb16
    have M_16 := Lib.hid (OwnsI.below M_15.out hb16)
    have IH_16 := Lib.hid (IntsAt.below IH_15.out hb16)
    clear pa_15 IW_15 px_15 M_15 IH_15
    go_wp2
    go_ret
    exact ⟨rfl, b16⟩

end Go.Proofs.Ythlagmnnkckcnaa
