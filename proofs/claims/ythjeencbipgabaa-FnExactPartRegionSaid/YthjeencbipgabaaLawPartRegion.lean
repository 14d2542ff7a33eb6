/- The law FnExactPartRegion: its walk. Generated from one pattern for all functions of a region that return a region. -/
import Derived.Test.YthjeencbipgabaaBox
import Derived.Test.YthjeencbipgabaaValid
import Derived.Test.YthjeencbipgabaaPartRS
namespace Go.Proofs.Ythjeencbipgabaa
open Go.RowKit
set_option linter.unusedVariables false
set_option linter.unusedSimpArgs false

set_option maxHeartbeats 2000000 in
theorem lawPartRegion_walk (W T : Int) (a : Option Addr) (n cap : Nat) (xs : List Bool) (part : Int) (w : World) (hn : n = xs.length) (hn' : n ≤ maxLen) (ha : BoolsAt w a xs) :
    Calls Try.prog 6 #[.agg #[.int .i64 W, .int .i64 T, .slice a n cap], .int .i64 part] w fun e w' => e = .returned (.bool true) ∧ Below w.heap.size w w' := by
  have HN := Lib.hid hn; clear hn
  have HA := Lib.hid ha; clear ha
  by_cases hsm : 1048576 < n
  · have hz := szB_neg hsm
    go_enter Try.func6, Try.ntmps6
    go_wp2_with (go_at_call 9; refine (szRegion_any _ _ _ _ _ _ _ (by omega) (by omega) hn').mono ?_; rintro e w1 ⟨rfl, hb⟩)
    go_ret
    exact ⟨rfl, below_seq (below1 _ _) hb⟩
  · have hsm' : n ≤ 1048576 := by omega
    have hz := szB_pos hsm'
    have hS : ∀ (a : Option Addr) (cap : Nat) (w : World), BoolsAt w a xs → Calls Try.prog 22 #[.agg #[.int .i64 W, .int .i64 T, .slice a n cap], .int .i64 part] w (RetRegT w (partR W T xs part).1 (partR W T xs part).2.1 (partR W T xs part).2.2.1.length (partR W T xs part).2.2.1 (partR W T xs part).2.2.2) := fun a cap w h => sPartRegion_ret W T part a n cap xs w HN.out hsm' h
    have hI : ∀ (a : Option Addr) (cap : Nat) (w : World), BoolsAt w a xs → Calls Try.prog 23 #[.agg #[.int .i64 W, .int .i64 T, .slice a n cap], .int .i64 part] w (RetRegT w (partR W T xs part).1 (partR W T xs part).2.1 (partR W T xs part).2.2.1.length (partR W T xs part).2.2.1 (partR W T xs part).2.2.2) := fun a cap w h => iPartRegion_ret W T part a n cap xs w HN.out hsm' h
    have hlen : (partR W T xs part).2.2.1.length ≤ 1048576 := by have := partR_len W T xs part; rw [← HN.out] at this; omega
    generalize (partR W T xs part).1 = W' at hS hI
    generalize (partR W T xs part).2.1 = T' at hS hI
    generalize (partR W T xs part).2.2.1 = ys at hS hI hlen
    generalize (partR W T xs part).2.2.2 = ok at hS hI
    obtain ⟨m, hm⟩ : ∃ m, m = ys.length := ⟨_, rfl⟩
    rw [← hm] at hS hI hlen
    have HS := Lib.hid hS; clear hS
    have HI := Lib.hid hI; clear hI
    have HM := Lib.hid hm; clear hm
    cases ok
    all_goals
      go_enter Try.func6, Try.ntmps6
      go_wp2_with fail
      refine (szRegion_any _ _ _ _ _ _ _ (by omega) (by omega) hn').mono ?_; rintro e w1 ⟨rfl, hb1⟩
      have b1 := below_seq (below1 _ _) hb1
      have z1 : w.heap.size + 1 ≤ w1.heap.size := by have := hb1.size; (try simp at this); omega
      have pa_1 := heap_later (heap_new _ _) hb1
      obtain ⟨c1_pa0, c1_pa1, c1_pa2⟩ := cells3 pa_1
      have l1_pa := heap_lt pa_1
      go_wp2_with fail
      refine (toRegion_any _ _ _ _ _ xs _ HN.out hsm' (HA.out.below b1)).mono ?_; rintro e w2 ⟨g2, rfl, ho2, hb2⟩
      have b2 := below_seq b1 hb2
      have z2 : w1.heap.size + 0 ≤ w2.heap.size := by have := hb2.size; (try simp at this); omega
      have pa_2 := heap_later pa_1 hb2
      have O2_2 := Lib.hid (ho2)
      clear pa_1 c1_pa0 c1_pa1 c1_pa2 l1_pa
      clear ho2
      go_wp2_with fail
      refine (HS.out _ _ _ (OwnsB.at O2_2.out)).mono ?_; rintro e w3 ⟨a3, cap3, rfl, ho3, hb3⟩
      have b3 := below_seq b2 hb3
      have z3 : w2.heap.size + 0 ≤ w3.heap.size := by have := hb3.size; (try simp at this); omega
      have pa_3 := heap_later pa_2 hb3
      have AW_3 := Lib.hid (OwnsB.at ho3)
      clear pa_2 O2_2
      obtain ⟨c3_pa0, c3_pa1, c3_pa2⟩ := cells3 pa_3
      have l3_pa := heap_lt pa_3
      clear ho3
      have AWs := AW_3
      go_wp2_with fail
      refine (toRegion_any _ _ _ _ _ xs _ HN.out hsm' (HA.out.below (below_seq b3 (below1 _ _)))).mono ?_; rintro e w4 ⟨g4, rfl, ho4, hb4⟩
      have b4 := below_seq (below_seq b3 (below1 _ _)) hb4
      have z4 : w3.heap.size + 1 ≤ w4.heap.size := by have := hb4.size; (try simp at this); omega
      have pa_4 := heap_later (heap_later pa_3 (below1 _ _)) hb4
      have AW_4 := Lib.hid (BoolsAt.below (BoolsAt.one AW_3.out _) hb4)
      have pw_4 := heap_later (heap_new _ _) hb4
      have OX_4 := Lib.hid (OwnsB.lower ho4 (show w3.heap.size + 1 ≤ _ by simp))
      clear pa_3 AW_3 c3_pa0 c3_pa1 c3_pa2 l3_pa
      clear ho4
      have OXs := OX_4
      go_wp2_with fail
      refine (HI.out _ _ _ (OwnsB.at (OwnsB.alloc OX_4.out _))).mono ?_; rintro e w5 ⟨a5, cap5, rfl, ho5, hb5⟩
      have b5 := below_seq (below_seq b4 (below1 _ _)) hb5
      have z5 : w4.heap.size + 1 ≤ w5.heap.size := by have := hb5.size; (try simp at this); omega
      have pa_5 := heap_later (heap_later pa_4 (below1 _ _)) hb5
      have AW_5 := Lib.hid (BoolsAt.below (BoolsAt.one AW_4.out _) hb5)
      have pw_5 := heap_later (heap_later pw_4 (below1 _ _)) hb5
      have OX_5 := Lib.hid (OwnsB.below (OwnsB.alloc OX_4.out _) hb5)
      have px_5 := heap_later (heap_new _ _) hb5
      have OG_5 := Lib.hid (OwnsB.lower ho5 (show w4.heap.size + 1 ≤ _ by simp))
      clear pa_4 AW_4 pw_4 OX_4
      obtain ⟨c5_pw0, c5_pw1, c5_pw2⟩ := cells3 pw_5
      have l5_pw := heap_lt pw_5
      clear ho5
      have OGs := OG_5
      go_wp2_with fail
      refine (eqRegion_same _ _ _ _ _ _ _ ys _ HM.out hlen (OwnsB.at (OwnsB.alloc OG_5.out _)) (BoolsAt.one AW_5.out _)).mono ?_; rintro e w6 ⟨rfl, hb6⟩
      have b6 := below_seq (below_seq b5 (below1 _ _)) hb6
      have z6 : w5.heap.size + 1 ≤ w6.heap.size := by have := hb6.size; (try simp at this); omega
      have pa_6 := heap_later (heap_later pa_5 (below1 _ _)) hb6
      have AW_6 := Lib.hid (BoolsAt.below (BoolsAt.one AW_5.out _) hb6)
      have pw_6 := heap_later (heap_later pw_5 (below1 _ _)) hb6
      have OX_6 := Lib.hid (OwnsB.below (OwnsB.alloc OX_5.out _) hb6)
      have px_6 := heap_later (heap_later px_5 (below1 _ _)) hb6
      have OG_6 := Lib.hid (OwnsB.below (OwnsB.alloc OG_5.out _) hb6)
      have pg_6 := heap_later (heap_new _ _) hb6
      clear pa_5 AW_5 pw_5 OX_5 px_5 OG_5 c5_pw0 c5_pw1 c5_pw2 l5_pw
      obtain ⟨c6_pa0, c6_pa1, c6_pa2⟩ := cells3 pa_6
      have l6_pa := heap_lt pa_6
      obtain ⟨c6_px0, c6_px1, c6_px2⟩ := cells3 px_6
      have l6_px := heap_lt px_6
      go_wp2_with fail
      have PA : w6.drew.heap[w.heap.size]? = some _ := pa_6
      have PX : w6.drew.heap[w4.heap.size]? = some _ := px_6
      go_region_held3 (fun w' => w'.cell? ⟨w.heap.size, 0, none⟩ = some (.int .i64 W) ∧ w'.cell? ⟨w.heap.size, 1, none⟩ = some (.int .i64 T) ∧ w'.cell? ⟨w.heap.size, 2, none⟩ = some (.slice a n cap) ∧
          w'.cell? ⟨w4.heap.size, 0, none⟩ = some (.int .i64 W) ∧ w'.cell? ⟨w4.heap.size, 1, none⟩ = some (.int .i64 T) ∧ w'.cell? ⟨w4.heap.size, 2, none⟩ = some (.slice (some ⟨g4, 0, none⟩) n n))
        (go_keep)
        (first
          | (go_at_call 11; refine (toRegion_any _ _ _ _ _ xs _ HN.out hsm' (HA.out.below b6.drew)).mono ?_; rintro e w7 ⟨g7, rfl, ho7, hb7⟩; have p7 := heap_later PA hb7; have q7 := heap_later PX hb7; obtain ⟨c70, c71, c72⟩ := cells3 p7; obtain ⟨d70, d71, d72⟩ := cells3 q7)
          | (go_at_call 14; refine (eqRegion_same _ _ _ _ _ _ _ xs _ HN.out hsm' ((show BoolsAt w6.drew _ xs from OwnsB.at OX_6.out).below hb7) ho7.at).mono ?_; rintro e w8 ⟨rfl, hb8⟩; have p8 := heap_later p7 hb8; have q8 := heap_later q7 hb8; obtain ⟨c80, c81, c82⟩ := cells3 p8; obtain ⟨d80, d81, d82⟩ := cells3 q8))
      have bb8 : Below w6.heap.size w6 w8 := below_seq (below_seq (drew_below _) hb7) hb8
      have b8 := below_seq b6 bb8
      have z8 : w6.heap.size ≤ w8.heap.size := bb8.size
      have pa_8 := heap_later pa_6 bb8
      have AW_8 := Lib.hid (BoolsAt.below AW_6.out bb8)
      have pw_8 := heap_later pw_6 bb8
      have OX_8 := Lib.hid (OwnsB.below OX_6.out bb8)
      have px_8 := heap_later px_6 bb8
      have OG_8 := Lib.hid (OwnsB.below OG_6.out bb8)
      have pg_8 := heap_later pg_6 bb8
      clear pa_6 AW_6 pw_6 OX_6 px_6 OG_6 pg_6 c6_pa0 c6_pa1 c6_pa2 l6_pa c6_px0 c6_px1 c6_px2 l6_px p7 q7 c70 c71 c72 d70 d71 d72 p8 q8 c80 c81 c82 d80 d81 d82 PA PX ho7
      obtain ⟨c8_px0, c8_px1, c8_px2⟩ := cells3 px_8
      have l8_px := heap_lt px_8
      go_wp2_with fail
      refine (markRegion_own _ _ _ _ _ (w3.heap.size + 1) _ xs _ HN.out hsm' (by omega) (by omega) (by omega) OX_8.out).mono ?_; rintro e w9 ⟨rfl, ho9, hb9⟩
      have b9 := below_grown b8 hb9 (Nat.le_refl _) (OwnsB.ownAt OX_8.out (by omega))
      have z9 : w8.heap.size ≤ w9.heap.size := hb9.size
      have pa_9 := heap_grown pa_8 hb9 (OwnsB.ownBlock OX_8.out (by omega))
      have AW_9 := Lib.hid (BoolsAt.grown AW_8.out AWs.out hb9 (OwnsB.ownAt OX_8.out (by omega)))
      have pw_9 := heap_grown pw_8 hb9 (OwnsB.ownBlock OX_8.out (by omega))
      have px_9 := heap_grown px_8 hb9 (fun e => by have h9 := OwnsB.blkLt OXs.out _ e; omega)
      have OG_9 := Lib.hid (OwnsB.keptBy OG_8.out hb9 (fun k e => by have h9 := OwnsB.blkLt OXs.out _ e; omega))
      have pg_9 := heap_grown pg_8 hb9 (fun e => by have h9 := OwnsB.blkLt OXs.out _ e; omega)
      clear pa_8 AW_8 pw_8 OX_8 px_8 OG_8 pg_8 c8_px0 c8_px1 c8_px2 l8_px
      obtain ⟨c9_pg0, c9_pg1, c9_pg2⟩ := cells3 pg_9
      have l9_pg := heap_lt pg_9
      obtain ⟨c9_pw0, c9_pw1, c9_pw2⟩ := cells3 pw_9
      have l9_pw := heap_lt pw_9
      clear ho9
      go_wp2_with fail
      refine (eqRegion_same _ _ _ _ _ _ _ ys _ HM.out hlen (OwnsB.at OG_9.out) AW_9.out).mono ?_; rintro e w10 ⟨rfl, hb10⟩
      have b10 := below_seq b9 hb10
      have z10 : w9.heap.size + 0 ≤ w10.heap.size := by have := hb10.size; (try simp at this); omega
      have pa_10 := heap_later pa_9 hb10
      have AW_10 := Lib.hid (BoolsAt.below AW_9.out hb10)
      have pw_10 := heap_later pw_9 hb10
      have px_10 := heap_later px_9 hb10
      have OG_10 := Lib.hid (OwnsB.below OG_9.out hb10)
      have pg_10 := heap_later pg_9 hb10
      clear pa_9 AW_9 pw_9 px_9 OG_9 pg_9 c9_pg0 c9_pg1 c9_pg2 l9_pg c9_pw0 c9_pw1 c9_pw2 l9_pw
      obtain ⟨c10_pg0, c10_pg1, c10_pg2⟩ := cells3 pg_10
      have l10_pg := heap_lt pg_10
      go_wp2_with fail
      refine (markRegion_own _ _ _ _ _ (w4.heap.size + 1) _ ys _ HM.out hlen (by omega) (by omega) (by omega) OG_10.out).mono ?_; rintro e w11 ⟨rfl, ho11, hb11⟩
      have b11 := below_grown b10 hb11 (Nat.le_refl _) (OwnsB.ownAt OG_10.out (by omega))
      have z11 : w10.heap.size ≤ w11.heap.size := hb11.size
      have pa_11 := heap_grown pa_10 hb11 (OwnsB.ownBlock OG_10.out (by omega))
      have AW_11 := Lib.hid (BoolsAt.grown AW_10.out AWs.out hb11 (OwnsB.ownAt OG_10.out (by omega)))
      have pw_11 := heap_grown pw_10 hb11 (OwnsB.ownBlock OG_10.out (by omega))
      have px_11 := heap_grown px_10 hb11 (OwnsB.ownBlock OG_10.out (by omega))
      have pg_11 := heap_grown pg_10 hb11 (fun e => by have h9 := OwnsB.blkLt OGs.out _ e; omega)
      have M_11 := Lib.hid (ho11)
      clear pa_10 AW_10 pw_10 px_10 OG_10 pg_10 c10_pg0 c10_pg1 c10_pg2 l10_pg
      obtain ⟨c11_pg0, c11_pg1, c11_pg2⟩ := cells3 pg_11
      have l11_pg := heap_lt pg_11
      clear ho11
      go_wp2_with fail
      refine (heldRegion_marks _ _ _ _ _ _ _ hlen (by omega) (by omega) (marks_at M_11.out)).mono ?_; rintro e w12 ⟨rfl, hb12⟩
      have b12 := below_seq b11 hb12
      have z12 : w11.heap.size + 0 ≤ w12.heap.size := by have := hb12.size; (try simp at this); omega
      have pa_12 := heap_later pa_11 hb12
      have AW_12 := Lib.hid (BoolsAt.below AW_11.out hb12)
      have pw_12 := heap_later pw_11 hb12
      have px_12 := heap_later px_11 hb12
      have pg_12 := heap_later pg_11 hb12
      have M_12 := Lib.hid (OwnsB.below M_11.out hb12)
      clear pa_11 AW_11 pw_11 px_11 pg_11 M_11 c11_pg0 c11_pg1 c11_pg2 l11_pg
      obtain ⟨c12_pa0, c12_pa1, c12_pa2⟩ := cells3 pa_12
      have l12_pa := heap_lt pa_12
      go_wp2_with fail
      refine (toRegion_any _ _ _ _ _ xs _ HN.out hsm' (HA.out.below b12)).mono ?_; rintro e w13 ⟨g13, rfl, ho13, hb13⟩
      have b13 := below_seq b12 hb13
      have z13 : w12.heap.size + 0 ≤ w13.heap.size := by have := hb13.size; (try simp at this); omega
      have pa_13 := heap_later pa_12 hb13
      have AW_13 := Lib.hid (BoolsAt.below AW_12.out hb13)
      have pw_13 := heap_later pw_12 hb13
      have px_13 := heap_later px_12 hb13
      have pg_13 := heap_later pg_12 hb13
      have M_13 := Lib.hid (OwnsB.below M_12.out hb13)
      have O13_13 := Lib.hid (ho13)
      clear pa_12 AW_12 pw_12 px_12 pg_12 M_12 c12_pa0 c12_pa1 c12_pa2 l12_pa
      clear ho13
      go_wp2_with fail
      refine (HI.out _ _ _ (OwnsB.at O13_13.out)).mono ?_; rintro e w14 ⟨a14, cap14, rfl, ho14, hb14⟩
      have b14 := below_seq b13 hb14
      have z14 : w13.heap.size + 0 ≤ w14.heap.size := by have := hb14.size; (try simp at this); omega
      have pa_14 := heap_later pa_13 hb14
      have AW_14 := Lib.hid (BoolsAt.below AW_13.out hb14)
      have pw_14 := heap_later pw_13 hb14
      have px_14 := heap_later px_13 hb14
      have pg_14 := heap_later pg_13 hb14
      have M_14 := Lib.hid (OwnsB.below M_13.out hb14)
      have AH_14 := Lib.hid (OwnsB.at ho14)
      clear pa_13 AW_13 pw_13 px_13 pg_13 M_13 O13_13
      obtain ⟨c14_pw0, c14_pw1, c14_pw2⟩ := cells3 pw_14
      have l14_pw := heap_lt pw_14
      clear ho14
      go_wp2_with fail
      refine (eqRegion_same _ _ _ _ _ _ _ ys _ HM.out hlen (BoolsAt.one AH_14.out _) (BoolsAt.one AW_14.out _)).mono ?_; rintro e w15 ⟨rfl, hb15⟩
      have b15 := below_seq (below_seq b14 (below1 _ _)) hb15
      have z15 : w14.heap.size + 1 ≤ w15.heap.size := by have := hb15.size; (try simp at this); omega
      have pa_15 := heap_later (heap_later pa_14 (below1 _ _)) hb15
      have AW_15 := Lib.hid (BoolsAt.below (BoolsAt.one AW_14.out _) hb15)
      have pw_15 := heap_later (heap_later pw_14 (below1 _ _)) hb15
      have px_15 := heap_later (heap_later px_14 (below1 _ _)) hb15
      have pg_15 := heap_later (heap_later pg_14 (below1 _ _)) hb15
      have M_15 := Lib.hid (OwnsB.below (OwnsB.alloc M_14.out _) hb15)
      have AH_15 := Lib.hid (BoolsAt.below (BoolsAt.one AH_14.out _) hb15)
      have ph_15 := heap_later (heap_new _ _) hb15
      clear pa_14 AW_14 pw_14 px_14 pg_14 M_14 AH_14 c14_pw0 c14_pw1 c14_pw2 l14_pw
      obtain ⟨c15_pg0, c15_pg1, c15_pg2⟩ := cells3 pg_15
      have l15_pg := heap_lt pg_15
      go_wp2_with fail
      refine (heldRegion_marks _ _ _ _ _ _ _ hlen (by omega) (by omega) (marks_at M_15.out)).mono ?_; rintro e w16 ⟨rfl, hb16⟩
      have b16 := below_seq b15 hb16
      have z16 : w15.heap.size + 0 ≤ w16.heap.size := by have := hb16.size; (try simp at this); omega
      have pa_16 := heap_later pa_15 hb16
      have AW_16 := Lib.hid (BoolsAt.below AW_15.out hb16)
      have pw_16 := heap_later pw_15 hb16
      have px_16 := heap_later px_15 hb16
      have pg_16 := heap_later pg_15 hb16
      have M_16 := Lib.hid (OwnsB.below M_15.out hb16)
      have AH_16 := Lib.hid (BoolsAt.below AH_15.out hb16)
      have ph_16 := heap_later ph_15 hb16
      clear pa_15 AW_15 pw_15 px_15 pg_15 M_15 AH_15 ph_15 c15_pg0 c15_pg1 c15_pg2 l15_pg
      go_wp2
      go_ret
      exact ⟨rfl, b16⟩

end Go.Proofs.Ythjeencbipgabaa
