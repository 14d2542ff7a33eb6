/- Contract of spec.TilingOf. -/
import Derived.Test.YtpcajacekmidbaaGreatKTil
namespace Go.Proofs.YtpcajacekmidbaaGreat
open Go.RowKit
set_option linter.unusedVariables false
set_option maxRecDepth 100000
set_option linter.unusedSimpArgs false

def mzJ (n : Nat) (v : Value) : Nat := if intOf v < 0 then 0 else n + 1 - (intOf v).toNat
theorem mzJ_nat (n f : Nat) : mzJ n (.int .i64 (f : Int)) = n + 1 - f := by
 unfold mzJ
 have h : ¬ ((f : Int) < 0) := by omega
 simp [intOf, h]
theorem mzJ_less {xs : List Bool} {M : List Int} {n f : Nat} (hf : f < n) (h : ∀ j, j < f + 1 → freeB xs M j = false) : mzJ n (.int .i64 (firstI xs M 0 n)) < n + 1 - f := by
 rcases first_cases xs M 0 n with ⟨hq, _⟩ | ⟨f2, _, hf2m, hq, hfr, _⟩
 · rw [hq]; unfold mzJ; simp [intOf]; omega
 · rw [hq]
   have hge : f + 1 ≤ f2 := by
    rcases Nat.lt_or_ge f2 (f + 1) with h' | h'
    · rw [h f2 h'] at hfr; cases hfr
    · exact h'
   rw [mzJ_nat]
   omega

set_option maxHeartbeats 4000000 in
theorem sTilingOf_ret (W T : Int) (a : Option Addr) (n cap : Nat) (xs : List Bool) (rank : Int) (w : World) (hn : n = xs.length) (hn' : n ≤ 1048576) (ha : BoolsAt w a xs) :
 Calls Tryz.prog 53 #[.agg #[.int .i64 W, .int .i64 T, .slice a n cap], .int .i64 rank] w (RetLT w (tilOf W T xs rank).1.length (tilOf W T xs rank).1 (tilOf W T xs rank).2) := by
 have HN := Lib.hid hn; clear hn
 have HA := Lib.hid ha; clear ha
 by_cases h : rv W T xs = true ∧ 0 ≤ rank ∧ rank < dpT W T xs
 · obtain ⟨hr, h0, h1⟩ := h
   obtain ⟨q, hq⟩ : ∃ q : Nat, rank = q := ⟨rank.toNat, by omega⟩
   subst hq
   have e : tilOf W T xs q = ((tlS W T xs q xs.length).M, true) := by unfold tilOf; rw [if_pos ⟨hr, h0, h1⟩, Int.toNat_natCast]
   rw [e]
   clear e
   have ht : tilT W T xs = (dpT W T xs : Int) := by unfold tilT; rw [if_pos hr]
   have hinv := tlS_inv (W := W) (T := T) (xs := xs) (rank := q) hr (by omega)
   obtain ⟨hW0, hW1, hT0, hT1, v5, _⟩ := rv_true hr
   have hWT : (n : Int) = W * T := by rw [HN.out]; exact v5
   have n36 : n ≤ 36 := by
    have h1 : W * T ≤ 6 * 6 := Int.mul_le_mul hW1 hT1 (by omega) (by omega)
    omega
   have hp : 0 < n := by
    have h1 : 1 * 1 ≤ W * T := Int.mul_le_mul hW0 hT0 (by omega) (by omega)
    omega
   have hdl := dpT_le (W := W) (T := T) (xs := xs) (by rw [← HN.out]; exact n36)
   obtain ⟨D, hD⟩ : ∃ D, D = dpT W T xs := ⟨_, rfl⟩
   rw [← hD] at ht hdl h1
   have hbr : bareL W T xs = List.replicate n 0 := by unfold bareL; rw [if_pos hr, HN.out]
   have HBL : Hid (n = (List.replicate n (0 : Int)).length) := by show n = _; simp
   have HWT := Lib.hid hWT; clear hWT v5
   have HT := Lib.hid ht; clear ht hD
   have hml := (tlS_len (W := W) (T := T) (xs := xs) (rank := q) xs.length).2
   have HML := Lib.hid hml; clear hml
   have HR := Lib.hid hr; clear hr
   have HINV := Lib.hid hinv; clear hinv
   have hin : inB (q : Int) 0 ((D : Int) - 1) = true := by unfold inB; exact decide_eq_true (by omega)
   have HIN := Lib.hid hin; clear hin
   simp only [HML.out]
   rw [← HN.out]
   go_enter Tryz.func53, Tryz.ntmps53
   go_wp2_with fail
   refine (sRegionValid_any _ _ _ _ _ xs _ HN.out hn' (HA.out.one _)).mono ?_; rintro e w0 ⟨rfl, hb0⟩
   rw [HR.out]
   have p0 := heap_later (heap_new w _) hb0
   have b0 := below_seq (below1 _ _) hb0
   obtain ⟨c0, c1, c2⟩ := cells3 p0
   go_wp2_with fail
   refine (sTilingsMany_any _ _ _ _ _ xs _ HN.out hn' (HA.out.below b0)).mono ?_; rintro e w1 ⟨rfl, hb1⟩
   rw [HT.out]
   have p1 := heap_later p0 hb1
   have b1 := below_seq b0 hb1
   clear c0 c1 c2
   obtain ⟨c0, c1, c2⟩ := cells3 p1
   go_wp2_with fail
   refine (l1In_any _ _ _ _).mono ?_; rintro e w2 ⟨rfl, rfl⟩
   rw [HIN.out]
   have zl : w.heap.size + 1 ≤ w1.heap.size := heap_lt p1
   go_wp2_with fail
   refine (sLaidBare_ret _ _ _ _ _ xs _ HN.out hn' (HA.out.below b1)).mono ?_; rintro e w2 ⟨a2, cap2, rfl, ho2, hb2⟩
   rw [hbr] at ho2 ⊢
   rw [← HBL.out] at ho2 ⊢
   have p2 := heap_later p1 hb2
   have b2 := below_seq b1 hb2
   have O2 := Lib.hid (ho2.lower (show w.heap.size + 1 ≤ _ by omega))
   clear c0 c1 c2 p1 b1 hb1 hb2 ho2 hbr p0 b0 hb0
   obtain ⟨c0, c1, c2⟩ := cells3 p2
   go_wp2_with fail
   refine (l2First_any _ _ _ _ _ xs _ _ (List.replicate n 0) _ HN.out HBL.out hn' (HA.out.below b2) (OwnsI.at O2.out)).mono ?_; rintro e w3 ⟨rfl, hb3⟩
   have p3 := heap_later p2 hb3
   have b3 := below_seq b2 hb3
   have O3 := Lib.hid (O2.out.below hb3)
   clear c0 c1 c2 p2 b2 hb3 O2
   go_wp2_with fail
   go_loopw [1, 6, 7] (fun r v cl wr => ∃ c : Nat, c ≤ n ∧ r = .int .i64 ((tlS W T xs q c).q : Int) ∧ cl = .int .i64 (firstI xs (tlS W T xs q c).M 0 n) ∧ OwnsI wr (w.heap.size + 1) v (tlS W T xs q c).M ∧ wr.heap[w.heap.size]? = some (.cells #[.int .i64 W, .int .i64 T, .slice a n cap] 25 (0, 0)) ∧ Below w.heap.size w wr) (fun _ _ cl _ => mzJ n cl)
   case atStart =>
    refine ⟨0, Nat.zero_le _, rfl, ?_, ?_, p3, b3⟩
    · show _ = Value.int .i64 (firstI xs (List.replicate xs.length 0) 0 n)
      rw [← HN.out]
    · show OwnsI _ _ _ (List.replicate xs.length 0)
      rw [← HN.out]; exact O3.out
   case round =>
    rename World => wo
    clear p3 b3 O3
    obtain ⟨c, hcm, rfl, rfl, ho, pr, hbel⟩ := hrel
    have BEL := Lib.hid hbel; clear hbel
    obtain ⟨c0, c1, c2⟩ := cells3 pr
    have l1 := heap_lt pr
    obtain ⟨hR0, hqd⟩ := HINV.out c (by rw [← HN.out]; exact hcm)
    have hfin := tlS_skips (W := W) (T := T) (xs := xs) (rank := q) (c := c)
    have hMl := (tlS_len (W := W) (T := T) (xs := xs) (rank := q) c).2
    rcases first_cases xs (tlS W T xs q c).M 0 n with ⟨hf, hno⟩ | ⟨f, _, hfm, hf, hfree, hno⟩
    · have hz : ∀ j, c ≤ j → j < c + (n - c) → (tlS W T xs q c).ys.getD j false = false := by
       intro j h1 h2
       rw [← hR0.free j (by rw [← HN.out]; omega)]
       exact hno j (Nat.zero_le _) (by omega)
      have e2 := hfin (n - c) hz
      rw [show c + (n - c) = n by omega] at e2
      rw [hf]
      rw [← e2] at ho hMl ⊢
      obtain ⟨a6, cap6, hv6⟩ := ho.form2
      rw [hMl, ← HN.out] at hv6
      subst hv6
      have HO := Lib.hid (ho.lower (show w.heap.size ≤ _ by omega)); clear ho e2 hz hno hf hfin hMl
      go_wp2
      go_ret2
      exact ⟨a6, cap6, rfl, HO.out, BEL.out⟩
    · have hyf : (tlS W T xs q c).ys.getD f false = true := by rw [← hR0.free f (by rw [← HN.out]; exact hfm)]; exact hfree
      have hcf : c ≤ f := by
       rcases Nat.lt_or_ge f c with h | h
       · rw [hR0.done f h] at hyf; cases hyf
       · exact h
      have hz : ∀ j, c ≤ j → j < c + (f - c) → (tlS W T xs q c).ys.getD j false = false := by
       intro j h1 h2
       rw [← hR0.free j (by rw [← HN.out]; omega)]
       exact hno j (Nat.zero_le _) (by omega)
      have e2 := hfin (f - c) hz
      rw [show c + (f - c) = f by omega] at e2
      rw [hf]
      rw [← e2] at ho hMl hyf ⊢
      clear hz hno hf hfree hfin hcm e2 hR0 hqd
      obtain ⟨hR0, hqd⟩ := HINV.out f (by rw [← HN.out]; omega)
      have hgo := tlS_go (W := W) (T := T) (xs := xs) (rank := q) (k := f) hyf
      have hnext := HINV.out (f + 1) (by rw [← HN.out]; omega)
      have hq36 := dpT_le (W := W) (T := T) (xs := (tlS W T xs q f).ys) (by rw [hR0.ly, ← HN.out]; exact n36)
      have hMS : ∀ way : Int, (tlS W T xs q (f + 1)).M = laidL W T xs (tlS W T xs q f).M f way → mzJ n (.int .i64 (firstI xs (laidL W T xs (tlS W T xs q f).M f way) 0 n)) < n + 1 - f := by
       intro way hw
       rw [← hw]
       refine mzJ_less hfm (fun j hj => ?_)
       rw [hnext.1.free j (by rw [← HN.out]; omega)]
       exact hnext.1.done j hj
      have HGM0 := hgo
      obtain ⟨S, hS⟩ : ∃ S, S = tlS W T xs q f := ⟨_, rfl⟩
      rw [← hS] at ho hMl hyf hgo hR0 hqd hq36 hMS ⊢
      clear hS HGM0 hnext
      obtain ⟨ys, M, r⟩ := S
      simp only at ho hMl hyf hgo hR0 hqd hq36 hMS ⊢
      rw [← HN.out] at hMl
      obtain ⟨a6, cap6, hv6⟩ := ho.form2
      rw [hMl] at hv6
      subst hv6
      have HO := Lib.hid ho; clear ho
      have hlokM := hR0.ok
      have hfl : ∀ way : Int, layF W T xs M f way = (laidL W T xs M f way, canLay W T xs M f way) := fun way => by unfold layF; rw [hlokM]; rfl
      have HFL := Lib.hid hfl; clear hfl hlokM
      have hll : ∀ way : Int, (laidL W T xs M f way).length = n := fun way => by rw [laidL_len]; exact hMl
      have HLL := Lib.hid hll; clear hll
      have HMLn := Lib.hid hMl.symm; clear hMl
      have HMS := Lib.hid hMS; clear hMS
      have hwl := withN_le' (W := W) (T := T) (xs := ys) (by rw [hR0.ly, ← HN.out]; exact n36) f 1
      have hcanE := hR0.can (c := f) (by rw [← HN.out]; exact hfm) 1
      have hEast := hR0.count (by rw [← HN.out]; exact hfm) 1 (by omega)
      rw [← HN.out] at hEast
      have hQ0' : canTake W T ys f 1 = false → withN W T ys f 1 = 0 := fun h => by unfold withN; rw [h]; rfl
      obtain ⟨Q, hQ⟩ : ∃ Q, Q = withN W T ys f 1 := ⟨_, rfl⟩
      rw [← hQ] at hgo hwl hEast hQ0'
      have e1 : (f : Int) < n := by omega
      clear hQ hyf hR0 hcf
      go_wp2_with fail
      refine (sLayOne_ret _ _ _ _ _ xs _ _ _ M _ _ _ HN.out hn' HMLn.out hn' (HA.out.below BEL.out) (OwnsI.at HO.out)).mono ?_; rintro e w4 ⟨a4, cap4, rfl, ho4, hb4⟩
      have hla4 : layF W T xs M f 1 = (laidL W T xs M f 1, canLay W T xs M f 1) := HFL.out 1
      rw [hla4]
      rw [hla4] at ho4
      simp only [HLL.out 1] at ho4 ⊢
      have p4 := heap_later pr hb4
      have B4 := Lib.hid (below_seq BEL.out hb4)
      have M4 := Lib.hid (HO.out.below hb4)
      have X4 := Lib.hid (OwnsI.lower ho4 (show w.heap.size + 1 ≤ _ by omega))
      have l4 := heap_lt p4
      clear ho4 hb4 hla4
      clear c0 c1 c2
      obtain ⟨c0, c1, c2⟩ := cells3 p4
      cases hcl : canLay W T xs M f 1
      · have hQ0 : Q = 0 := hQ0' (by rw [← hcanE]; exact hcl)
        subst hQ0
        rw [if_pos (Nat.zero_le _)] at hgo
        have HGO := Lib.hid hgo; clear hgo
        have HGM : Hid ((tlS W T xs q (f + 1)).M = laidL W T xs M f 2) := by show _ = _; rw [HGO.out]
        clear hEast hcanE hQ0' hcl
        go_wp2_with fail
        refine (sLayOne_ret _ _ _ _ _ xs _ _ _ M _ _ _ HN.out hn' HMLn.out hn' (HA.out.below B4.out) (OwnsI.at M4.out)).mono ?_; rintro e w5 ⟨a5, cap5, rfl, ho5, hb5⟩
        have hla5 : layF W T xs M f 2 = (laidL W T xs M f 2, canLay W T xs M f 2) := HFL.out 2
        rw [hla5]
        rw [hla5] at ho5
        simp only [HLL.out 2] at ho5 ⊢
        have p5 := heap_later p4 hb5
        have B5 := Lib.hid (below_seq B4.out hb5)
        have M5 := Lib.hid (M4.out.below hb5)
        have X5 := Lib.hid (OwnsI.lower ho5 (show w.heap.size + 1 ≤ _ by omega))
        have l5 := heap_lt p5
        clear ho5 hb5 hla5
        clear c0 c1 c2
        obtain ⟨c0, c1, c2⟩ := cells3 p5
        go_wp2_with fail
        refine (l2First_any _ _ _ _ _ xs _ _ (laidL W T xs M f 2) _ HN.out (HLL.out 2).symm hn' (HA.out.below B5.out) (OwnsI.at X5.out)).mono ?_; rintro e w9 ⟨rfl, hb9⟩
        have p9 := heap_later p5 hb9
        have B9 := below_seq B5.out hb9
        have X9 := X5.out.below hb9
        go_wp2_with fail
        have hms := HMS.out 2 HGM.out
        refine ⟨⟨f + 1, by omega, ?_, by rw [HGO.out], by rw [HGO.out]; exact X9, p9, B9⟩, ?_⟩
        · first
           | (rw [HGO.out]; done)
           | (rw [HGO.out]; rfl)
           | (rw [HGO.out]
              show Value.int _ _ = Value.int _ _
              congr 1
              show _ = ((r - 0 : Nat) : Int)
              omega)
        · show mzJ n (.int .i64 (firstI xs (laidL W T xs M f 2) 0 n)) < mzJ n (.int .i64 (f : Int))
          rw [mzJ_nat]
          exact hms
      · have hE := hEast hcl
        have HE := Lib.hid hE; clear hEast hcanE hQ0' hcl hE
        go_wp2_with fail
        refine (l3With_any _ _ _ _ _ xs _ _ (laidL W T xs M f 1) _ HN.out (HLL.out 1).symm hp n36 (HA.out.below B4.out) (OwnsI.at X4.out)).mono ?_; rintro e w6 ⟨rfl, hb6⟩
        rw [HE.out]
        have p6 := heap_later p4 hb6
        have B6 := Lib.hid (below_seq B4.out hb6)
        have M6 := Lib.hid (M4.out.below hb6)
        have X6 := Lib.hid (X4.out.below hb6)
        have l6 := heap_lt p6
        clear c0 c1 c2 hb6
        obtain ⟨c0, c1, c2⟩ := cells3 p6
        by_cases hle : Q ≤ r
        · rw [if_pos hle] at hgo
          have HGO := Lib.hid hgo; clear hgo
          have HGM : Hid ((tlS W T xs q (f + 1)).M = laidL W T xs M f 2) := by show _ = _; rw [HGO.out]
          have e3 : (Q : Int) ≤ r := by omega
          go_wp2_with fail
          refine (sLayOne_ret _ _ _ _ _ xs _ _ _ M _ _ _ HN.out hn' HMLn.out hn' (HA.out.below B6.out) (OwnsI.at M6.out)).mono ?_; rintro e w5 ⟨a5, cap5, rfl, ho5, hb5⟩
          have hla5 : layF W T xs M f 2 = (laidL W T xs M f 2, canLay W T xs M f 2) := HFL.out 2
          rw [hla5]
          rw [hla5] at ho5
          simp only [HLL.out 2] at ho5 ⊢
          have p5 := heap_later p6 hb5
          have B5 := Lib.hid (below_seq B6.out hb5)
          have M5 := Lib.hid (M6.out.below hb5)
          have X5 := Lib.hid (OwnsI.lower ho5 (show w.heap.size + 1 ≤ _ by omega))
          have l5 := heap_lt p5
          clear ho5 hb5 hla5
          clear c0 c1 c2
          obtain ⟨c0, c1, c2⟩ := cells3 p5
          go_wp2_with fail
          refine (l2First_any _ _ _ _ _ xs _ _ (laidL W T xs M f 2) _ HN.out (HLL.out 2).symm hn' (HA.out.below B5.out) (OwnsI.at X5.out)).mono ?_; rintro e w9 ⟨rfl, hb9⟩
          have p9 := heap_later p5 hb9
          have B9 := below_seq B5.out hb9
          have X9 := X5.out.below hb9
          go_wp2_with fail
          have hms := HMS.out 2 HGM.out
          refine ⟨⟨f + 1, by omega, ?_, by rw [HGO.out], by rw [HGO.out]; exact X9, p9, B9⟩, ?_⟩
          · first
             | (rw [HGO.out]; done)
             | (rw [HGO.out]; rfl)
             | (rw [HGO.out]
                show Value.int _ _ = Value.int _ _
                congr 1
                show _ = ((r - Q : Nat) : Int)
                omega)
          · show mzJ n (.int .i64 (firstI xs (laidL W T xs M f 2) 0 n)) < mzJ n (.int .i64 (f : Int))
            rw [mzJ_nat]
            exact hms
        · rw [if_neg hle] at hgo
          have HGO := Lib.hid hgo; clear hgo
          have HGM : Hid ((tlS W T xs q (f + 1)).M = laidL W T xs M f 1) := by show _ = _; rw [HGO.out]
          have e3 : (r : Int) < Q := by omega
          go_wp2_with fail
          refine (l2First_any _ _ _ _ _ xs _ _ (laidL W T xs M f 1) _ HN.out (HLL.out 1).symm hn' (HA.out.below B6.out) (OwnsI.at X6.out)).mono ?_; rintro e w9 ⟨rfl, hb9⟩
          have p9 := heap_later p6 hb9
          have B9 := below_seq B6.out hb9
          have X9 := X6.out.below hb9
          go_wp2_with fail
          have hms := HMS.out 1 HGM.out
          refine ⟨⟨f + 1, by omega, ?_, by rw [HGO.out], by rw [HGO.out]; exact X9, p9, B9⟩, ?_⟩
          · first
             | (rw [HGO.out]; done)
             | (rw [HGO.out]; rfl)
             | (rw [HGO.out]
                show Value.int _ _ = Value.int _ _
                congr 1
                show _ = (r : Int)
                omega)
          · show mzJ n (.int .i64 (firstI xs (laidL W T xs M f 1) 0 n)) < mzJ n (.int .i64 (f : Int))
            rw [mzJ_nat]
            exact hms
 · have e : tilOf W T xs rank = ([], false) := by unfold tilOf; rw [if_neg h]
   rw [e]
   clear e
   by_cases hr : rv W T xs = true
   · have ht : tilT W T xs = (dpT W T xs : Int) := by unfold tilT; rw [if_pos hr]
     have n36 : xs.length ≤ 36 := by
      obtain ⟨hW0, hW1, hT0, hT1, v5, _⟩ := rv_true hr
      have h1 : W * T ≤ 6 * 6 := Int.mul_le_mul hW1 hT1 (by omega) (by omega)
      omega
     have hdl := dpT_le (W := W) (T := T) (xs := xs) n36
     have hin : inB rank 0 ((dpT W T xs : Int) - 1) = false := by
      unfold inB
      refine decide_eq_false (fun q => h ⟨hr, q.1, by omega⟩)
     obtain ⟨D, hD⟩ : ∃ D, D = dpT W T xs := ⟨_, rfl⟩
     rw [← hD] at ht hin hdl
     have HT := Lib.hid ht; clear ht hD h
     go_enter Tryz.func53, Tryz.ntmps53
     go_wp2_with fail
     refine (sRegionValid_any _ _ _ _ _ xs _ HN.out hn' (HA.out.one _)).mono ?_; rintro e w0 ⟨rfl, hb0⟩
     rw [hr]
     have p0 := heap_later (heap_new w _) hb0
     have b0 := below_seq (below1 _ _) hb0
     obtain ⟨c0, c1, c2⟩ := cells3 p0
     go_wp2_with fail
     refine (sTilingsMany_any _ _ _ _ _ xs _ HN.out hn' (HA.out.below b0)).mono ?_; rintro e w1 ⟨rfl, hb1⟩
     rw [HT.out]
     go_wp2_with fail
     refine (l1In_any _ _ _ _).mono ?_; rintro e w2 ⟨rfl, rfl⟩
     rw [hin]
     go_wp2
     go_ret2
     exact ⟨_, _, rfl, own_nil_lit _ (by have := b0.size; have := hb1.size; omega), below_seq (below_seq b0 hb1) (below1 _ _)⟩
   · rw [Bool.not_eq_true] at hr
     clear h
     go_enter Tryz.func53, Tryz.ntmps53
     go_wp2_with fail
     refine (sRegionValid_any _ _ _ _ _ xs _ HN.out hn' (HA.out.one _)).mono ?_; rintro e w0 ⟨rfl, hb0⟩
     rw [hr]
     have b0 := below_seq (below1 _ _) hb0
     go_wp2
     go_ret2
     exact ⟨_, _, rfl, own_nil_lit _ b0.size, below_seq b0 (below1 _ _)⟩

end Go.Proofs.YtpcajacekmidbaaGreat
