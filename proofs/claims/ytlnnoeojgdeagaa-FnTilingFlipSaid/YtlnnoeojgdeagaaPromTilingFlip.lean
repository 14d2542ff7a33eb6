/- The law FnTilingFlip: its walk. -/
import Derived.Test.YtlnnoeojgdeagaaDrawL
import Derived.Test.YtlnnoeojgdeagaaTurnP
import Derived.Test.YtlnnoeojgdeagaaTurnRet
import Derived.Test.YtlnnoeojgdeagaaLaidN
namespace Go.Proofs.Ytlnnoeojgdeagaa
open Go.RowKit
set_option linter.unusedVariables false
set_option maxRecDepth 100000
set_option linter.unusedSimpArgs false
theorem flipLF_yes {W T : Nat} {xs : List Bool} {L : List Int} (h : lok W T xs L = true) : flipLF W T xs L = flippedI W T L := by unfold flipLF; rw [if_pos h]; rfl
theorem flat_flipped {W T : Nat} {xs : List Bool} {L : List Int} (h : lok W T xs L = true) : flatN W T (flipped W T xs) (flippedI W T L) = flatN W T xs L := by
  obtain ⟨hr, v1, v2, v3, v4, v5, v6⟩ := lok_parts h
  have hW : 0 < W := by omega
  have e1 : wayN (flippedI W T L) 1 (W * T) = wayN L 3 (W * T) := by
    unfold wayN
    rw [countP_sumN, countP_sumN]
    rw [← sumN_reindex (fIdx W) (fIdx W) (fun i => if L.getD i 0 == 3 then 1 else 0) (fun i hi => fIdx_lt hW hi) (fun i hi => fIdx_lt hW hi) (fun i _ => fIdx_fIdx hW) (fun i _ => fIdx_fIdx hW)]
    refine sumN_congr fun i hi => ?_
    rw [flippedI_at L hi]
    have hw := lok_way h (k := fIdx W i) (by rw [v6]; exact fIdx_lt hW hi)
    have e : (flipW (L.getD (fIdx W i) 0) == 1) = (L.getD (fIdx W i) 0 == 3) := by
      apply Bool.eq_iff_iff.2
      simp only [beq_iff_eq]
      unfold flipW backI
      split <;> omega
    rw [e]
  have e2 := (count_ends h).1
  rw [v6] at e2
  unfold flatN
  rw [if_pos h, if_pos (lok_flipped h), flippedI_len, v6, e1, e2]

set_option maxHeartbeats 8000000 in
theorem promTilingFlip_walk (cb : Option Addr) (n cap : Nat) (zs : List Int) (w : World) (hn : n = zs.length) (hn' : n ≤ maxLen) (hcap : n ≤ cap) (hb : BytesAt w cb zs) :
    Calls Try.prog 12 #[.slice cb n cap] w fun e w' => e = .returned (.bool true) ∧ Below w.heap.size w w' := by
  have HN := Lib.hid hn; clear hn
  have HB := Lib.hid hb; clear hb
  by_cases hbig : 1048576 < n
  · unfold maxLen at hn'
    go_enter Try.func12, Try.ntmps12
    go_wp2
    go_ret
    exact ⟨rfl, Below.refl _ _⟩
  have hsm : n ≤ 1048576 := by omega
  clear hbig hn'
  go_enter Try.func12, Try.ntmps12
  go_wp2_with fail
  refine (drawTilingFlip_any _ _ _ zs _ HN.out hsm hcap HB.out).mono ?_; rintro e w1 ⟨W0, T0, a, m, c, xs, la, q, lcap, L, rfl, hm, h36, hs, ho, hq, hq36, hi, b1⟩
  have HM := Lib.hid hm; clear hm
  have HQ := Lib.hid hq; clear hq
  have A1 := Lib.hid (OwnsB.at ho); clear ho
  have I1 := Lib.hid (OwnsI.at hi); clear hi
  obtain ⟨s0, s1, s2, s3⟩ := hs
  obtain ⟨X, hX⟩ : ∃ X, flipLF W0 T0 xs L = X := ⟨_, rfl⟩
  obtain ⟨x, hx⟩ : ∃ x, x = X.length := ⟨_, rfl⟩
  have hxq : x ≤ q := by have := flipLF_len W0 T0 xs L; rw [hX, ← hx, ← HQ.out] at this; exact this
  have HXX := Lib.hid hX; clear hX
  have HX := Lib.hid hx; clear hx
  go_wp2_with fail
  refine (iTilingFlip_ret _ _ _ _ _ xs _ _ _ L _ HM.out (by omega) HQ.out (by omega) (A1.out.one _) (I1.out.one _)).mono ?_; rintro e w2 ⟨a2, cap2, rfl, ho2, hb2⟩
  rw [HXX.out] at ho2 ⊢
  rw [← HX.out] at ho2 ⊢
  have b2 := below_seq (below_seq b1 (below1 _ _)) hb2
  have pr2 := heap_later (heap_new w1 (.cells #[.int .i64 W0, .int .i64 T0, .slice a m c] 28)) hb2
  have A2 := Lib.hid ((A1.out.one (.cells #[.int .i64 W0, .int .i64 T0, .slice a m c] 28)).below hb2)
  have I2 := Lib.hid ((I1.out.one (.cells #[.int .i64 W0, .int .i64 T0, .slice a m c] 28)).below hb2)
  have X2 := Lib.hid (OwnsI.at ho2)
  obtain ⟨cr20, cr21, cr22⟩ := cells3 pr2
  have lr2 := heap_lt pr2
  clear ho2
  go_wp2_with fail
  refine (sTilingFlip_ret _ _ _ _ _ xs _ _ _ L _ HM.out (by omega) HQ.out (by omega) A2.out I2.out).mono ?_; rintro e w3 ⟨a3, cap3, rfl, ho3, hb3⟩
  rw [HXX.out] at ho3 ⊢
  rw [← HX.out] at ho3 ⊢
  have b3 := below_seq b2 hb3
  have pr3 := heap_later pr2 hb3
  have A3 := Lib.hid (A2.out.below hb3)
  have I3 := Lib.hid (I2.out.below hb3)
  have X3 := Lib.hid (X2.out.below hb3)
  have Y3 := Lib.hid (OwnsI.at ho3)
  clear cr20 cr21 cr22 lr2
  obtain ⟨cr30, cr31, cr32⟩ := cells3 pr3
  have lr3 := heap_lt pr3
  clear ho3
  go_wp2_with fail
  refine (sameInts_same _ _ _ _ _ X _ HX.out (by omega) X3.out Y3.out).mono ?_; rintro e w4 ⟨rfl, hb4⟩
  have b4 := below_seq b3 hb4
  have pr4 := heap_later pr3 hb4
  have A4 := Lib.hid (A3.out.below hb4)
  have I4 := Lib.hid (I3.out.below hb4)
  have X4 := Lib.hid (X3.out.below hb4)
  have Y4 := Lib.hid (Y3.out.below hb4)
  clear cr30 cr31 cr32 lr3
  obtain ⟨cr40, cr41, cr42⟩ := cells3 pr4
  have lr4 := heap_lt pr4
  go_wp2_with fail
  refine (sLaidOk_any _ _ _ _ _ xs _ _ _ L _ HM.out (by omega) HQ.out (by omega) A4.out I4.out).mono ?_; rintro e w5 ⟨rfl, hb5⟩
  have b5 := below_seq b4 hb5
  have pr5 := heap_later pr4 hb5
  have A5 := Lib.hid (A4.out.below hb5)
  have I5 := Lib.hid (I4.out.below hb5)
  have X5 := Lib.hid (X4.out.below hb5)
  clear cr40 cr41 cr42 lr4
  obtain ⟨cr50, cr51, cr52⟩ := cells3 pr5
  have lr5 := heap_lt pr5
  cases h : lok W0 T0 xs L
  · have e : X = [] := by rw [← HXX.out]; unfold flipLF; rw [h]; rfl
    have hx0 : x = 0 := by rw [HX.out, e]; rfl
    subst hx0
    clear h e
    go_wp2_with fail
    refine (alive_any _).mono ?_; rintro e w6 ⟨rfl, hb6⟩
    go_wp2
    go_ret
    exact ⟨rfl, below_seq b5 hb6⟩
  · obtain ⟨Wn, Tn, rfl, rfl, hLl⟩ := lok_nat h
    obtain ⟨hr, v1, v2, v3, v4, v5, v6⟩ := lok_parts h
    have hW : 0 < Wn := by omega
    have hT : 0 < Tn := by omega
    have hmW : m = Wn * Tn := by rw [HM.out]; exact v5
    have hqm : q = m := by rw [HQ.out, v6, hmW]
    subst hqm
    have HMW := Lib.hid hmW; clear hmW
    have HMT : Hid (q = Tn * Wn) := by show q = _; rw [HMW.out, Nat.mul_comm]
    have k1 := lok_flipped h
    have hX1 : X = flippedI Wn Tn L := by rw [← HXX.out]; exact flipLF_yes h
    have hxm : x = q := by rw [HX.out, hX1, flippedI_len, HMW.out]
    subst hxm
    obtain ⟨F, hF⟩ : ∃ F, F = flatN Wn Tn xs L := ⟨_, rfl⟩
    have HF1 : Hid (flatN Wn Tn (flipped Wn Tn xs) X = F) := by show _ = _; rw [hX1, flat_flipped h, hF]
    have HF2 : Hid (flatN Wn Tn xs L = F) := hF.symm
    clear hF
    rw [← hX1] at k1
    have E2 : Hid (flipLF Wn Tn (flipped Wn Tn xs) X = L) := by show _ = _; rw [flipLF_yes k1, hX1]; exact flipped_two h
    have HT1 : Hid (x = (flipped Wn Tn xs).length) := by show x = _; rw [flipped_len]; exact HMW.out
    have K1 := Lib.hid k1; clear k1
    clear hX1 h hLl v5 v6
    have HRV := Lib.hid hr; clear hr
    obtain ⟨Z1, hZ1⟩ : ∃ Z1, Z1 = flipped Wn Tn xs := ⟨_, rfl⟩
    rw [← hZ1] at E2 HT1 K1 HF1
    have HZ1 := Lib.hid hZ1; clear hZ1
    have hm1 : x ≤ 1048576 := by omega
    have hFF : (F == F) = true := by simp
    go_wp2_with fail
    refine (iRegionFlip_yes Wn Tn _ _ _ xs _ HM.out hm1 A5.out HRV.out HMW.out).mono ?_; rintro e w6 ⟨g6, rfl, ho6, hb6⟩
    rw [← HZ1.out] at ho6
    have b6 := below_seq b5 hb6
    have pr6 := heap_later pr5 hb6
    have A6 := Lib.hid (A5.out.below hb6)
    have I6 := Lib.hid (I5.out.below hb6)
    have X6 := Lib.hid (X5.out.below hb6)
    have B6 := Lib.hid (OwnsB.at ho6)
    clear cr50 cr51 cr52 lr5
    obtain ⟨cr60, cr61, cr62⟩ := cells3 pr6
    have lr6 := heap_lt pr6
    clear ho6
    obtain ⟨w7, hw7⟩ : ∃ w7, w7 = w6.alloc (.cells #[.int .i64 Wn, .int .i64 Tn, .slice (some ⟨g6, 0, none⟩) x x] 28) := ⟨_, rfl⟩
    have pr7 : w7.heap[w1.heap.size]? = some (.cells #[.int .i64 Wn, .int .i64 Tn, .slice a x c] 28 (0, 0)) := by rw [hw7]; exact heap_later pr6 (below1 _ _)
    have px7 : w7.heap[w6.heap.size]? = some (.cells #[.int .i64 Wn, .int .i64 Tn, .slice (some ⟨g6, 0, none⟩) x x] 28 (0, 0)) := by rw [hw7]; exact heap_new _ _
    have A7 : Hid (BoolsAt w7 a xs) := by rw [hw7]; exact A6.out.one _
    have I7 : Hid (IntsAt w7 la L) := by rw [hw7]; exact I6.out.one _
    have X7 : Hid (IntsAt w7 a2 X) := by rw [hw7]; exact X6.out.one _
    have B7 : Hid (BoolsAt w7 (some ⟨g6, 0, none⟩) Z1) := by rw [hw7]; exact B6.out.one _
    have b7 : Below w.heap.size w w7 := by rw [hw7]; exact below_seq b6 (below1 _ _)
    clear cr60 cr61 cr62 lr6
    obtain ⟨cr70, cr71, cr72⟩ := cells3 pr7
    have lr7 := heap_lt pr7
    obtain ⟨cx70, cx71, cx72⟩ := cells3 px7
    have lx7 := heap_lt px7
    go_wp2_with fail
    rw [← hw7]
    clear hw7
    go_wp2_with fail
    have prd7 : w7.drew.heap[w1.heap.size]? = some (.cells #[.int .i64 Wn, .int .i64 Tn, .slice a x c] 28 (0, 0)) := pr7
    have pxd7 : w7.drew.heap[w6.heap.size]? = some (.cells #[.int .i64 Wn, .int .i64 Tn, .slice (some ⟨g6, 0, none⟩) x x] 28 (0, 0)) := px7
    have Ad7 : Hid (BoolsAt w7.drew a xs) := A7
    have Id7 : Hid (IntsAt w7.drew la L) := I7
    have Xd7 : Hid (IntsAt w7.drew a2 X) := X7
    have Bd7 : Hid (BoolsAt w7.drew (some ⟨g6, 0, none⟩) Z1) := B7
    have bd7 : Below w.heap.size w w7.drew := below_seq b7 (drew_below _)
    go_region_held3 (fun w' => w'.cell? ⟨w1.heap.size, 0, none⟩ = some (.int .i64 Wn) ∧ w'.cell? ⟨w1.heap.size, 1, none⟩ = some (.int .i64 Tn) ∧ w'.cell? ⟨w1.heap.size, 2, none⟩ = some (.slice a x c) ∧ w'.cell? ⟨w6.heap.size, 0, none⟩ = some (.int .i64 Wn) ∧ w'.cell? ⟨w6.heap.size, 1, none⟩ = some (.int .i64 Tn) ∧ w'.cell? ⟨w6.heap.size, 2, none⟩ = some (.slice (some ⟨g6, 0, none⟩) x x))
      (go_keep)
      (first
        | (go_at_call 41; refine (iFlatMany_any _ _ _ _ _ xs _ _ _ L _ HM.out hm1 HQ.out hm1 A11.out I11.out).mono ?_; rintro e w12 ⟨rfl, hb12⟩; rw [HF2.out]; have b12 := below_seq b11 hb12; have pr12 := heap_later pr11 hb12; have px12 := heap_later px11 hb12; have A12 := Lib.hid (A11.out.below hb12); have I12 := Lib.hid (I11.out.below hb12); have X12 := Lib.hid (X11.out.below hb12); have B12 := Lib.hid (B11.out.below hb12); have E12 := Lib.hid (E11.out.below hb12); obtain ⟨cr120, cr121, cr122⟩ := cells3 pr12; have lr12 := heap_lt pr12; obtain ⟨cx120, cx121, cx122⟩ := cells3 px12; have lx12 := heap_lt px12)
        | (go_at_call 41; refine (iFlatMany_any _ _ _ _ _ Z1 _ _ _ X _ HT1.out hm1 HX.out hm1 B10.out X10.out).mono ?_; rintro e w11 ⟨rfl, hb11⟩; rw [HF1.out]; have b11 := below_seq b10 hb11; have pr11 := heap_later pr10 hb11; have px11 := heap_later px10 hb11; have A11 := Lib.hid (A10.out.below hb11); have I11 := Lib.hid (I10.out.below hb11); have X11 := Lib.hid (X10.out.below hb11); have B11 := Lib.hid (B10.out.below hb11); have E11 := Lib.hid (E10.out.below hb11); obtain ⟨cr110, cr111, cr112⟩ := cells3 pr11; have lr11 := heap_lt pr11; obtain ⟨cx110, cx111, cx112⟩ := cells3 px11; have lx11 := heap_lt px11)
        | (go_at_call 36; refine (sameInts_same _ _ _ _ _ L _ HQ.out hm1 E9.out I9.out).mono ?_; rintro e w10 ⟨rfl, hb10⟩; have b10 := below_seq b9 hb10; have pr10 := heap_later pr9 hb10; have px10 := heap_later px9 hb10; have A10 := Lib.hid (A9.out.below hb10); have I10 := Lib.hid (I9.out.below hb10); have X10 := Lib.hid (X9.out.below hb10); have B10 := Lib.hid (B9.out.below hb10); have E10 := Lib.hid (E9.out.below hb10); obtain ⟨cr100, cr101, cr102⟩ := cells3 pr10; have lr10 := heap_lt pr10; obtain ⟨cx100, cx101, cx102⟩ := cells3 px10; have lx10 := heap_lt px10)
        | (go_at_call 57; refine (iTilingFlip_ret Wn Tn _ _ _ Z1 _ _ _ X _ HT1.out hm1 HX.out hm1 B8.out X8.out).mono ?_; rintro e w9 ⟨a9, cap9, rfl, ho9, hb9⟩; rw [E2.out] at ho9 ⊢; rw [← HQ.out] at ho9 ⊢; have b9 := below_seq b8 hb9; have pr9 := heap_later pr8 hb9; have px9 := heap_later px8 hb9; have A9 := Lib.hid (A8.out.below hb9); have I9 := Lib.hid (I8.out.below hb9); have X9 := Lib.hid (X8.out.below hb9); have B9 := Lib.hid (B8.out.below hb9); have E9 := Lib.hid (OwnsI.at ho9); obtain ⟨cr90, cr91, cr92⟩ := cells3 pr9; have lr9 := heap_lt pr9; obtain ⟨cx90, cx91, cx92⟩ := cells3 px9; have lx9 := heap_lt px9)
        | (go_at_call 55; refine (iLaidOk_any _ _ _ _ _ Z1 _ _ _ X _ HT1.out hm1 HX.out hm1 Bd7.out Xd7.out).mono ?_; rintro e w8 ⟨rfl, hb8⟩; rw [K1.out]; have b8 := below_seq bd7 hb8; have pr8 := heap_later prd7 hb8; have px8 := heap_later pxd7 hb8; have A8 := Lib.hid (Ad7.out.below hb8); have I8 := Lib.hid (Id7.out.below hb8); have X8 := Lib.hid (Xd7.out.below hb8); have B8 := Lib.hid (Bd7.out.below hb8); obtain ⟨cr80, cr81, cr82⟩ := cells3 pr8; have lr8 := heap_lt pr8; obtain ⟨cx80, cx81, cx82⟩ := cells3 px8; have lx8 := heap_lt px8))
    go_wp2
    go_ret
    exact ⟨rfl, b12⟩

end Go.Proofs.Ytlnnoeojgdeagaa
