/- The law FnHeightsOf: its walk. -/
import Derived.Test.YtknigcjpgkolgaaKDrawTwo
import Derived.Test.YtknigcjpgkolgaaKProm
import Derived.Test.YtknigcjpgkolgaaKHtsI
import Derived.Test.YtknigcjpgkolgaaKDrawHv1
import Derived.Test.YtknigcjpgkolgaaKLatFv1
namespace Go.Proofs.Ytknigcjpgkolgaa
open Go.RowKit
set_option linter.unusedVariables false
set_option maxRecDepth 100000
set_option linter.unusedSimpArgs false

set_option maxHeartbeats 4000000 in
theorem drawHeightsOf_any (cb : Option Addr) (n cap : Nat) (zs : List Int) (w : World) (hn : n = zs.length) (hn' : n ≤ 1048576) (hcap : n ≤ cap) (hb : BytesAt w cb zs) :
    Calls Try.prog 14 #[.slice cb n cap] w (DrawnRLh w) := by
  have HN := Lib.hid hn; clear hn
  have HB := Lib.hid hb; clear hb
  go_enter Try.func14, Try.ntmps14
  go_wp2_with fail
  refine (l20Open_any _ _ _ zs _ HN.out hn' hcap (HB.out.below (below1 _ _))).mono ?_; rintro e w1 ⟨rfl, r1, b1⟩
  have q1 := heap_later (heap_new w (.cells #[.int .i64 0, .int .i64 0, .slice none 0 0] 25)) b1
  have B1 := Lib.hid (below_seq (below1 w _) b1)
  have R1 : Hid (RD w1 (w.heap.size + 1) 0) := by show RD _ _ _; simpa using r1
  have l1 := heap_lt q1
  have l2 := R1.out.lt
  clear r1 b1
  go_wp2_with fail
  refine (l20Two_any (w.heap.size + 1) 0 _ (by omega) R1.out).mono ?_; rintro e w2 ⟨W, T, a, m, c, xs, la, q, lcap, L, lb, r, bcap, M, rfl, hm, h36, hs, o2, hq, hq36, i2, hr, hr36, j2, r2, g2⟩
  have q2 := heap_grown q1 g2 (by simp)
  have B2 := Lib.hid (below_grown B1.out g2 (Nat.le_refl _) (fun k e => by cases e; omega))
  have HM := Lib.hid hm; clear hm
  have HQ := Lib.hid hq; clear hq
  have HR := Lib.hid hr; clear hr
  have O2 := Lib.hid o2; clear o2
  have I2 := Lib.hid i2; clear i2
  have J2 := Lib.hid j2; clear j2
  have hl2 := r2.lt
  clear r2 g2
  obtain ⟨wB, hwB⟩ : ∃ wB, wB = w2.alloc (.cells #[.int .i64 W, .int .i64 T, .slice a m c] 25) := ⟨_, rfl⟩
  have pB : wB.heap[w2.heap.size]? = some (.cells #[.int .i64 W, .int .i64 T, .slice a m c] 25 (0, 0)) := by rw [hwB]; exact heap_new _ _
  have q3 : wB.heap[w.heap.size]? = some (.cells #[.int .i64 0, .int .i64 0, .slice none 0 0] 25 (0, 0)) := by rw [hwB]; exact heap_later q2 (below1 _ _)
  have B3 : Hid (Below w.heap.size w wB) := by rw [hwB]; exact below_seq B2.out (below1 _ _)
  have O3 : Hid (OwnsB wB w1.heap.size (.slice a m c) xs) := by rw [hwB]; exact O2.out.alloc _
  have I3 : Hid (OwnsI wB w1.heap.size (.slice la q lcap) L) := by rw [hwB]; exact I2.out.alloc _
  obtain ⟨c0, c1, c2⟩ := cells3 pB
  obtain ⟨d0, d1, d2⟩ := cells3 q3
  have f0 := free3 q3 0
  have f1 := free3 q3 1
  have f2 := free3 q3 2
  have HWB := Lib.hid hwB; clear hwB
  go_upto_region 2 with fail
  rw [← HWB.out]
  clear HWB
  go_wp2
  refine bodyPost_ret (v := .tuple #[.agg #[.int .i64 W, .int .i64 T, .slice a m c], .slice la q lcap]) (by simp [results, Try.results14, go_sem, d0, d1, d2]) rfl ⟨W, T, a, m, c, xs, la, q, lcap, L, rfl, HM.out, h36, hs, (O3.out.set3 (by omega) _ _ _).lower (by omega), HQ.out, by omega, (own_set3 I3.out (by omega) _ _ _).lower (by omega), below_set3 B3.out (Nat.le_refl _) _ _ _⟩

end Go.Proofs.Ytknigcjpgkolgaa

namespace Go.Proofs.Ytknigcjpgkolgaa
open Go.RowKit
set_option linter.unusedVariables false
set_option maxRecDepth 100000
set_option linter.unusedSimpArgs false

set_option maxHeartbeats 4000000 in
theorem promHeightsOf_walk (cb : Option Addr) (n cap : Nat) (zs : List Int) (w : World) (hn : n = zs.length) (hn' : n ≤ maxLen) (hcap : n ≤ cap) (hb : BytesAt w cb zs) :
    Calls Try.prog 3 #[.slice cb n cap] w fun e w' => e = .returned (.bool true) ∧ Below w.heap.size w w' := by
  have HN := Lib.hid hn; clear hn
  have HB := Lib.hid hb; clear hb
  by_cases hbig : 1048576 < n
  · unfold maxLen at hn'
    go_enter Try.func3, Try.ntmps3
    go_wp2
    go_ret
    exact ⟨rfl, Below.refl _ _⟩
  have hsm : n ≤ 1048576 := by omega
  clear hbig hn'
  go_enter Try.func3, Try.ntmps3
  go_wp2_with fail
  refine (drawHeightsOf_any _ _ _ zs _ HN.out hsm hcap HB.out).mono ?_; rintro e w1 ⟨W0, T0, a, m, c, xs, la, q, lcap, L, rfl, hm, h36, hs, ho, hq, hq49, hi, b1⟩
  have HM := Lib.hid hm; clear hm
  have HQ := Lib.hid hq; clear hq
  have A1 := Lib.hid (OwnsB.at ho); clear ho
  have I1 := Lib.hid (OwnsI.at hi); clear hi
  obtain ⟨s0, s1, s2, s3⟩ := hs
  obtain ⟨H, hH⟩ := htsR_exist W0 T0 xs L
  have hHl := hH.len
  have hHp := hts_pos hH
  obtain ⟨h, hh⟩ : ∃ h, h = H.length := ⟨_, rfl⟩
  rw [← hh] at hHl hHp
  have HP := Lib.hid hHp; clear hHp
  have HH := Lib.hid hH; clear hH
  have HHL := Lib.hid hh; clear hh
  go_wp2_with fail
  refine (iHeightsOf_ret _ _ _ _ _ xs _ _ _ L H _ HM.out (by omega) HQ.out (by omega) (A1.out.one _) (I1.out.one _) HH.out).mono ?_; rintro e w2 ⟨a2, cap2, rfl, ho2, hb2⟩
  rw [← HHL.out] at ho2 ⊢
  have b2 := below_seq (below_seq b1 (below1 _ _)) hb2
  have pr2 := heap_later (heap_new w1 (.cells #[.int .i64 W0, .int .i64 T0, .slice a m c] 25)) hb2
  have A2 := Lib.hid ((A1.out.one (.cells #[.int .i64 W0, .int .i64 T0, .slice a m c] 25)).below hb2)
  have I2 := Lib.hid ((I1.out.one (.cells #[.int .i64 W0, .int .i64 T0, .slice a m c] 25)).below hb2)
  have X2 := Lib.hid (OwnsI.at ho2)
  obtain ⟨cr20, cr21, cr22⟩ := cells3 pr2
  have lr2 := heap_lt pr2
  clear ho2
  go_wp2_with fail
  refine (sHeightsOf_ret _ _ _ _ _ xs _ _ _ L H _ HM.out (by omega) HQ.out (by omega) A2.out I2.out HH.out).mono ?_; rintro e w3 ⟨a3, cap3, rfl, ho3, hb3⟩
  rw [← HHL.out] at ho3 ⊢
  have b3 := below_seq b2 hb3
  have pr3 := heap_later pr2 hb3
  have A3 := Lib.hid (A2.out.below hb3)
  have I3 := Lib.hid (I2.out.below hb3)
  have X3 := Lib.hid (X2.out.below hb3)
  have Y3 := Lib.hid (OwnsI.at ho3)
  clear cr20 cr21 cr22 lr2
  obtain ⟨cr30, cr31, cr32⟩ := cells3 pr3
  have lr3 := heap_lt pr3
  clear ho3
  go_wp2_with fail
  refine (sameInts_same _ _ _ _ _ H _ HHL.out (by omega) X3.out Y3.out).mono ?_; rintro e w4 ⟨rfl, hb4⟩
  have b4 := below_seq b3 hb4
  have pr4 := heap_later pr3 hb4
  have A4 := Lib.hid (A3.out.below hb4)
  have I4 := Lib.hid (I3.out.below hb4)
  have X4 := Lib.hid (X3.out.below hb4)
  have Y4 := Lib.hid (Y3.out.below hb4)
  clear cr30 cr31 cr32 lr3
  obtain ⟨cr40, cr41, cr42⟩ := cells3 pr4
  have lr4 := heap_lt pr4
  rcases HP.out with ⟨rfl, hno⟩ | ⟨hpos, hsi, htk⟩
  · have HNO := Lib.hid hno; clear hno
    obtain ⟨S, hS⟩ : ∃ S, simpleB W0 T0 xs = S := ⟨_, rfl⟩
    have HS := Lib.hid hS; clear hS
    go_wp2_with fail
    refine (iSimple_any _ _ _ _ _ xs _ HM.out (by omega) A4.out).mono ?_; rintro e w5 ⟨rfl, hb5⟩
    rw [HS.out]
    have b5 := below_seq b4 hb5
    have pr5 := heap_later pr4 hb5
    have A5 := Lib.hid (A4.out.below hb5)
    have I5 := Lib.hid (I4.out.below hb5)
    have X5 := Lib.hid (X4.out.below hb5)
    clear cr40 cr41 cr42 lr4
    obtain ⟨cr50, cr51, cr52⟩ := cells3 pr5
    have lr5 := heap_lt pr5
    cases S
    · skip
      go_wp2_with fail
      refine (alive_any _).mono ?_; rintro e w6 ⟨rfl, hb6⟩
      go_wp2
      go_ret
      exact ⟨rfl, below_seq b5 hb6⟩
    · have htn : tok W0 T0 xs L = false := by have := HNO.out; rw [HS.out] at this; simpa using this
      have HTN := Lib.hid htn; clear htn
      go_wp2_with fail
      refine (iTilingOk_any _ _ _ _ _ xs _ _ _ L _ HM.out (by omega) HQ.out (by omega) A5.out I5.out).mono ?_; rintro e w6 ⟨rfl, hb6⟩
      rw [HTN.out]
      have b6 := below_seq b5 hb6
      have pr6 := heap_later pr5 hb6
      have A6 := Lib.hid (A5.out.below hb6)
      have I6 := Lib.hid (I5.out.below hb6)
      have X6 := Lib.hid (X5.out.below hb6)
      clear cr50 cr51 cr52 lr5
      obtain ⟨cr60, cr61, cr62⟩ := cells3 pr6
      have lr6 := heap_lt pr6
      go_wp2_with fail
      refine (alive_any _).mono ?_; rintro e w7 ⟨rfl, hb7⟩
      go_wp2
      go_ret
      exact ⟨rfl, below_seq b6 hb7⟩
  · have hx1 : ((h : Int) == 0) = false := by simp; omega
    obtain ⟨hok, hby⟩ := tby_of hsi htk HH.out
    have hft := first_tok htk
    have hfl := firstF_len W0 T0 xs
    obtain ⟨F, hF⟩ : ∃ F, firstF W0 T0 xs = F := ⟨_, rfl⟩
    rw [hF] at hft hfl
    obtain ⟨F1, ok1⟩ := F
    simp only at hft hfl
    obtain ⟨f, hf⟩ : ∃ f, f = F1.length := ⟨_, rfl⟩
    rw [← hf, ← HM.out] at hfl
    obtain ⟨G, hG⟩ := htsR_exist W0 T0 xs F1
    obtain ⟨hgl, hmod⟩ := hts_mod hsi htk hft HH.out hG
    rw [← HHL.out] at hgl hmod
    have HOK := Lib.hid hok; clear hok
    have HBY := Lib.hid hby; clear hby
    have HF := Lib.hid hF; clear hF
    have HFL := Lib.hid hf; clear hf
    have HG := Lib.hid hG; clear hG
    have HGL := Lib.hid hgl; clear hgl
    have HMOD := Lib.hid hmod; clear hmod hft hsi htk
    have hhh : ((h : Int) != h) = false := by simp
    go_wp2_with fail
    refine (iTilingBy_ret _ _ _ _ _ xs _ _ _ H _ HM.out (by omega) HHL.out (by omega) A4.out X4.out).mono ?_; rintro e w5 ⟨a5, cap5, rfl, ho5, hb5⟩
    rw [HBY.out] at ho5 ⊢
    simp only at ho5 ⊢
    rw [← HQ.out] at ho5 ⊢
    have b5 := below_seq b4 hb5
    have pr5 := heap_later pr4 hb5
    have A5 := Lib.hid (A4.out.below hb5)
    have I5 := Lib.hid (I4.out.below hb5)
    have X5 := Lib.hid (X4.out.below hb5)
    have Z5 := Lib.hid (OwnsI.at ho5)
    clear cr40 cr41 cr42 lr4
    obtain ⟨cr50, cr51, cr52⟩ := cells3 pr5
    have lr5 := heap_lt pr5
    clear ho5
    go_wp2_with fail
    refine (iTilingFirst_ret _ _ _ _ _ xs _ HM.out (by omega) A5.out).mono ?_; rintro e w6 ⟨a6, cap6, rfl, ho6, hb6⟩
    rw [HF.out] at ho6 ⊢
    simp only at ho6 ⊢
    rw [← HFL.out] at ho6 ⊢
    have b6 := below_seq b5 hb6
    have pr6 := heap_later pr5 hb6
    have A6 := Lib.hid (A5.out.below hb6)
    have I6 := Lib.hid (I5.out.below hb6)
    have X6 := Lib.hid (X5.out.below hb6)
    have Z6 := Lib.hid (Z5.out.below hb6)
    have F6 := Lib.hid (OwnsI.at ho6)
    clear cr50 cr51 cr52 lr5
    obtain ⟨cr60, cr61, cr62⟩ := cells3 pr6
    have lr6 := heap_lt pr6
    clear ho6
    go_wp2_with fail
    refine (iHeightsOf_ret _ _ _ _ _ xs _ _ _ F1 G _ HM.out (by omega) HFL.out (by omega) A6.out F6.out HG.out).mono ?_; rintro e w7 ⟨a7, cap7, rfl, ho7, hb7⟩
    rw [← HGL.out] at ho7 ⊢
    have b7 := below_seq b6 hb7
    have pr7 := heap_later pr6 hb7
    have A7 := Lib.hid (A6.out.below hb7)
    have I7 := Lib.hid (I6.out.below hb7)
    have X7 := Lib.hid (X6.out.below hb7)
    have Z7 := Lib.hid (Z6.out.below hb7)
    have F7 := Lib.hid (F6.out.below hb7)
    have G7 := Lib.hid (OwnsI.at ho7)
    clear cr60 cr61 cr62 lr6
    obtain ⟨cr70, cr71, cr72⟩ := cells3 pr7
    have lr7 := heap_lt pr7
    clear ho7
    go_wp2
    go_loopw [11] (fun i wr => ∃ k : Nat, k ≤ h ∧ i = .int .i64 k ∧ ∃ qq, wr = w7.drewN qq) (fun i _ => h - (intOf i).toNat)
    case atStart => exact ⟨0, Nat.zero_le _, rfl, 0, rfl⟩
    case round =>
      obtain ⟨k, hk, rfl, qq, rfl⟩ := hrel
      by_cases hlt : k < h
      · have e1 : (k : Int) < h := by omega
        have e0 : (0 : Int) ≤ k := by omega
        obtain ⟨hs1, hs2, hs3⟩ := HMOD.out k hlt
        obtain ⟨g1, o1, rfl, hc1⟩ := X7.out k (by rw [← HHL.out]; exact hlt)
        obtain ⟨g2, o2, rfl, hc2⟩ := G7.out k (by rw [← HGL.out]; exact hlt)
        have hw1 : IntKind.i64.wrap (H.getD k 0 - G.getD k 0) = H.getD k 0 - G.getD k 0 := IntWalk.i64_in _ (by omega)
        have hm1 : (H.getD k 0 - G.getD k 0).tmod 4 = 0 := Int.tmod_eq_zero_of_dvd (Int.dvd_of_emod_eq_zero hs1)
        generalize H.getD k 0 = xv at *
        generalize G.getD k 0 = yv at *
        obtain ⟨sv, hsv⟩ : ∃ sv, xv - yv = sv := ⟨_, rfl⟩
        have HW1 : IntKind.i64.wrap (xv - yv) = sv := by rw [hw1]; exact hsv
        rw [hsv] at hm1 hs1
        clear hs2 hs3 hw1 hsv
        go_wp2
        go_quiet (fail)
        go_wp2
        go_roundw
        case rel => exact ⟨k + 1, by omega, by go_num, _, rfl⟩
        case measure => simp [intOf]; omega
      · obtain rfl : k = h := by omega
        go_wp2_with fail
        refine (iHeightsOk_any _ _ _ _ _ xs _ _ _ H _ HM.out (by omega) HHL.out (by omega) (A7.out.below (drewN_below _ _)) (X7.out.below (drewN_below _ _))).mono ?_; rintro e w8 ⟨rfl, hb8⟩
        rw [HOK.out]
        go_wp2_with fail
        refine (sameInts_same _ _ _ _ _ L _ HQ.out (by omega) ((Z7.out.below (drewN_below _ _)).below hb8) ((I7.out.below (drewN_below _ _)).below hb8)).mono ?_; rintro e w9 ⟨rfl, hb9⟩
        go_wp2
        go_ret
        exact ⟨rfl, below_seq (below_seq (below_seq b7 (drewN_below _ _)) hb8) hb9⟩

end Go.Proofs.Ytknigcjpgkolgaa
