/- The law FnHeightsOk: its walk. -/
import Derived.Test.YtknigcjpgkolgaaKProm
import Derived.Test.YtknigcjpgkolgaaKHokS
import Derived.Test.YtknigcjpgkolgaaKHtsI
import Derived.Test.YtknigcjpgkolgaaKLatTv1
import Derived.Test.YtknigcjpgkolgaaKDrawH
import Derived.Test.YtknigcjpgkolgaaKLatTv2
import Derived.Test.YtknigcjpgkolgaaKDrawHv1
namespace Go.Proofs.Ytknigcjpgkolgaa
open Go.RowKit
set_option linter.unusedVariables false
set_option maxRecDepth 100000
set_option linter.unusedSimpArgs false

set_option maxHeartbeats 4000000 in
theorem drawHeightsOk_any (cb : Option Addr) (n cap : Nat) (zs : List Int) (w : World) (hn : n = zs.length) (hn' : n ≤ 1048576) (hcap : n ≤ cap) (hb : BytesAt w cb zs) :
    Calls Try.prog 24 #[.slice cb n cap] w (DrawnRLh w) := by
  have HN := Lib.hid hn; clear hn
  have HB := Lib.hid hb; clear hb
  go_enter Try.func24, Try.ntmps24
  go_wp2_with fail
  refine (l20Open_any _ _ _ zs _ HN.out hn' hcap (HB.out.below (below1 _ _))).mono ?_; rintro e w1 ⟨rfl, r1, b1⟩
  have q1 := heap_later (heap_new w (.cells #[.int .i64 0, .int .i64 0, .slice none 0 0] 25)) b1
  have B1 := Lib.hid (below_seq (below1 w _) b1)
  have R1 : Hid (RD w1 (w.heap.size + 1) 0) := by show RD _ _ _; simpa using r1
  have l1 := heap_lt q1
  have l2 := R1.out.lt
  clear r1 b1
  go_wp2_with fail
  refine (l20Heights_any (w.heap.size + 1) 0 _ (by omega) R1.out).mono ?_; rintro e w2 ⟨W, T, a, m, c, xs, la, q, lcap, L, lb, r, bcap, M, rfl, hm, h36, hs, o2, hq, hq36, i2, hr, hr36, j2, r2, g2⟩
  have q2 := heap_grown q1 g2 (by simp)
  have B2 := Lib.hid (below_grown B1.out g2 (Nat.le_refl _) (fun k e => by cases e; omega))
  have HM := Lib.hid hm; clear hm
  have HQ := Lib.hid hq; clear hq
  have HR := Lib.hid hr; clear hr
  have O2 := Lib.hid o2; clear o2
  have I2 := Lib.hid i2; clear i2
  have J2 := Lib.hid j2; clear j2
  have hl2 := r2.lt
  clear r2 g2
  obtain ⟨wB, hwB⟩ : ∃ wB, wB = w2.alloc (.cells #[.int .i64 W, .int .i64 T, .slice a m c] 25) := ⟨_, rfl⟩
  have pB : wB.heap[w2.heap.size]? = some (.cells #[.int .i64 W, .int .i64 T, .slice a m c] 25 (0, 0)) := by rw [hwB]; exact heap_new _ _
  have q3 : wB.heap[w.heap.size]? = some (.cells #[.int .i64 0, .int .i64 0, .slice none 0 0] 25 (0, 0)) := by rw [hwB]; exact heap_later q2 (below1 _ _)
  have B3 : Hid (Below w.heap.size w wB) := by rw [hwB]; exact below_seq B2.out (below1 _ _)
  have O3 : Hid (OwnsB wB w1.heap.size (.slice a m c) xs) := by rw [hwB]; exact O2.out.alloc _
  have I3 : Hid (OwnsI wB w1.heap.size (.slice la q lcap) L) := by rw [hwB]; exact I2.out.alloc _
  obtain ⟨c0, c1, c2⟩ := cells3 pB
  obtain ⟨d0, d1, d2⟩ := cells3 q3
  have f0 := free3 q3 0
  have f1 := free3 q3 1
  have f2 := free3 q3 2
  have HWB := Lib.hid hwB; clear hwB
  go_upto_region 2 with fail
  rw [← HWB.out]
  clear HWB
  go_wp2
  refine bodyPost_ret (v := .tuple #[.agg #[.int .i64 W, .int .i64 T, .slice a m c], .slice la q lcap]) (by simp [results, Try.results24, go_sem, d0, d1, d2]) rfl ⟨W, T, a, m, c, xs, la, q, lcap, L, rfl, HM.out, h36, hs, (O3.out.set3 (by omega) _ _ _).lower (by omega), HQ.out, by omega, (own_set3 I3.out (by omega) _ _ _).lower (by omega), below_set3 B3.out (Nat.le_refl _) _ _ _⟩

end Go.Proofs.Ytknigcjpgkolgaa

namespace Go.Proofs.Ytknigcjpgkolgaa
open Go.RowKit
set_option linter.unusedVariables false
set_option maxRecDepth 100000
set_option linter.unusedSimpArgs false

set_option maxHeartbeats 4000000 in
theorem promHeightsOk_walk (cb : Option Addr) (n cap : Nat) (zs : List Int) (w : World) (hn : n = zs.length) (hn' : n ≤ maxLen) (hcap : n ≤ cap) (hb : BytesAt w cb zs) :
    Calls Try.prog 4 #[.slice cb n cap] w fun e w' => e = .returned (.bool true) ∧ Below w.heap.size w w' := by
  have HN := Lib.hid hn; clear hn
  have HB := Lib.hid hb; clear hb
  by_cases hbig : 1048576 < n
  · unfold maxLen at hn'
    go_enter Try.func4, Try.ntmps4
    go_wp2
    go_ret
    exact ⟨rfl, Below.refl _ _⟩
  have hsm : n ≤ 1048576 := by omega
  clear hbig hn'
  go_enter Try.func4, Try.ntmps4
  go_wp2_with fail
  refine (drawHeightsOk_any _ _ _ zs _ HN.out hsm hcap HB.out).mono ?_; rintro e w1 ⟨W0, T0, a, m, c, xs, la, q, lcap, L, rfl, hm, h36, hs, ho, hq, hq49, hi, b1⟩
  have HM := Lib.hid hm; clear hm
  have HQ := Lib.hid hq; clear hq
  have A1 := Lib.hid (OwnsB.at ho); clear ho
  have I1 := Lib.hid (OwnsI.at hi); clear hi
  obtain ⟨s0, s1, s2, s3⟩ := hs
  obtain ⟨ok, hok⟩ : ∃ ok, hokB W0 T0 xs L = ok := ⟨_, rfl⟩
  obtain ⟨R, hR⟩ : ∃ R, tbyF W0 T0 xs L = R := ⟨_, rfl⟩
  have hR2 : R.2 = ok := by rw [← hR, ← hok]; exact tbyF_ok _ _ _ _
  have hRl : R.1.length ≤ m := by rw [← hR, HM.out]; exact tbyF_len _ _ _ _
  have hRt : ok = true → tok W0 T0 xs R.1 = true ∧ HtsR W0 T0 xs R.1 L := fun h => by have := tby_to (hok.trans h); rw [hR] at this; exact ⟨this.2.2.1, this.2.2.2⟩
  have hRn : ok = false → R.1 = [] := fun h => by rw [← hR, tby_no (hok.trans h)]
  obtain ⟨X, ok2⟩ := R
  simp only at hR2 hRl hRt hRn
  subst hR2
  obtain ⟨x, hx⟩ : ∃ x, x = X.length := ⟨_, rfl⟩
  rw [← hx] at hRl
  have HOK := Lib.hid hok; clear hok
  have HR := Lib.hid hR; clear hR
  have HRT := Lib.hid hRt; clear hRt
  have HRN := Lib.hid hRn; clear hRn
  have HX := Lib.hid hx; clear hx
  have hbb : (ok2 == ok2) = true := by simp
  have hbn : (ok2 != ok2) = false := by simp
  go_wp2_with fail
  refine (iHeightsOk_any _ _ _ _ _ xs _ _ _ L _ HM.out (by omega) HQ.out (by omega) (A1.out.one _) (I1.out.one _)).mono ?_; rintro e w2 ⟨rfl, hb2⟩
  rw [HOK.out]
  have b2 := below_seq (below_seq b1 (below1 _ _)) hb2
  have pr2 := heap_later (heap_new w1 (.cells #[.int .i64 W0, .int .i64 T0, .slice a m c] 25)) hb2
  have A2 := Lib.hid ((A1.out.one (.cells #[.int .i64 W0, .int .i64 T0, .slice a m c] 25)).below hb2)
  have I2 := Lib.hid ((I1.out.one (.cells #[.int .i64 W0, .int .i64 T0, .slice a m c] 25)).below hb2)
  obtain ⟨cr20, cr21, cr22⟩ := cells3 pr2
  have lr2 := heap_lt pr2
  go_wp2_with fail
  refine (sHeightsOk_any _ _ _ _ _ xs _ _ _ L _ HM.out (by omega) HQ.out (by omega) A2.out I2.out).mono ?_; rintro e w3 ⟨rfl, hb3⟩
  rw [HOK.out]
  have b3 := below_seq b2 hb3
  have pr3 := heap_later pr2 hb3
  have A3 := Lib.hid (A2.out.below hb3)
  have I3 := Lib.hid (I2.out.below hb3)
  clear cr20 cr21 cr22 lr2
  obtain ⟨cr30, cr31, cr32⟩ := cells3 pr3
  have lr3 := heap_lt pr3
  go_wp2_with fail
  refine (iTilingBy_ret _ _ _ _ _ xs _ _ _ L _ HM.out (by omega) HQ.out (by omega) A3.out I3.out).mono ?_; rintro e w4 ⟨a4, cap4, rfl, ho4, hb4⟩
  rw [HR.out] at ho4 ⊢
  simp only at ho4 ⊢
  rw [← HX.out] at ho4 ⊢
  have b4 := below_seq b3 hb4
  have pr4 := heap_later pr3 hb4
  have A4 := Lib.hid (A3.out.below hb4)
  have I4 := Lib.hid (I3.out.below hb4)
  have X4 := Lib.hid (OwnsI.at ho4)
  clear cr30 cr31 cr32 lr3
  obtain ⟨cr40, cr41, cr42⟩ := cells3 pr4
  have lr4 := heap_lt pr4
  clear ho4
  cases ok2
  · clear HRT HRN
    go_wp2_with fail
    refine (alive_any _).mono ?_; rintro e w5 ⟨rfl, hb5⟩
    go_wp2
    go_ret
    exact ⟨rfl, below_seq b4 hb5⟩
  · obtain ⟨htk, hht⟩ := HRT.out rfl
    have HTK := Lib.hid htk; clear htk
    have HHT := Lib.hid hht; clear hht
    go_wp2_with fail
    refine (iTilingOk_any _ _ _ _ _ xs _ _ _ X _ HM.out (by omega) HX.out (by omega) A4.out X4.out).mono ?_; rintro e w5 ⟨rfl, hb5⟩
    rw [HTK.out]
    have b5 := below_seq b4 hb5
    have pr5 := heap_later pr4 hb5
    have A5 := Lib.hid (A4.out.below hb5)
    have I5 := Lib.hid (I4.out.below hb5)
    have X5 := Lib.hid (X4.out.below hb5)
    clear cr40 cr41 cr42 lr4
    obtain ⟨cr50, cr51, cr52⟩ := cells3 pr5
    have lr5 := heap_lt pr5
    go_wp2_with fail
    refine (iHeightsOf_ret _ _ _ _ _ xs _ _ _ X L _ HM.out (by omega) HX.out (by omega) A5.out X5.out HHT.out).mono ?_; rintro e w6 ⟨a6, cap6, rfl, ho6, hb6⟩
    rw [← HQ.out] at ho6 ⊢
    have b6 := below_seq b5 hb6
    have pr6 := heap_later pr5 hb6
    have A6 := Lib.hid (A5.out.below hb6)
    have I6 := Lib.hid (I5.out.below hb6)
    have X6 := Lib.hid (X5.out.below hb6)
    have Y6 := Lib.hid (OwnsI.at ho6)
    clear cr50 cr51 cr52 lr5
    obtain ⟨cr60, cr61, cr62⟩ := cells3 pr6
    have lr6 := heap_lt pr6
    clear ho6
    go_wp2_with fail
    refine (sameInts_same _ _ _ _ _ L _ HQ.out (by omega) Y6.out I6.out).mono ?_; rintro e w7 ⟨rfl, hb7⟩
    have b7 := below_seq b6 hb7
    have pr7 := heap_later pr6 hb7
    have A7 := Lib.hid (A6.out.below hb7)
    have I7 := Lib.hid (I6.out.below hb7)
    have X7 := Lib.hid (X6.out.below hb7)
    have Y7 := Lib.hid (Y6.out.below hb7)
    clear cr60 cr61 cr62 lr6
    obtain ⟨cr70, cr71, cr72⟩ := cells3 pr7
    have lr7 := heap_lt pr7
    go_wp2_with fail
    refine (alive_any _).mono ?_; rintro e w8 ⟨rfl, hb8⟩
    go_wp2
    go_ret
    exact ⟨rfl, below_seq b7 hb8⟩

end Go.Proofs.Ytknigcjpgkolgaa
