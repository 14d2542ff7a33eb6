/- The law FnHeightsHigh: its walk. -/
import Derived.Test.YtknigcjpgkolgaaKProm
import Derived.Test.YtknigcjpgkolgaaKDrawH
import Derived.Test.YtknigcjpgkolgaaKLatMv5
namespace Go.Proofs.Ytknigcjpgkolgaa
open Go.RowKit
set_option linter.unusedVariables false
set_option maxRecDepth 100000
set_option linter.unusedSimpArgs false

set_option maxHeartbeats 4000000 in
theorem drawHeightsHigh_any (cb : Option Addr) (n cap : Nat) (zs : List Int) (w : World) (hn : n = zs.length) (hn' : n ≤ 1048576) (hcap : n ≤ cap) (hb : BytesAt w cb zs) :
    Calls Try.prog 32 #[.slice cb n cap] w (DrawnRLL w) := by
  have HN := Lib.hid hn; clear hn
  have HB := Lib.hid hb; clear hb
  go_enter Try.func32, Try.ntmps32
  go_wp2_with fail
  refine (l20Open_any _ _ _ zs _ HN.out hn' hcap (HB.out.below (below1 _ _))).mono ?_; rintro e w1 ⟨rfl, r1, b1⟩
  have q1 := heap_later (heap_new w (.cells #[.int .i64 0, .int .i64 0, .slice none 0 0] 25)) b1
  have B1 := Lib.hid (below_seq (below1 w _) b1)
  have R1 : Hid (RD w1 (w.heap.size + 1) 0) := by show RD _ _ _; simpa using r1
  have l1 := heap_lt q1
  have l2 := R1.out.lt
  clear r1 b1
  go_wp2_with fail
  refine (l20Heights_any (w.heap.size + 1) 0 _ (by omega) R1.out).mono ?_; rintro e w2 ⟨W, T, a, m, c, xs, la, q, lcap, L, lb, r, bcap, M, rfl, hm, h36, hs, o2, hq, hq36, i2, hr, hr36, j2, r2, g2⟩
  have q2 := heap_grown q1 g2 (by simp)
  have B2 := Lib.hid (below_grown B1.out g2 (Nat.le_refl _) (fun k e => by cases e; omega))
  have HM := Lib.hid hm; clear hm
  have HQ := Lib.hid hq; clear hq
  have HR := Lib.hid hr; clear hr
  have O2 := Lib.hid o2; clear o2
  have I2 := Lib.hid i2; clear i2
  have J2 := Lib.hid j2; clear j2
  clear r2 g2
  obtain ⟨d0, d1, d2⟩ := cells3 q2
  have f0 := free3 q2 0
  have f1 := free3 q2 1
  have f2 := free3 q2 2
  go_wp2
  refine bodyPost_ret (v := .tuple #[.agg #[.int .i64 W, .int .i64 T, .slice a m c], .slice la q lcap, .slice lb r bcap]) (by simp [results, Try.results32, go_sem, d0, d1, d2]) rfl ⟨W, T, a, m, c, xs, la, q, lcap, L, lb, r, bcap, M, rfl, HM.out, h36, hs, (O2.out.set3 (by omega) _ _ _).lower (by omega), HQ.out, by omega, (own_set3 I2.out (by omega) _ _ _).lower (by omega), HR.out, by omega, (own_set3 J2.out (by omega) _ _ _).lower (by omega), below_set3 B2.out (Nat.le_refl _) _ _ _⟩

end Go.Proofs.Ytknigcjpgkolgaa

namespace Go.Proofs.Ytknigcjpgkolgaa
open Go.RowKit
set_option linter.unusedVariables false
set_option maxRecDepth 100000
set_option linter.unusedSimpArgs false

set_option maxHeartbeats 4000000 in
theorem promHeightsHigh_walk (cb : Option Addr) (n cap : Nat) (zs : List Int) (w : World) (hn : n = zs.length) (hn' : n ≤ maxLen) (hcap : n ≤ cap) (hb : BytesAt w cb zs) :
    Calls Try.prog 7 #[.slice cb n cap] w fun e w' => e = .returned (.bool true) ∧ Below w.heap.size w w' := by
  have HN := Lib.hid hn; clear hn
  have HB := Lib.hid hb; clear hb
  by_cases hbig : 1048576 < n
  · unfold maxLen at hn'
    go_enter Try.func7, Try.ntmps7
    go_wp2
    go_ret
    exact ⟨rfl, Below.refl _ _⟩
  have hsm : n ≤ 1048576 := by omega
  clear hbig hn'
  go_enter Try.func7, Try.ntmps7
  go_wp2_with fail
  refine (drawHeightsHigh_any _ _ _ zs _ HN.out hsm hcap HB.out).mono ?_; rintro e w1 ⟨W0, T0, a, m, c, xs, la, q, lcap, L, lb, r, bcap, M, rfl, hm, h36, hs, ho, hq, hq49, hi, hr, hr49, hj, b1⟩
  have HM := Lib.hid hm; clear hm
  have HQ := Lib.hid hq; clear hq
  have HR := Lib.hid hr; clear hr
  have A1 := Lib.hid (OwnsB.at ho); clear ho
  have I1 := Lib.hid (OwnsI.at hi); clear hi
  have J1 := Lib.hid (OwnsI.at hj); clear hj
  obtain ⟨s0, s1, s2, s3⟩ := hs
  obtain ⟨X, hX⟩ : ∃ X, bothF true W0 T0 xs L M = X := ⟨_, rfl⟩
  obtain ⟨x, hx⟩ : ∃ x, x = X.length := ⟨_, rfl⟩
  have hxb : x ≤ 49 := by have := bothF_len true W0 T0 xs L M; rw [hX, ← hx, ← HQ.out] at this; omega
  have HSW : Hid (bothF true W0 T0 xs M L = X) := (both_comm true).symm.trans hX
  have HOK : Hid (0 < x → hokB W0 T0 xs X = true) := fun h => by rw [← hX]; exact (bothF_ok true (by rw [hX, ← hx]; exact h)).1
  have HX := Lib.hid hx; clear hx
  have HXX := Lib.hid hX; clear hX
  go_wp2_with fail
  refine (iHeightsHigh_ret _ _ _ _ _ xs _ _ _ L _ _ _ M _ HM.out (by omega) HQ.out (by omega) HR.out (by omega) (A1.out.one _) (I1.out.one _) (J1.out.one _)).mono ?_; rintro e w2 ⟨a2, cap2, rfl, ho2, hb2⟩
  rw [HXX.out, ← HX.out] at ho2 ⊢
  have b2 := below_seq (below_seq b1 (below1 _ _)) hb2
  have pr2 := heap_later (heap_new w1 (.cells #[.int .i64 W0, .int .i64 T0, .slice a m c] 25)) hb2
  have A2 := Lib.hid ((A1.out.one (.cells #[.int .i64 W0, .int .i64 T0, .slice a m c] 25)).below hb2)
  have I2 := Lib.hid ((I1.out.one (.cells #[.int .i64 W0, .int .i64 T0, .slice a m c] 25)).below hb2)
  have J2 := Lib.hid ((J1.out.one (.cells #[.int .i64 W0, .int .i64 T0, .slice a m c] 25)).below hb2)
  have X2 := Lib.hid (OwnsI.at ho2)
  obtain ⟨cr20, cr21, cr22⟩ := cells3 pr2
  have lr2 := heap_lt pr2
  clear ho2
  go_wp2_with fail
  refine (sHeightsHigh_ret _ _ _ _ _ xs _ _ _ L _ _ _ M _ HM.out (by omega) HQ.out (by omega) HR.out (by omega) A2.out I2.out J2.out).mono ?_; rintro e w3 ⟨a3, cap3, rfl, ho3, hb3⟩
  rw [HXX.out, ← HX.out] at ho3 ⊢
  have b3 := below_seq b2 hb3
  have pr3 := heap_later pr2 hb3
  have A3 := Lib.hid (A2.out.below hb3)
  have I3 := Lib.hid (I2.out.below hb3)
  have J3 := Lib.hid (J2.out.below hb3)
  have X3 := Lib.hid (X2.out.below hb3)
  have Y3 := Lib.hid (OwnsI.at ho3)
  clear cr20 cr21 cr22 lr2
  obtain ⟨cr30, cr31, cr32⟩ := cells3 pr3
  have lr3 := heap_lt pr3
  clear ho3
  go_wp2_with fail
  refine (sameInts_same _ _ _ _ _ X _ HX.out (by omega) X3.out Y3.out).mono ?_; rintro e w4 ⟨rfl, hb4⟩
  have b4 := below_seq b3 hb4
  have pr4 := heap_later pr3 hb4
  have A4 := Lib.hid (A3.out.below hb4)
  have I4 := Lib.hid (I3.out.below hb4)
  have J4 := Lib.hid (J3.out.below hb4)
  have X4 := Lib.hid (X3.out.below hb4)
  have Y4 := Lib.hid (Y3.out.below hb4)
  clear cr30 cr31 cr32 lr3
  obtain ⟨cr40, cr41, cr42⟩ := cells3 pr4
  have lr4 := heap_lt pr4
  by_cases hx0 : x = 0
  · subst hx0
    clear HOK
    go_wp2_with fail
    refine (alive_any _).mono ?_; rintro e w5 ⟨rfl, hb5⟩
    go_wp2
    go_ret
    exact ⟨rfl, below_seq b4 hb5⟩
  · have hx1 : ((x : Int) == 0) = false := by simp; omega
    have hok := HOK.out (by omega)
    have HO := Lib.hid hok; clear hok HOK
    go_wp2_with fail
    refine (iHeightsOk_any _ _ _ _ _ xs _ _ _ X _ HM.out (by omega) HX.out (by omega) A4.out X4.out).mono ?_; rintro e w5 ⟨rfl, hb5⟩
    rw [HO.out]
    have b5 := below_seq b4 hb5
    have pr5 := heap_later pr4 hb5
    have A5 := Lib.hid (A4.out.below hb5)
    have I5 := Lib.hid (I4.out.below hb5)
    have J5 := Lib.hid (J4.out.below hb5)
    have X5 := Lib.hid (X4.out.below hb5)
    clear cr40 cr41 cr42 lr4
    obtain ⟨cr50, cr51, cr52⟩ := cells3 pr5
    have lr5 := heap_lt pr5
    go_wp2_with fail
    refine (iHeightsHigh_ret _ _ _ _ _ xs _ _ _ M _ _ _ L _ HM.out (by omega) HR.out (by omega) HQ.out (by omega) A5.out J5.out I5.out).mono ?_; rintro e w6 ⟨a6, cap6, rfl, ho6, hb6⟩
    rw [HSW.out, ← HX.out] at ho6 ⊢
    have b6 := below_seq b5 hb6
    have pr6 := heap_later pr5 hb6
    have A6 := Lib.hid (A5.out.below hb6)
    have I6 := Lib.hid (I5.out.below hb6)
    have J6 := Lib.hid (J5.out.below hb6)
    have X6 := Lib.hid (X5.out.below hb6)
    have Y6 := Lib.hid (OwnsI.at ho6)
    clear cr50 cr51 cr52 lr5
    obtain ⟨cr60, cr61, cr62⟩ := cells3 pr6
    have lr6 := heap_lt pr6
    clear ho6
    go_wp2_with fail
    refine (sameInts_same _ _ _ _ _ X _ HX.out (by omega) Y6.out X6.out).mono ?_; rintro e w7 ⟨rfl, hb7⟩
    have b7 := below_seq b6 hb7
    have pr7 := heap_later pr6 hb7
    have A7 := Lib.hid (A6.out.below hb7)
    have I7 := Lib.hid (I6.out.below hb7)
    have J7 := Lib.hid (J6.out.below hb7)
    have X7 := Lib.hid (X6.out.below hb7)
    have Y7 := Lib.hid (Y6.out.below hb7)
    clear cr60 cr61 cr62 lr6
    obtain ⟨cr70, cr71, cr72⟩ := cells3 pr7
    have lr7 := heap_lt pr7
    go_wp2
    go_ret
    exact ⟨rfl, b7⟩

end Go.Proofs.Ytknigcjpgkolgaa
