/- The law FnHeightsLow: its walk. -/
import Derived.Test.YtknigcjpgkolgaaKProm
import Derived.Test.YtknigcjpgkolgaaKDrawH
import Derived.Test.YtknigcjpgkolgaaKLatMv4
import Derived.Test.YtknigcjpgkolgaaKHlowS
import Derived.Test.YtknigcjpgkolgaaKHlowSv1
namespace Go.Proofs.Ytknigcjpgkolgaa
open Go.RowKit
set_option linter.unusedVariables false
set_option maxRecDepth 100000
set_option linter.unusedSimpArgs false

set_option maxHeartbeats 4000000 in
theorem drawHeightsLow_any (cb : Option Addr) (n cap : Nat) (zs : List Int) (w : World) (hn : n = zs.length) (hn' : n ≤ 1048576) (hcap : n ≤ cap) (hb : BytesAt w cb zs) :
    Calls Try.prog 28 #[.slice cb n cap] w (DrawnRLL w) := by
  have HN := Lib.hid hn; clear hn
  have HB := Lib.hid hb; clear hb
  go_enter Try.func28, Try.ntmps28
  go_wp2_with fail
  refine (l20Open_any _ _ _ zs _ HN.out hn' hcap (HB.out.below (below1 _ _))).mono ?_; rintro e w1 ⟨rfl, r1, b1⟩
  have q1 := heap_later (heap_new w (.cells #[.int .i64 0, .int .i64 0, .slice none 0 0] 25)) b1
  have B1 := Lib.hid (below_seq (below1 w _) b1)
  have R1 : Hid (RD w1 (w.heap.size + 1) 0) := by show RD _ _ _; simpa using r1
  have l1 := heap_lt q1
  have l2 := R1.out.lt
  clear r1 b1
  go_wp2_with fail
  refine (l20Heights_any (w.heap.size + 1) 0 _ (by omega) R1.out).mono ?_; rintro e w2 ⟨W, T, a, m, c, xs, la, q, lcap, L, lb, r, bcap, M, rfl, hm, h36, hs, o2, hq, hq36, i2, hr, hr36, j2, r2, g2⟩
  have q2 := heap_grown q1 g2 (by simp)
  have B2 := Lib.hid (below_grown B1.out g2 (Nat.le_refl _) (fun k e => by cases e; omega))
  have HM := Lib.hid hm; clear hm
  have HQ := Lib.hid hq; clear hq
  have HR := Lib.hid hr; clear hr
  have O2 := Lib.hid o2; clear o2
  have I2 := Lib.hid i2; clear i2
  have J2 := Lib.hid j2; clear j2
  clear r2 g2
  obtain ⟨d0, d1, d2⟩ := cells3 q2
  have f0 := free3 q2 0
  have f1 := free3 q2 1
  have f2 := free3 q2 2
  go_wp2
  refine bodyPost_ret (v := .tuple #[.agg #[.int .i64 W, .int .i64 T, .slice a m c], .slice la q lcap, .slice lb r bcap]) (by simp [results, Try.results28, go_sem, d0, d1, d2]) rfl ⟨W, T, a, m, c, xs, la, q, lcap, L, lb, r, bcap, M, rfl, HM.out, h36, hs, (O2.out.set3 (by omega) _ _ _).lower (by omega), HQ.out, by omega, (own_set3 I2.out (by omega) _ _ _).lower (by omega), HR.out, by omega, (own_set3 J2.out (by omega) _ _ _).lower (by omega), below_set3 B2.out (Nat.le_refl _) _ _ _⟩

end Go.Proofs.Ytknigcjpgkolgaa

namespace Go.Proofs.Ytknigcjpgkolgaa
open Go.RowKit
set_option linter.unusedVariables false
set_option maxRecDepth 100000
set_option linter.unusedSimpArgs false

theorem pick_sum (x y : Int) : pickI false x y + pickI true x y = x + y := by
  unfold pickI
  simp only [Bool.false_eq_true, if_false, if_true]
  split <;> split <;> omega
theorem low_sum {W T : Int} {xs : List Bool} {A B : List Int} (h : 0 < (bothF false W T xs A B).length) : hokB W T xs (bothF false W T xs A B) = true ∧ (bothF false W T xs A B).length = (bothF true W T xs A B).length ∧ A.length = (bothF false W T xs A B).length ∧ B.length = (bothF false W T xs A B).length ∧
    ∀ k, k < (bothF false W T xs A B).length → (bothF false W T xs A B).getD k 0 + (bothF true W T xs A B).getD k 0 = A.getD k 0 + B.getD k 0 ∧ (-1000 ≤ (bothF false W T xs A B).getD k 0 + (bothF true W T xs A B).getD k 0 ∧ (bothF false W T xs A B).getD k 0 + (bothF true W T xs A B).getD k 0 ≤ 1000) := by
  obtain ⟨h1, hA, hB, e⟩ := bothF_ok false h
  have e2 : bothF true W T xs A B = bothL true A B A.length := by unfold bothF; rw [hA, hB]; rfl
  rw [e] at h1 ⊢
  rw [e2]
  simp only [bothL_len]
  have hl := hok_length hA hB
  refine ⟨h1, trivial, trivial, hl.symm, fun k hk => ?_⟩
  rw [both_get false A B hk, both_get true A B hk, pick_sum]
  have a := hok_entry hA hk
  have b := hok_entry hB (k := k) (by omega)
  exact ⟨rfl, by omega, by omega⟩
end Go.Proofs.Ytknigcjpgkolgaa

namespace Go.Proofs.Ytknigcjpgkolgaa
open Go.RowKit
set_option linter.unusedVariables false
set_option maxRecDepth 100000
set_option linter.unusedSimpArgs false

set_option maxHeartbeats 4000000 in
theorem promHeightsLow_walk (cb : Option Addr) (n cap : Nat) (zs : List Int) (w : World) (hn : n = zs.length) (hn' : n ≤ maxLen) (hcap : n ≤ cap) (hb : BytesAt w cb zs) :
    Calls Try.prog 6 #[.slice cb n cap] w fun e w' => e = .returned (.bool true) ∧ Below w.heap.size w w' := by
  have HN := Lib.hid hn; clear hn
  have HB := Lib.hid hb; clear hb
  by_cases hbig : 1048576 < n
  · unfold maxLen at hn'
    go_enter Try.func6, Try.ntmps6
    go_wp2
    go_ret
    exact ⟨rfl, Below.refl _ _⟩
  have hsm : n ≤ 1048576 := by omega
  clear hbig hn'
  go_enter Try.func6, Try.ntmps6
  go_wp2_with fail
  refine (drawHeightsLow_any _ _ _ zs _ HN.out hsm hcap HB.out).mono ?_; rintro e w1 ⟨W0, T0, a, m, c, xs, la, q, lcap, L, lb, r, bcap, M, rfl, hm, h36, hs, ho, hq, hq49, hi, hr, hr49, hj, b1⟩
  have HM := Lib.hid hm; clear hm
  have HQ := Lib.hid hq; clear hq
  have HR := Lib.hid hr; clear hr
  have A1 := Lib.hid (OwnsB.at ho); clear ho
  have I1 := Lib.hid (OwnsI.at hi); clear hi
  have J1 := Lib.hid (OwnsI.at hj); clear hj
  obtain ⟨s0, s1, s2, s3⟩ := hs
  obtain ⟨X, hX⟩ : ∃ X, bothF false W0 T0 xs L M = X := ⟨_, rfl⟩
  obtain ⟨x, hx⟩ : ∃ x, x = X.length := ⟨_, rfl⟩
  have hxb : x ≤ 49 := by have := bothF_len false W0 T0 xs L M; rw [hX, ← hx, ← HQ.out] at this; omega
  obtain ⟨Y, hY⟩ : ∃ Y, bothF true W0 T0 xs L M = Y := ⟨_, rfl⟩
  obtain ⟨y, hy⟩ : ∃ y, y = Y.length := ⟨_, rfl⟩
  have hyb : y ≤ 49 := by have := bothF_len true W0 T0 xs L M; rw [hY, ← hy, ← HQ.out] at this; omega
  have HOK : Hid (0 < x → hokB W0 T0 xs X = true ∧ x = y ∧ q = x ∧ r = x ∧ ∀ k, k < x → X.getD k 0 + Y.getD k 0 = L.getD k 0 + M.getD k 0 ∧ (-1000 ≤ X.getD k 0 + Y.getD k 0 ∧ X.getD k 0 + Y.getD k 0 ≤ 1000)) := fun h => by
    have := low_sum (W := W0) (T := T0) (xs := xs) (A := L) (B := M) (by rw [hX, ← hx]; exact h)
    rw [hX, hY, ← hx, ← hy, ← HQ.out, ← HR.out] at this; exact this
  have HX := Lib.hid hx; clear hx
  have HXX := Lib.hid hX; clear hX
  have HY := Lib.hid hy; clear hy
  have HYY := Lib.hid hY; clear hY
  go_wp2_with fail
  refine (iHeightsLow_ret _ _ _ _ _ xs _ _ _ L _ _ _ M _ HM.out (by omega) HQ.out (by omega) HR.out (by omega) (A1.out.one _) (I1.out.one _) (J1.out.one _)).mono ?_; rintro e w2 ⟨a2, cap2, rfl, ho2, hb2⟩
  rw [HXX.out, ← HX.out] at ho2 ⊢
  have b2 := below_seq (below_seq b1 (below1 _ _)) hb2
  have pr2 := heap_later (heap_new w1 (.cells #[.int .i64 W0, .int .i64 T0, .slice a m c] 25)) hb2
  have A2 := Lib.hid ((A1.out.one (.cells #[.int .i64 W0, .int .i64 T0, .slice a m c] 25)).below hb2)
  have I2 := Lib.hid ((I1.out.one (.cells #[.int .i64 W0, .int .i64 T0, .slice a m c] 25)).below hb2)
  have J2 := Lib.hid ((J1.out.one (.cells #[.int .i64 W0, .int .i64 T0, .slice a m c] 25)).below hb2)
  have X2 := Lib.hid (OwnsI.at ho2)
  obtain ⟨cr20, cr21, cr22⟩ := cells3 pr2
  have lr2 := heap_lt pr2
  clear ho2
  go_wp2_with fail
  refine (sHeightsLow_ret _ _ _ _ _ xs _ _ _ L _ _ _ M _ HM.out (by omega) HQ.out (by omega) HR.out (by omega) A2.out I2.out J2.out).mono ?_; rintro e w3 ⟨a3, cap3, rfl, ho3, hb3⟩
  rw [HXX.out, ← HX.out] at ho3 ⊢
  have b3 := below_seq b2 hb3
  have pr3 := heap_later pr2 hb3
  have A3 := Lib.hid (A2.out.below hb3)
  have I3 := Lib.hid (I2.out.below hb3)
  have J3 := Lib.hid (J2.out.below hb3)
  have X3 := Lib.hid (X2.out.below hb3)
  have Y3 := Lib.hid (OwnsI.at ho3)
  clear cr20 cr21 cr22 lr2
  obtain ⟨cr30, cr31, cr32⟩ := cells3 pr3
  have lr3 := heap_lt pr3
  clear ho3
  go_wp2_with fail
  refine (sameInts_same _ _ _ _ _ X _ HX.out (by omega) X3.out Y3.out).mono ?_; rintro e w4 ⟨rfl, hb4⟩
  have b4 := below_seq b3 hb4
  have pr4 := heap_later pr3 hb4
  have A4 := Lib.hid (A3.out.below hb4)
  have I4 := Lib.hid (I3.out.below hb4)
  have J4 := Lib.hid (J3.out.below hb4)
  have X4 := Lib.hid (X3.out.below hb4)
  have Y4 := Lib.hid (Y3.out.below hb4)
  clear cr30 cr31 cr32 lr3
  obtain ⟨cr40, cr41, cr42⟩ := cells3 pr4
  have lr4 := heap_lt pr4
  by_cases hx0 : x = 0
  · subst hx0
    clear HOK
    go_wp2_with fail
    refine (alive_any _).mono ?_; rintro e w5 ⟨rfl, hb5⟩
    go_wp2
    go_ret
    exact ⟨rfl, below_seq b4 hb5⟩
  · have hx1 : ((x : Int) == 0) = false := by simp; omega
    obtain ⟨hok, hxy, hqx, hrx, hsum⟩ := HOK.out (by omega)
    have HO := Lib.hid hok; clear hok HOK
    have HS := Lib.hid hsum; clear hsum
    obtain rfl := hqx
    obtain rfl := hrx
    obtain rfl := hxy
    go_wp2_with fail
    refine (iHeightsHigh_ret _ _ _ _ _ xs _ _ _ L _ _ _ M _ HM.out (by omega) HQ.out (by omega) HR.out (by omega) A4.out I4.out J4.out).mono ?_; rintro e w5 ⟨a5, cap5, rfl, ho5, hb5⟩
    rw [HYY.out, ← HY.out] at ho5 ⊢
    have b5 := below_seq b4 hb5
    have pr5 := heap_later pr4 hb5
    have A5 := Lib.hid (A4.out.below hb5)
    have I5 := Lib.hid (I4.out.below hb5)
    have J5 := Lib.hid (J4.out.below hb5)
    have X5 := Lib.hid (X4.out.below hb5)
    have Y5 := Lib.hid (OwnsI.at ho5)
    clear cr40 cr41 cr42 lr4
    obtain ⟨cr50, cr51, cr52⟩ := cells3 pr5
    have lr5 := heap_lt pr5
    clear ho5
    have hqq : ((r : Int) != r) = false := by simp
    go_wp2
    go_loopw [8] (fun i wr => ∃ k : Nat, k ≤ r ∧ i = .int .i64 k ∧ ∃ qq, wr = w5.drewN qq) (fun i _ => r - (intOf i).toNat)
    case atStart => exact ⟨0, Nat.zero_le _, rfl, 0, rfl⟩
    case round =>
      obtain ⟨k, hk, rfl, qq, rfl⟩ := hrel
      by_cases hlt : k < r
      · have e1 : (k : Int) < r := by omega
        have e0 : (0 : Int) ≤ k := by omega
        obtain ⟨hs1, hs2, hs3⟩ := HS.out k hlt
        obtain ⟨g1, o1, rfl, hc1⟩ := X5.out k (by rw [← HX.out]; exact hlt)
        obtain ⟨g2, o2, rfl, hc2⟩ := Y5.out k (by rw [← HY.out]; exact hlt)
        obtain ⟨g3, o3, rfl, hc3⟩ := I5.out k (by rw [← HQ.out]; exact hlt)
        obtain ⟨g4, o4, rfl, hc4⟩ := J5.out k (by rw [← HR.out]; exact hlt)
        have hw1 : IntKind.i64.wrap (X.getD k 0 + Y.getD k 0) = X.getD k 0 + Y.getD k 0 := IntWalk.i64_in _ (by omega)
        have hw2 : IntKind.i64.wrap (L.getD k 0 + M.getD k 0) = X.getD k 0 + Y.getD k 0 := by rw [← hs1]; exact hw1
        generalize X.getD k 0 = xv at *
        generalize Y.getD k 0 = yv at *
        generalize L.getD k 0 = lv at *
        generalize M.getD k 0 = mv at *
        obtain ⟨sv, hsv⟩ : ∃ sv, xv + yv = sv := ⟨_, rfl⟩
        rw [hsv] at hw1 hw2
        have HW1 : IntKind.i64.wrap (xv + yv) = sv := by rw [hsv]; exact hw1
        clear hs1 hs2 hs3 hw1 hsv
        go_wp2
        go_quiet (fail)
        go_wp2
        go_roundw
        case rel => exact ⟨k + 1, by omega, by go_num, _, rfl⟩
        case measure => simp [intOf]; omega
      · obtain rfl : k = r := by omega
        go_wp2_with fail
        refine (iHeightsOk_any _ _ _ _ _ xs _ _ _ X _ HM.out (by omega) HX.out (by omega) (A5.out.below (drewN_below _ _)) (X5.out.below (drewN_below _ _))).mono ?_; rintro e w7 ⟨rfl, hb7⟩
        rw [HO.out]
        go_wp2
        go_ret
        exact ⟨rfl, below_seq (below_seq b5 (drewN_below _ _)) hb7⟩

end Go.Proofs.Ytknigcjpgkolgaa
