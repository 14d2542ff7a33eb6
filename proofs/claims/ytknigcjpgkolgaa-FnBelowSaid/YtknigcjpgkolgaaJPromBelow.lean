/- The law FnBelow: its walk. -/
import Derived.Test.YtknigcjpgkolgaaJSame
namespace Go.Proofs.Ytknigcjpgkolgaa
open Go.RowKit
set_option linter.unusedVariables false
set_option maxRecDepth 100000
set_option linter.unusedSimpArgs false

set_option maxHeartbeats 8000000 in
theorem promBelow_walk (cb : Option Addr) (n cap : Nat) (zs : List Int) (w : World) (hn : n = zs.length) (hn' : n ≤ maxLen) (hcap : n ≤ cap) (hb : BytesAt w cb zs) :
    Calls Try.prog 10 #[.slice cb n cap] w fun e w' => e = .returned (.bool true) ∧ Below w.heap.size w w' := by
  have HN := Lib.hid hn; clear hn
  have HB := Lib.hid hb; clear hb
  by_cases hbig : 1048576 < n
  · unfold maxLen at hn'
    go_enter Try.func10, Try.ntmps10
    go_wp2
    go_ret
    exact ⟨rfl, Below.refl _ _⟩
  have hsm : n ≤ 1048576 := by omega
  clear hbig hn'
  go_enter Try.func10, Try.ntmps10
  go_wp2_with fail
  refine (drawBelow_any _ _ _ zs _ HN.out hsm hcap HB.out).mono ?_; rintro e w1 ⟨W0, T0, a, m, c, xs, la, q, lcap, L, lb, r, bcap, M, rfl, hm, h36, hs, ho, hq, hq49, hi, hr, hr49, hj, b1⟩
  have HM := Lib.hid hm; clear hm
  have HQ := Lib.hid hq; clear hq
  have HR := Lib.hid hr; clear hr
  have A1 := Lib.hid (OwnsB.at ho); clear ho
  have I1 := Lib.hid (OwnsI.at hi); clear hi
  have J1 := Lib.hid (OwnsI.at hj); clear hj
  obtain ⟨s0, s1, s2, s3⟩ := hs
  obtain ⟨HA0, hA0⟩ := htsR_exist W0 T0 xs L
  obtain ⟨HB0, hB0⟩ := htsR_exist W0 T0 xs M
  have hall := below_all hA0 hB0
  have hxl := tlowF_len false W0 T0 xs HA0 HB0
  obtain ⟨R, hR⟩ : ∃ R, tlowF false W0 T0 xs HA0 HB0 = R := ⟨_, rfl⟩
  obtain ⟨ok, hok⟩ : ∃ ok, belowB HA0 HB0 = ok := ⟨_, rfl⟩
  obtain ⟨ok2, hok2⟩ : ∃ ok2, belowB HB0 HA0 = ok2 := ⟨_, rfl⟩
  rw [hR, hok, hok2] at hall
  rw [hR] at hxl
  obtain ⟨X, can⟩ := R
  simp only at hall hxl
  obtain ⟨x, hx⟩ : ∃ x, x = X.length := ⟨_, rfl⟩
  rw [← hx, ← HM.out] at hxl
  rw [← hx, ← HQ.out, ← HR.out, ← HM.out] at hall
  have HA := Lib.hid hA0; clear hA0
  have HBH := Lib.hid hB0; clear hB0
  have HRR := Lib.hid hR; clear hR
  have HX := Lib.hid hx; clear hx
  have HOK := Lib.hid hok; clear hok
  have HOK2 := Lib.hid hok2; clear hok2
  have HALL := Lib.hid hall; clear hall
  have hbb : (ok != ok) = false := by simp
  go_wp2_with fail
  refine (iBelow_ret _ _ _ _ _ xs _ _ _ L _ _ _ M HA0 HB0 _ HM.out (by omega) HQ.out (by omega) HR.out (by omega) (A1.out.one _) (I1.out.one _) (J1.out.one _) HA.out HBH.out).mono ?_; rintro e w2 ⟨rfl, hb2⟩
  rw [HOK.out]
  have b2 := below_seq (below_seq b1 (below1 _ _)) hb2
  have pr2 := heap_later (heap_new w1 (.cells #[.int .i64 W0, .int .i64 T0, .slice a m c] 25)) hb2
  have A2 := Lib.hid ((A1.out.one (.cells #[.int .i64 W0, .int .i64 T0, .slice a m c] 25)).below hb2)
  have I2 := Lib.hid ((I1.out.one (.cells #[.int .i64 W0, .int .i64 T0, .slice a m c] 25)).below hb2)
  have J2 := Lib.hid ((J1.out.one (.cells #[.int .i64 W0, .int .i64 T0, .slice a m c] 25)).below hb2)
  obtain ⟨cr20, cr21, cr22⟩ := cells3 pr2
  have lr2 := heap_lt pr2
  go_wp2_with fail
  refine (sBelow_ret _ _ _ _ _ xs _ _ _ L _ _ _ M HA0 HB0 _ HM.out (by omega) HQ.out (by omega) HR.out (by omega) A2.out I2.out J2.out HA.out HBH.out).mono ?_; rintro e w3 ⟨rfl, hb3⟩
  rw [HOK.out]
  have b3 := below_seq b2 hb3
  have pr3 := heap_later pr2 hb3
  have A3 := Lib.hid (A2.out.below hb3)
  have I3 := Lib.hid (I2.out.below hb3)
  have J3 := Lib.hid (J2.out.below hb3)
  clear cr20 cr21 cr22 lr2
  obtain ⟨cr30, cr31, cr32⟩ := cells3 pr3
  have lr3 := heap_lt pr3
  go_wp2_with fail
  refine (iTilingLow_ret _ _ _ _ _ xs _ _ _ L _ _ _ M HA0 HB0 _ HM.out (by omega) HQ.out (by omega) HR.out (by omega) A3.out I3.out J3.out HA.out HBH.out).mono ?_; rintro e w4 ⟨a4, cap4, rfl, ho4, hb4⟩
  rw [HRR.out] at ho4 ⊢
  simp only at ho4 ⊢
  rw [← HX.out] at ho4 ⊢
  have b4 := below_seq b3 hb4
  have pr4 := heap_later pr3 hb4
  have A4 := Lib.hid (A3.out.below hb4)
  have I4 := Lib.hid (I3.out.below hb4)
  have J4 := Lib.hid (J3.out.below hb4)
  have X4 := Lib.hid (OwnsI.at ho4)
  clear cr30 cr31 cr32 lr3
  obtain ⟨cr40, cr41, cr42⟩ := cells3 pr4
  have lr4 := heap_lt pr4
  clear ho4
  rcases HALL.out with ⟨rfl, rfl⟩ | ⟨rfl, hqm, hrm, hxm, himp, hdec⟩
  · clear HALL
    go_wp2_with fail
    refine (alive_any _).mono ?_; rintro e w5 ⟨rfl, hb5⟩
    go_wp2
    go_ret
    exact ⟨rfl, below_seq b4 hb5⟩
  · have HIMP := Lib.hid himp; clear himp
    have HDEC := Lib.hid hdec; clear hdec HALL
    have HQX : Hid (x = L.length) := by show _ = _; rw [hxm, ← hqm]; exact HQ.out
    have HQR : Hid (q = M.length) := by show _ = _; rw [hqm, ← hrm]; exact HR.out
    obtain rfl : x = q := by omega
    obtain rfl : r = x := by omega
    clear hqm hrm hxm
    cases ok
    · clear HIMP
      go_wp2_with fail
      refine (sameInts_any _ _ _ _ _ X L _ HX.out HQX.out (by omega) X4.out I4.out).mono ?_; rintro e w5 ⟨rfl, hb5⟩
      rw [HDEC.out]
      have b5 := below_seq b4 hb5
      have pr5 := heap_later pr4 hb5
      have A5 := Lib.hid (A4.out.below hb5)
      have I5 := Lib.hid (I4.out.below hb5)
      have J5 := Lib.hid (J4.out.below hb5)
      have X5 := Lib.hid (X4.out.below hb5)
      clear cr40 cr41 cr42 lr4
      obtain ⟨cr50, cr51, cr52⟩ := cells3 pr5
      have lr5 := heap_lt pr5
      go_wp2_with fail
      refine (alive_any _).mono ?_; rintro e w6 ⟨rfl, hb6⟩
      go_wp2
      go_ret
      exact ⟨rfl, below_seq b5 hb6⟩
    · skip
      go_wp2_with fail
      refine (iBelow_ret _ _ _ _ _ xs _ _ _ M _ _ _ L HB0 HA0 _ HM.out (by omega) HR.out (by omega) HQ.out (by omega) A4.out J4.out I4.out HBH.out HA.out).mono ?_; rintro e w5 ⟨rfl, hb5⟩
      rw [HOK2.out]
      have b5 := below_seq b4 hb5
      have pr5 := heap_later pr4 hb5
      have A5 := Lib.hid (A4.out.below hb5)
      have I5 := Lib.hid (I4.out.below hb5)
      have J5 := Lib.hid (J4.out.below hb5)
      have X5 := Lib.hid (X4.out.below hb5)
      clear cr40 cr41 cr42 lr4
      obtain ⟨cr50, cr51, cr52⟩ := cells3 pr5
      have lr5 := heap_lt pr5
      cases ok2
      · clear HIMP
        go_wp2_with fail
        refine (sameInts_any _ _ _ _ _ X L _ HX.out HQX.out (by omega) X5.out I5.out).mono ?_; rintro e w6 ⟨rfl, hb6⟩
        rw [HDEC.out]
        have b6 := below_seq b5 hb6
        have pr6 := heap_later pr5 hb6
        have A6 := Lib.hid (A5.out.below hb6)
        have I6 := Lib.hid (I5.out.below hb6)
        have J6 := Lib.hid (J5.out.below hb6)
        have X6 := Lib.hid (X5.out.below hb6)
        clear cr50 cr51 cr52 lr5
        obtain ⟨cr60, cr61, cr62⟩ := cells3 pr6
        have lr6 := heap_lt pr6
        go_wp2_with fail
        refine (alive_any _).mono ?_; rintro e w7 ⟨rfl, hb7⟩
        go_wp2
        go_ret
        exact ⟨rfl, below_seq b6 hb7⟩
      · have hlm := HIMP.out (by trivial) (by trivial)
        have HD2 : Hid (decide (L = M) = true) := decide_eq_true hlm
        clear hlm HIMP
        go_wp2_with fail
        refine (sameInts_any _ _ _ _ _ L M _ HQ.out HQR.out (by omega) I5.out J5.out).mono ?_; rintro e w6 ⟨rfl, hb6⟩
        rw [HD2.out]
        have b6 := below_seq b5 hb6
        have pr6 := heap_later pr5 hb6
        have A6 := Lib.hid (A5.out.below hb6)
        have I6 := Lib.hid (I5.out.below hb6)
        have J6 := Lib.hid (J5.out.below hb6)
        have X6 := Lib.hid (X5.out.below hb6)
        clear cr50 cr51 cr52 lr5
        obtain ⟨cr60, cr61, cr62⟩ := cells3 pr6
        have lr6 := heap_lt pr6
        go_wp2_with fail
        refine (sameInts_any _ _ _ _ _ X L _ HX.out HQX.out (by omega) X6.out I6.out).mono ?_; rintro e w7 ⟨rfl, hb7⟩
        rw [HDEC.out]
        have b7 := below_seq b6 hb7
        have pr7 := heap_later pr6 hb7
        have A7 := Lib.hid (A6.out.below hb7)
        have I7 := Lib.hid (I6.out.below hb7)
        have J7 := Lib.hid (J6.out.below hb7)
        have X7 := Lib.hid (X6.out.below hb7)
        clear cr60 cr61 cr62 lr6
        obtain ⟨cr70, cr71, cr72⟩ := cells3 pr7
        have lr7 := heap_lt pr7
        go_wp2_with fail
        refine (alive_any _).mono ?_; rintro e w8 ⟨rfl, hb8⟩
        go_wp2
        go_ret
        exact ⟨rfl, below_seq b7 hb8⟩

end Go.Proofs.Ytknigcjpgkolgaa
