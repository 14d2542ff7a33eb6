/- The law FnTilingLow: its walk. -/
import Derived.Test.YtknigcjpgkolgaaKProm
import Derived.Test.YtknigcjpgkolgaaKTilLow
import Derived.Test.YtknigcjpgkolgaaKLatC
namespace Go.Proofs.Ytknigcjpgkolgaa
open Go.RowKit
set_option linter.unusedVariables false
set_option maxRecDepth 100000
set_option linter.unusedSimpArgs false

set_option maxHeartbeats 4000000 in
theorem promTilingLow_walk (cb : Option Addr) (n cap : Nat) (zs : List Int) (w : World) (hn : n = zs.length) (hn' : n ≤ maxLen) (hcap : n ≤ cap) (hb : BytesAt w cb zs) (cb2 : Option Addr) (n2 cap2' : Nat) (zs2 : List Int) (hn2 : n2 ≤ maxLen) :
    Calls Try.prog 8 #[.slice cb n cap, .slice cb2 n2 cap2'] w fun e w' => e = .returned (.bool true) ∧ Below w.heap.size w w' := by
  have HN := Lib.hid hn; clear hn
  have HB := Lib.hid hb; clear hb
  by_cases hbig : 1048576 < n
  · unfold maxLen at hn'
    go_enter Try.func8, Try.ntmps8
    go_wp2
    go_ret
    exact ⟨rfl, Below.refl _ _⟩
  by_cases hbig2 : 1048576 < n2
  · unfold maxLen at hn' hn2
    go_enter Try.func8, Try.ntmps8
    go_wp2
    go_ret
    exact ⟨rfl, Below.refl _ _⟩
  have hsm : n ≤ 1048576 := by omega
  have hsm2 : n2 ≤ 1048576 := by omega
  clear hbig hbig2 hn' hn2
  go_enter Try.func8, Try.ntmps8
  go_wp2_with fail
  refine (drawTilingLow_any _ _ _ zs _ HN.out hsm hcap HB.out).mono ?_; rintro e w1 ⟨W0, T0, a, m, c, xs, la, q, lcap, L, lb, r, bcap, M, rfl, hm, h36, hs, ho, hq, hq49, hi, hr, hr49, hj, b1⟩
  have HM := Lib.hid hm; clear hm
  have HQ := Lib.hid hq; clear hq
  have HR := Lib.hid hr; clear hr
  have A1 := Lib.hid (OwnsB.at ho); clear ho
  have I1 := Lib.hid (OwnsI.at hi); clear hi
  have J1 := Lib.hid (OwnsI.at hj); clear hj
  obtain ⟨s0, s1, s2, s3⟩ := hs
  obtain ⟨HA0, hA0⟩ := htsR_exist W0 T0 xs L
  obtain ⟨HB0, hB0⟩ := htsR_exist W0 T0 xs M
  have hno := low_not false (W := W0) (T := T0) (xs := xs) (A := HA0) (B := HB0)
  have hyes := low_ok false hA0 hB0
  have hxl := tlowF_len false W0 T0 xs HA0 HB0
  obtain ⟨R, hR⟩ : ∃ R, tlowF false W0 T0 xs HA0 HB0 = R := ⟨_, rfl⟩
  rw [hR] at hno hyes hxl
  obtain ⟨X, ok⟩ := R
  simp only at hno hyes hxl
  obtain ⟨x, hx⟩ : ∃ x, x = X.length := ⟨_, rfl⟩
  rw [← hx, ← HM.out] at hxl
  have HA := Lib.hid hA0; clear hA0
  have HBH := Lib.hid hB0; clear hB0
  have HRR := Lib.hid hR; clear hR
  have HX := Lib.hid hx; clear hx
  have HNO := Lib.hid hno; clear hno
  have HYES := Lib.hid hyes; clear hyes
  have hbb : (ok != ok) = false := by simp
  go_wp2_with fail
  refine (iTilingLow_ret _ _ _ _ _ xs _ _ _ L _ _ _ M HA0 HB0 _ HM.out (by omega) HQ.out (by omega) HR.out (by omega) (A1.out.one _) (I1.out.one _) (J1.out.one _) HA.out HBH.out).mono ?_; rintro e w2 ⟨a2, cap2, rfl, ho2, hb2⟩
  rw [HRR.out] at ho2 ⊢
  simp only at ho2 ⊢
  rw [← HX.out] at ho2 ⊢
  have b2 := below_seq (below_seq b1 (below1 _ _)) hb2
  have pr2 := heap_later (heap_new w1 (.cells #[.int .i64 W0, .int .i64 T0, .slice a m c] 25)) hb2
  have A2 := Lib.hid ((A1.out.one (.cells #[.int .i64 W0, .int .i64 T0, .slice a m c] 25)).below hb2)
  have I2 := Lib.hid ((I1.out.one (.cells #[.int .i64 W0, .int .i64 T0, .slice a m c] 25)).below hb2)
  have J2 := Lib.hid ((J1.out.one (.cells #[.int .i64 W0, .int .i64 T0, .slice a m c] 25)).below hb2)
  have X2 := Lib.hid (OwnsI.at ho2)
  obtain ⟨cr20, cr21, cr22⟩ := cells3 pr2
  have lr2 := heap_lt pr2
  clear ho2
  go_wp2_with fail
  refine (sTilingLow_ret _ _ _ _ _ xs _ _ _ L _ _ _ M HA0 HB0 _ HM.out (by omega) HQ.out (by omega) HR.out (by omega) A2.out I2.out J2.out HA.out HBH.out).mono ?_; rintro e w3 ⟨a3, cap3, rfl, ho3, hb3⟩
  rw [HRR.out] at ho3 ⊢
  simp only at ho3 ⊢
  rw [← HX.out] at ho3 ⊢
  have b3 := below_seq b2 hb3
  have pr3 := heap_later pr2 hb3
  have A3 := Lib.hid (A2.out.below hb3)
  have I3 := Lib.hid (I2.out.below hb3)
  have J3 := Lib.hid (J2.out.below hb3)
  have X3 := Lib.hid (X2.out.below hb3)
  have Y3 := Lib.hid (OwnsI.at ho3)
  clear cr20 cr21 cr22 lr2
  obtain ⟨cr30, cr31, cr32⟩ := cells3 pr3
  have lr3 := heap_lt pr3
  clear ho3
  go_wp2_with fail
  refine (sameInts_same _ _ _ _ _ X _ HX.out (by omega) X3.out Y3.out).mono ?_; rintro e w4 ⟨rfl, hb4⟩
  have b4 := below_seq b3 hb4
  have pr4 := heap_later pr3 hb4
  have A4 := Lib.hid (A3.out.below hb4)
  have I4 := Lib.hid (I3.out.below hb4)
  have J4 := Lib.hid (J3.out.below hb4)
  have X4 := Lib.hid (X3.out.below hb4)
  have Y4 := Lib.hid (Y3.out.below hb4)
  clear cr30 cr31 cr32 lr3
  obtain ⟨cr40, cr41, cr42⟩ := cells3 pr4
  have lr4 := heap_lt pr4
  cases ok
  · have hxn := HNO.out rfl
    have hx0 : x = 0 := by rw [HX.out, hxn]; rfl
    clear hxn HYES HNO
    subst hx0
    go_wp2_with fail
    refine (alive_any _).mono ?_; rintro e w5 ⟨rfl, hb5⟩
    go_wp2
    go_ret
    exact ⟨rfl, below_seq b4 hb5⟩
  · obtain ⟨hsi, htl, htm⟩ := HYES.out rfl
    obtain ⟨X', hX', htx, hhx, hxl2⟩ := low_mk false hsi htl htm HA.out HBH.out
    obtain rfl : X = X' := by have := HRR.out.symm.trans hX'; injection this
    obtain ⟨hle, hpos⟩ := hts_len hsi htl htm HA.out HBH.out
    obtain ⟨hb1, hb2'⟩ := below_low hpos hle
    obtain ⟨D, V, C, hD, hD1, hD2, hD3, hV1, hV2, hV3, hC, htc, hcl⟩ := til_rem htl (by rw [← HM.out]; omega) n2 hsm2
    obtain ⟨c1, hc1⟩ : ∃ c1, c1 = C.length := ⟨_, rfl⟩
    rw [← hc1, ← HM.out] at hcl
    have hcl36 : c1 ≤ 36 := by omega
    clear hcl
    obtain ⟨HC0, hhc⟩ := htsR_exist W0 T0 xs C
    obtain ⟨hlc, _⟩ := hts_len hsi htl htc HA.out hhc
    -- the high one of both
    obtain ⟨HI, hi1, hi2, hi3, hi4⟩ := low_mk true hsi htl htm HA.out HBH.out
    -- the low one of a tiling and the high one of both
    obtain ⟨S, s1', s2', s3', s4'⟩ := low_mk false hsi htl hi2 HA.out hi3
    rw [both_absorb hle] at s3'
    obtain rfl : L = S := hts_same hsi htl s2' HA.out s3'
    -- the high one of the second and the third one
    obtain ⟨BC, bc1, bc2, bc3, bc4⟩ := low_mk true hsi htm htc HBH.out hhc
    obtain ⟨LF, lf1, lf2, lf3, lf4⟩ := low_mk false hsi htl bc2 HA.out bc3
    obtain ⟨AC, ac1, ac2, ac3, ac4⟩ := low_mk false hsi htl htc HA.out hhc
    obtain ⟨RF, rf1, rf2, rf3, rf4⟩ := low_mk true hsi htx ac2 hhx ac3
    rw [both_distr hle hlc] at lf3
    obtain rfl : LF = RF := hts_same hsi lf2 rf2 lf3 rf3
    clear s4' hX' hxl2 s2' s3' lf2 lf3 rf2 rf3 rf4 bc2 ac2 hi2 hpos hle hlc hsi htl htm htc HYES HNO
    obtain ⟨hin, hhin⟩ : ∃ hin, hin = HI.length := ⟨_, rfl⟩
    rw [← hhin, ← HM.out] at hi4
    have hb_hin : hin ≤ 36 := by omega
    clear hi4
    have NHI := Lib.hid hhin; clear hhin
    obtain ⟨bcn, hbcn⟩ : ∃ bcn, bcn = BC.length := ⟨_, rfl⟩
    rw [← hbcn, ← HM.out] at bc4
    have hb_bcn : bcn ≤ 36 := by omega
    clear bc4
    have NBC := Lib.hid hbcn; clear hbcn
    obtain ⟨lfn, hlfn⟩ : ∃ lfn, lfn = LF.length := ⟨_, rfl⟩
    rw [← hlfn, ← HM.out] at lf4
    have hb_lfn : lfn ≤ 36 := by omega
    clear lf4
    have NLF := Lib.hid hlfn; clear hlfn
    obtain ⟨acn, hacn⟩ : ∃ acn, acn = AC.length := ⟨_, rfl⟩
    rw [← hacn, ← HM.out] at ac4
    have hb_acn : acn ≤ 36 := by omega
    clear ac4
    have NAC := Lib.hid hacn; clear hacn
    have Qhtx := Lib.hid htx; clear htx
    have Qhhx := Lib.hid hhx; clear hhx
    have Qhb1 := Lib.hid hb1; clear hb1
    have Qhb2 := Lib.hid hb2'; clear hb2'
    have QhC := Lib.hid hC; clear hC
    have Qhhc := Lib.hid hhc; clear hhc
    have Qhi1 := Lib.hid hi1; clear hi1
    have Qhi3 := Lib.hid hi3; clear hi3
    have Qs1 := Lib.hid s1'; clear s1'
    have Qbc1 := Lib.hid bc1; clear bc1
    have Qbc3 := Lib.hid bc3; clear bc3
    have Qlf1 := Lib.hid lf1; clear lf1
    have Qac1 := Lib.hid ac1; clear ac1
    have Qac3 := Lib.hid ac3; clear ac3
    have Qrf1 := Lib.hid rf1; clear rf1
    have Qhc1 := Lib.hid hc1; clear hc1
    have QhD := Lib.hid hD; clear hD
    go_upto_region 11 with fail
    go_cut [13, 14] (fun v13 v14 wx => ∃ a9 cap9, v13 = .slice a9 c1 cap9 ∧ v14 = .bool true ∧ IntsAt wx a9 C ∧ Below w4.heap.size w4 wx)
    case first =>
      have PD : w4.drew.heap[w1.heap.size]? = some _ := pr4
      have AD : Hid (BoolsAt w4.drew a xs) := A4
      go_region_held3 (fun w' => w'.cell? ⟨w1.heap.size, 0, none⟩ = some (.int .i64 W0) ∧ w'.cell? ⟨w1.heap.size, 1, none⟩ = some (.int .i64 T0) ∧ w'.cell? ⟨w1.heap.size, 2, none⟩ = some (.slice a m c))
        (go_keep)
        (first
          | (go_at_call 37; refine (iTilingOf_ret _ _ _ _ _ xs V _ HM.out (by omega) A8.out).mono ?_; rintro e w9 ⟨a9, cap9, rfl, ho9, hb9⟩; rw [QhC.out] at ho9 ⊢; simp only at ho9 ⊢; rw [← Qhc1.out] at ho9 ⊢; have p9 := heap_later p8 hb9; have b9 := below_seq b8 hb9; have I9 := Lib.hid (OwnsI.at ho9); obtain ⟨c90, c91, c92⟩ := cells3 p9)
          | (go_at_call 38; refine (iTilingsMany_any _ _ _ _ _ xs _ HM.out (by omega) AD.out).mono ?_; rintro e w8 ⟨rfl, hb8⟩; rw [QhD.out]; have p8 := heap_later PD hb8; have b8 : Below w4.heap.size w4 w8 := below_seq (drew_below _) hb8; have A8 := Lib.hid (AD.out.below hb8); obtain ⟨c80, c81, c82⟩ := cells3 p8))
      all_goals
        go_wp2
        go_meet
        exact ⟨a9, cap9, rfl, rfl, I9.out, b9⟩
    case rest =>
    rename World => w5
    obtain ⟨a5, cap5, rfl, rfl, ic, hb5⟩ := hcut
    have IC := Lib.hid ic; clear ic
    have b5 := below_seq b4 hb5
    have pr5 := heap_later pr4 hb5
    have A5 := Lib.hid (A4.out.below hb5)
    have I5 := Lib.hid (I4.out.below hb5)
    have J5 := Lib.hid (J4.out.below hb5)
    have X5 := Lib.hid (X4.out.below hb5)
    have C5 := Lib.hid (IC.out)
    clear cr40 cr41 cr42 lr4
    obtain ⟨cr50, cr51, cr52⟩ := cells3 pr5
    have lr5 := heap_lt pr5
    clear IC
    go_wp2_with fail
    refine (iTilingHigh_ret _ _ _ _ _ xs _ _ _ L _ _ _ M HA0 HB0 _ HM.out (by omega) HQ.out (by omega) HR.out (by omega) A5.out I5.out J5.out HA.out HBH.out).mono ?_; rintro e w6 ⟨a6, cap6, rfl, ho6, hb6⟩
    rw [Qhi1.out] at ho6 ⊢
    simp only at ho6 ⊢
    rw [← NHI.out] at ho6 ⊢
    have b6 := below_seq b5 hb6
    have pr6 := heap_later pr5 hb6
    have A6 := Lib.hid (A5.out.below hb6)
    have I6 := Lib.hid (I5.out.below hb6)
    have J6 := Lib.hid (J5.out.below hb6)
    have X6 := Lib.hid (X5.out.below hb6)
    have C6 := Lib.hid (C5.out.below hb6)
    have H6 := Lib.hid (OwnsI.at ho6)
    clear cr50 cr51 cr52 lr5
    obtain ⟨cr60, cr61, cr62⟩ := cells3 pr6
    have lr6 := heap_lt pr6
    clear ho6
    go_wp2_with fail
    refine (iTilingLow_ret _ _ _ _ _ xs _ _ _ L _ _ _ HI HA0 _ _ HM.out (by omega) HQ.out (by omega) NHI.out (by omega) A6.out I6.out H6.out HA.out Qhi3.out).mono ?_; rintro e w7 ⟨a7, cap7, rfl, ho7, hb7⟩
    rw [Qs1.out] at ho7 ⊢
    simp only at ho7 ⊢
    rw [← HQ.out] at ho7 ⊢
    have b7 := below_seq b6 hb7
    have pr7 := heap_later pr6 hb7
    have A7 := Lib.hid (A6.out.below hb7)
    have I7 := Lib.hid (I6.out.below hb7)
    have J7 := Lib.hid (J6.out.below hb7)
    have X7 := Lib.hid (X6.out.below hb7)
    have C7 := Lib.hid (C6.out.below hb7)
    have H7 := Lib.hid (H6.out.below hb7)
    have S7 := Lib.hid (OwnsI.at ho7)
    clear cr60 cr61 cr62 lr6
    obtain ⟨cr70, cr71, cr72⟩ := cells3 pr7
    have lr7 := heap_lt pr7
    clear ho7
    go_wp2_with fail
    refine (iTilingHigh_ret _ _ _ _ _ xs _ _ _ M _ _ _ C HB0 HC0 _ HM.out (by omega) HR.out (by omega) Qhc1.out (by omega) A7.out J7.out C7.out HBH.out Qhhc.out).mono ?_; rintro e w8 ⟨a8, cap8, rfl, ho8, hb8⟩
    rw [Qbc1.out] at ho8 ⊢
    simp only at ho8 ⊢
    rw [← NBC.out] at ho8 ⊢
    have b8 := below_seq b7 hb8
    have pr8 := heap_later pr7 hb8
    have A8 := Lib.hid (A7.out.below hb8)
    have I8 := Lib.hid (I7.out.below hb8)
    have J8 := Lib.hid (J7.out.below hb8)
    have X8 := Lib.hid (X7.out.below hb8)
    have C8 := Lib.hid (C7.out.below hb8)
    have H8 := Lib.hid (H7.out.below hb8)
    have S8 := Lib.hid (S7.out.below hb8)
    have B8 := Lib.hid (OwnsI.at ho8)
    clear cr70 cr71 cr72 lr7
    obtain ⟨cr80, cr81, cr82⟩ := cells3 pr8
    have lr8 := heap_lt pr8
    clear ho8
    go_wp2_with fail
    refine (iTilingLow_ret _ _ _ _ _ xs _ _ _ L _ _ _ BC HA0 _ _ HM.out (by omega) HQ.out (by omega) NBC.out (by omega) A8.out I8.out B8.out HA.out Qbc3.out).mono ?_; rintro e w9 ⟨a9, cap9, rfl, ho9, hb9⟩
    rw [Qlf1.out] at ho9 ⊢
    simp only at ho9 ⊢
    rw [← NLF.out] at ho9 ⊢
    have b9 := below_seq b8 hb9
    have pr9 := heap_later pr8 hb9
    have A9 := Lib.hid (A8.out.below hb9)
    have I9 := Lib.hid (I8.out.below hb9)
    have J9 := Lib.hid (J8.out.below hb9)
    have X9 := Lib.hid (X8.out.below hb9)
    have C9 := Lib.hid (C8.out.below hb9)
    have H9 := Lib.hid (H8.out.below hb9)
    have S9 := Lib.hid (S8.out.below hb9)
    have B9 := Lib.hid (B8.out.below hb9)
    have F9 := Lib.hid (OwnsI.at ho9)
    clear cr80 cr81 cr82 lr8
    obtain ⟨cr90, cr91, cr92⟩ := cells3 pr9
    have lr9 := heap_lt pr9
    clear ho9
    go_wp2_with fail
    refine (iTilingLow_ret _ _ _ _ _ xs _ _ _ L _ _ _ C HA0 HC0 _ HM.out (by omega) HQ.out (by omega) Qhc1.out (by omega) A9.out I9.out C9.out HA.out Qhhc.out).mono ?_; rintro e w10 ⟨a10, cap10, rfl, ho10, hb10⟩
    rw [Qac1.out] at ho10 ⊢
    simp only at ho10 ⊢
    rw [← NAC.out] at ho10 ⊢
    have b10 := below_seq b9 hb10
    have pr10 := heap_later pr9 hb10
    have A10 := Lib.hid (A9.out.below hb10)
    have I10 := Lib.hid (I9.out.below hb10)
    have J10 := Lib.hid (J9.out.below hb10)
    have X10 := Lib.hid (X9.out.below hb10)
    have C10 := Lib.hid (C9.out.below hb10)
    have H10 := Lib.hid (H9.out.below hb10)
    have S10 := Lib.hid (S9.out.below hb10)
    have B10 := Lib.hid (B9.out.below hb10)
    have F10 := Lib.hid (F9.out.below hb10)
    have E10 := Lib.hid (OwnsI.at ho10)
    clear cr90 cr91 cr92 lr9
    obtain ⟨cr100, cr101, cr102⟩ := cells3 pr10
    have lr10 := heap_lt pr10
    clear ho10
    go_wp2_with fail
    refine (iTilingHigh_ret _ _ _ _ _ xs _ _ _ X _ _ _ AC _ _ _ HM.out (by omega) HX.out (by omega) NAC.out (by omega) A10.out X10.out E10.out Qhhx.out Qac3.out).mono ?_; rintro e w11 ⟨a11, cap11, rfl, ho11, hb11⟩
    rw [Qrf1.out] at ho11 ⊢
    simp only at ho11 ⊢
    rw [← NLF.out] at ho11 ⊢
    have b11 := below_seq b10 hb11
    have pr11 := heap_later pr10 hb11
    have A11 := Lib.hid (A10.out.below hb11)
    have I11 := Lib.hid (I10.out.below hb11)
    have J11 := Lib.hid (J10.out.below hb11)
    have X11 := Lib.hid (X10.out.below hb11)
    have C11 := Lib.hid (C10.out.below hb11)
    have H11 := Lib.hid (H10.out.below hb11)
    have S11 := Lib.hid (S10.out.below hb11)
    have B11 := Lib.hid (B10.out.below hb11)
    have F11 := Lib.hid (F10.out.below hb11)
    have E11 := Lib.hid (E10.out.below hb11)
    have G11 := Lib.hid (OwnsI.at ho11)
    clear cr100 cr101 cr102 lr10
    obtain ⟨cr110, cr111, cr112⟩ := cells3 pr11
    have lr11 := heap_lt pr11
    clear ho11
    go_wp2_with fail
    refine (iTilingOk_any _ _ _ _ _ xs _ _ _ X _ HM.out (by omega) HX.out (by omega) A11.out X11.out).mono ?_; rintro e w12 ⟨rfl, hb12⟩
    rw [Qhtx.out]
    have b12 := below_seq b11 hb12
    have pr12 := heap_later pr11 hb12
    have A12 := Lib.hid (A11.out.below hb12)
    have I12 := Lib.hid (I11.out.below hb12)
    have J12 := Lib.hid (J11.out.below hb12)
    have X12 := Lib.hid (X11.out.below hb12)
    have C12 := Lib.hid (C11.out.below hb12)
    have H12 := Lib.hid (H11.out.below hb12)
    have S12 := Lib.hid (S11.out.below hb12)
    have B12 := Lib.hid (B11.out.below hb12)
    have F12 := Lib.hid (F11.out.below hb12)
    have E12 := Lib.hid (E11.out.below hb12)
    have G12 := Lib.hid (G11.out.below hb12)
    clear cr110 cr111 cr112 lr11
    obtain ⟨cr120, cr121, cr122⟩ := cells3 pr12
    have lr12 := heap_lt pr12
    go_wp2_with fail
    refine (sameInts_same _ _ _ _ _ L _ HQ.out (by omega) S12.out I12.out).mono ?_; rintro e w13 ⟨rfl, hb13⟩
    have b13 := below_seq b12 hb13
    have pr13 := heap_later pr12 hb13
    have A13 := Lib.hid (A12.out.below hb13)
    have I13 := Lib.hid (I12.out.below hb13)
    have J13 := Lib.hid (J12.out.below hb13)
    have X13 := Lib.hid (X12.out.below hb13)
    have C13 := Lib.hid (C12.out.below hb13)
    have H13 := Lib.hid (H12.out.below hb13)
    have S13 := Lib.hid (S12.out.below hb13)
    have B13 := Lib.hid (B12.out.below hb13)
    have F13 := Lib.hid (F12.out.below hb13)
    have E13 := Lib.hid (E12.out.below hb13)
    have G13 := Lib.hid (G12.out.below hb13)
    clear cr120 cr121 cr122 lr12
    obtain ⟨cr130, cr131, cr132⟩ := cells3 pr13
    have lr13 := heap_lt pr13
    go_wp2_with fail
    refine (iBelow_ret _ _ _ _ _ xs _ _ _ X _ _ _ L _ HA0 _ HM.out (by omega) HX.out (by omega) HQ.out (by omega) A13.out X13.out I13.out Qhhx.out HA.out).mono ?_; rintro e w14 ⟨rfl, hb14⟩
    rw [Qhb1.out]
    have b14 := below_seq b13 hb14
    have pr14 := heap_later pr13 hb14
    have A14 := Lib.hid (A13.out.below hb14)
    have I14 := Lib.hid (I13.out.below hb14)
    have J14 := Lib.hid (J13.out.below hb14)
    have X14 := Lib.hid (X13.out.below hb14)
    have C14 := Lib.hid (C13.out.below hb14)
    have H14 := Lib.hid (H13.out.below hb14)
    have S14 := Lib.hid (S13.out.below hb14)
    have B14 := Lib.hid (B13.out.below hb14)
    have F14 := Lib.hid (F13.out.below hb14)
    have E14 := Lib.hid (E13.out.below hb14)
    have G14 := Lib.hid (G13.out.below hb14)
    clear cr130 cr131 cr132 lr13
    obtain ⟨cr140, cr141, cr142⟩ := cells3 pr14
    have lr14 := heap_lt pr14
    go_wp2_with fail
    refine (iBelow_ret _ _ _ _ _ xs _ _ _ X _ _ _ M _ HB0 _ HM.out (by omega) HX.out (by omega) HR.out (by omega) A14.out X14.out J14.out Qhhx.out HBH.out).mono ?_; rintro e w15 ⟨rfl, hb15⟩
    rw [Qhb2.out]
    have b15 := below_seq b14 hb15
    have pr15 := heap_later pr14 hb15
    have A15 := Lib.hid (A14.out.below hb15)
    have I15 := Lib.hid (I14.out.below hb15)
    have J15 := Lib.hid (J14.out.below hb15)
    have X15 := Lib.hid (X14.out.below hb15)
    have C15 := Lib.hid (C14.out.below hb15)
    have H15 := Lib.hid (H14.out.below hb15)
    have S15 := Lib.hid (S14.out.below hb15)
    have B15 := Lib.hid (B14.out.below hb15)
    have F15 := Lib.hid (F14.out.below hb15)
    have E15 := Lib.hid (E14.out.below hb15)
    have G15 := Lib.hid (G14.out.below hb15)
    clear cr140 cr141 cr142 lr14
    obtain ⟨cr150, cr151, cr152⟩ := cells3 pr15
    have lr15 := heap_lt pr15
    go_wp2_with fail
    refine (sameInts_same _ _ _ _ _ LF _ NLF.out (by omega) F15.out G15.out).mono ?_; rintro e w16 ⟨rfl, hb16⟩
    have b16 := below_seq b15 hb16
    have pr16 := heap_later pr15 hb16
    have A16 := Lib.hid (A15.out.below hb16)
    have I16 := Lib.hid (I15.out.below hb16)
    have J16 := Lib.hid (J15.out.below hb16)
    have X16 := Lib.hid (X15.out.below hb16)
    have C16 := Lib.hid (C15.out.below hb16)
    have H16 := Lib.hid (H15.out.below hb16)
    have S16 := Lib.hid (S15.out.below hb16)
    have B16 := Lib.hid (B15.out.below hb16)
    have F16 := Lib.hid (F15.out.below hb16)
    have E16 := Lib.hid (E15.out.below hb16)
    have G16 := Lib.hid (G15.out.below hb16)
    clear cr150 cr151 cr152 lr15
    obtain ⟨cr160, cr161, cr162⟩ := cells3 pr16
    have lr16 := heap_lt pr16
    go_wp2
    go_ret
    exact ⟨rfl, b16⟩

end Go.Proofs.Ytknigcjpgkolgaa
