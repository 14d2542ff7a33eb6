/- The law FnFaultsOf: its walk. -/
import Derived.Test.YtlnnoeojgdeagaaDrawL2
import Derived.Test.YtlnnoeojgdeagaaFaultP
import Derived.Test.YtlnnoeojgdeagaaFaultsS
import Derived.Test.YtlnnoeojgdeagaaLaidN
import Derived.Test.YtlnnoeojgdeagaaOrder
namespace Go.Proofs.Ytlnnoeojgdeagaa
open Go.RowKit
set_option linter.unusedVariables false
set_option maxRecDepth 100000
set_option linter.unusedSimpArgs false

set_option maxHeartbeats 4000000 in
theorem promFaultsOf_walk (cb : Option Addr) (n cap : Nat) (zs : List Int) (w : World) (hn : n = zs.length) (hn' : n ≤ maxLen) (hcap : n ≤ cap) (hb : BytesAt w cb zs) :
    Calls Try.prog 13 #[.slice cb n cap] w fun e w' => e = .returned (.bool true) ∧ Below w.heap.size w w' := by
  have HN := Lib.hid hn; clear hn
  have HB := Lib.hid hb; clear hb
  by_cases hbig : 1048576 < n
  · unfold maxLen at hn'
    go_enter Try.func13, Try.ntmps13
    go_wp2
    go_ret
    exact ⟨rfl, Below.refl _ _⟩
  have hsm : n ≤ 1048576 := by omega
  clear hbig hn'
  go_enter Try.func13, Try.ntmps13
  go_wp2_with fail
  refine (drawFaultsOf_any _ _ _ zs _ HN.out hsm hcap HB.out).mono ?_; rintro e w1 ⟨W0, T0, a, m, c, xs, la, q, lcap, L, rfl, hm, h36, hs, ho, hq, hq36, hi, b1⟩
  have HM := Lib.hid hm; clear hm
  have HQ := Lib.hid hq; clear hq
  have A1 := Lib.hid (OwnsB.at ho); clear ho
  have I1 := Lib.hid (OwnsI.at hi); clear hi
  obtain ⟨s0, s1, s2, s3⟩ := hs
  obtain ⟨X, hX⟩ : ∃ X, faultsF W0 T0 xs L = X := ⟨_, rfl⟩
  obtain ⟨x, hx⟩ : ∃ x, x = X.length := ⟨_, rfl⟩
  have hxq : x ≤ 6 := by have := faultsF_len W0 T0 xs L; rw [hX, ← hx] at this; exact this
  have HXX := Lib.hid hX; clear hX
  have HX := Lib.hid hx; clear hx
  go_wp2_with fail
  refine (iFaultsOf_ret _ _ _ _ _ xs _ _ _ L _ HM.out (by omega) HQ.out (by omega) (A1.out.one _) (I1.out.one _)).mono ?_; rintro e w2 ⟨a2, cap2, rfl, ho2, hb2⟩
  rw [HXX.out] at ho2 ⊢
  rw [← HX.out] at ho2 ⊢
  have b2 := below_seq (below_seq b1 (below1 _ _)) hb2
  have pr2 := heap_later (heap_new w1 (.cells #[.int .i64 W0, .int .i64 T0, .slice a m c] 28)) hb2
  have A2 := Lib.hid ((A1.out.one (.cells #[.int .i64 W0, .int .i64 T0, .slice a m c] 28)).below hb2)
  have I2 := Lib.hid ((I1.out.one (.cells #[.int .i64 W0, .int .i64 T0, .slice a m c] 28)).below hb2)
  have X2 := Lib.hid (OwnsI.at ho2)
  obtain ⟨cr20, cr21, cr22⟩ := cells3 pr2
  have lr2 := heap_lt pr2
  clear ho2
  go_wp2_with fail
  refine (sFaultsOf_ret _ _ _ _ _ xs _ _ _ L _ HM.out (by omega) HQ.out (by omega) A2.out I2.out).mono ?_; rintro e w3 ⟨a3, cap3, rfl, ho3, hb3⟩
  rw [HXX.out] at ho3 ⊢
  rw [← HX.out] at ho3 ⊢
  have b3 := below_seq b2 hb3
  have pr3 := heap_later pr2 hb3
  have A3 := Lib.hid (A2.out.below hb3)
  have I3 := Lib.hid (I2.out.below hb3)
  have X3 := Lib.hid (X2.out.below hb3)
  have Y3 := Lib.hid (OwnsI.at ho3)
  clear cr20 cr21 cr22 lr2
  obtain ⟨cr30, cr31, cr32⟩ := cells3 pr3
  have lr3 := heap_lt pr3
  clear ho3
  go_wp2_with fail
  refine (sameInts_same _ _ _ _ _ X _ HX.out (by omega) X3.out Y3.out).mono ?_; rintro e w4 ⟨rfl, hb4⟩
  have b4 := below_seq b3 hb4
  have pr4 := heap_later pr3 hb4
  have A4 := Lib.hid (A3.out.below hb4)
  have I4 := Lib.hid (I3.out.below hb4)
  have X4 := Lib.hid (X3.out.below hb4)
  have Y4 := Lib.hid (Y3.out.below hb4)
  clear cr30 cr31 cr32 lr3
  obtain ⟨cr40, cr41, cr42⟩ := cells3 pr4
  have lr4 := heap_lt pr4
  go_wp2_with fail
  refine (sLaidOk_any _ _ _ _ _ xs _ _ _ L _ HM.out (by omega) HQ.out (by omega) A4.out I4.out).mono ?_; rintro e w5 ⟨rfl, hb5⟩
  have b5 := below_seq b4 hb5
  have pr5 := heap_later pr4 hb5
  have A5 := Lib.hid (A4.out.below hb5)
  have I5 := Lib.hid (I4.out.below hb5)
  have X5 := Lib.hid (X4.out.below hb5)
  clear cr40 cr41 cr42 lr4
  obtain ⟨cr50, cr51, cr52⟩ := cells3 pr5
  have lr5 := heap_lt pr5
  cases h : lok W0 T0 xs L
  · have e : X = [] := by rw [← HXX.out]; unfold faultsF; rw [h]; rfl
    have hx0 : x = 0 := by rw [HX.out, e]; rfl
    subst hx0
    clear h e
    go_wp2_with fail
    refine (alive_any _).mono ?_; rintro e w6 ⟨rfl, hb6⟩
    go_wp2
    go_ret
    exact ⟨rfl, below_seq b5 hb6⟩
  · obtain ⟨Wn, Tn, hWn, hTn, hLl⟩ := lok_nat h
    have hXW : X = faultsTo Wn Tn L Wn := by rw [← HXX.out]; unfold faultsF; rw [if_pos h, hWn, hTn]; rfl
    have HASC : Hid (∀ j, j + 1 < x → X.getD j 0 < X.getD (j + 1) 0) := by rw [HX.out, hXW]; exact fault_asc Wn Tn L
    obtain ⟨hr, _, _⟩ := lok_rv h
    obtain ⟨v1, v2, v3, v4, v5, _⟩ := rv_true hr
    obtain ⟨ok, hok⟩ : ∃ ok, tok W0 T0 xs L = ok := ⟨_, rfl⟩
    have HW0 : Hid (ok = true → ∀ j, j < x → westS W0 xs (X.getD j 0) m = 0 ∧ 0 ≤ X.getD j 0 ∧ X.getD j 0 ≤ 6) := fun hk j hj => by
      rw [hk] at hok
      rw [HX.out] at hj
      rw [hWn, hTn] at hok
      rw [hXW] at hj ⊢
      obtain ⟨y, e1, e2, e3, e4⟩ := fault_mem hj
      rw [e1, HM.out, hWn]
      exact ⟨westS_zero hok e4, by omega, by omega⟩
    have HOK := Lib.hid hok; clear hok
    have hm1 : m ≤ 1048576 := by omega
    have hq1 : q ≤ 1048576 := by omega
    clear h hLl hWn hTn hXW hr v3 v4 v5
    go_wp2
    go_loopw [6, 7, 8] (fun f _ _ wr => ∃ k : Nat, k ≤ x ∧ f = .int .i64 k ∧ Below w5.heap.size w5 wr) (fun f _ _ _ => x - (intOf f).toNat)
    case atStart => exact ⟨0, Nat.zero_le _, rfl, Below.refl _ _⟩
    case round =>
      rename World => wo
      clear cr50 cr51 cr52 lr5
      obtain ⟨k, hk, rfl, bo⟩ := hrel
      have b9 := below_seq b5 bo
      have pr9 := heap_later pr5 bo
      have A9 := Lib.hid (A5.out.below bo)
      have I9 := Lib.hid (I5.out.below bo)
      have X9 := Lib.hid (X5.out.below bo)
      have BO := Lib.hid bo; clear bo
      obtain ⟨cr90, cr91, cr92⟩ := cells3 pr9
      have lr9 := heap_lt pr9
      by_cases hlt : k < x
      · have e1 : (k : Int) < x := by omega
        have e0 : (0 : Int) ≤ k := by omega
        go_wp2_with fail
        refine (iTilingOk_any _ _ _ _ _ xs _ _ _ L _ HM.out hm1 HQ.out hq1 A9.out I9.out).mono ?_; rintro e w10 ⟨rfl, hb10⟩
        rw [HOK.out]
        have b10 := below_seq b9 hb10
        have pr10 := heap_later pr9 hb10
        have A10 := Lib.hid (A9.out.below hb10)
        have I10 := Lib.hid (I9.out.below hb10)
        have X10 := Lib.hid (X9.out.below hb10)
        clear cr90 cr91 cr92 lr9
        obtain ⟨cr100, cr101, cr102⟩ := cells3 pr10
        have lr10 := heap_lt pr10
        have BO10 := Lib.hid (below_seq BO.out hb10)
        cases ok
        · go_wp2_with fail
          refine (ascend_yes _ _ _ X _ HX.out (by omega) X10.out HASC.out).mono ?_; rintro e w11 ⟨rfl, hb11⟩
          go_wp2
          go_ret
          exact ⟨rfl, below_seq b10 hb11⟩
        · obtain ⟨hz, hv0, hv6⟩ := HW0.out rfl k hlt
          have HZ := Lib.hid hz; clear hz
          obtain ⟨bx, ox, rfl, hcx⟩ := X10.out k (by rw [← HX.out]; exact hlt)
          obtain ⟨v, hv⟩ : ∃ v, v = X.getD k 0 := ⟨_, rfl⟩
          rw [← hv] at hcx hv0 hv6 HZ
          clear hv
          go_wp2
          go_loopw [7, 8] (fun ws i wr => ∃ i' : Nat, i' ≤ m ∧ i = .int .i64 i' ∧ ws = .int .i64 (westS W0 xs v i') ∧ ∃ qq, wr = w10.drewN qq) (fun _ i _ => m - (intOf i).toNat)
          case atStart => exact ⟨0, Nat.zero_le _, rfl, rfl, 0, rfl⟩
          case round =>
            obtain ⟨i, hi, rfl, rfl, qq, rfl⟩ := hrel
            by_cases hil : i < m
            · obtain ⟨ba, oa, rfl, hca⟩ := A10.out i (by rw [← HM.out]; exact hil)
              obtain ⟨m1, m2, m3, m4⟩ := divmod_bd (W := W0) (k := i) v1
              obtain ⟨wb1, wb2⟩ := westS_bd W0 xs v i
              obtain ⟨ws, hws⟩ : ∃ ws, ws = westS W0 xs v i := ⟨_, rfl⟩
              rw [← hws] at wb1 wb2 ⊢
              have f1 : (i : Int) < m := by omega
              have f0 : (0 : Int) ≤ i := by omega
              have hW0 : W0 ≠ 0 := by omega
              cases hx : xs.getD i false
              · have HS : Hid (westS W0 xs v (i + 1) = ws) := by show _ = _; rw [westS_none (by rw [hx]; rfl), hws]
                rw [hx] at hca
                clear hws
                have HXI := Lib.hid hx; clear hx
                clear wb1 wb2
                go_wp2
                go_quiet (fail)
                go_wp2
                go_roundw
                case rel => exact ⟨i + 1, by omega, by go_num, by rw [HS.out], _, rfl⟩
                case measure => simp [intOf]; omega
              · rw [hx] at hca
                cases hcol : decide ((i : Int) % W0 < v)
                · have HS : Hid (westS W0 xs v (i + 1) = ws) := by show _ = _; rw [westS_none (by rw [hx, hcol]; rfl), hws]
                  clear hws
                  have HXI := Lib.hid hx; clear hx
                  clear wb1 wb2
                  go_wp2
                  go_quiet (fail)
                  go_wp2
                  go_roundw
                  case rel => exact ⟨i + 1, by omega, by go_num, by rw [HS.out], _, rfl⟩
                  case measure => simp [intOf]; omega
                · cases hd : dkAt W0 i
                  all_goals
                    have hd' : (((i : Int) % W0 + (i : Int) / W0) % 2 == 0) = _ := hd
                    have HS : Hid (westS W0 xs v (i + 1) = if dkAt W0 i then ws + 1 else ws - 1) := by
                      show _ = _
                      rw [hd, hws]
                      first | exact westS_light (by rw [hx, hcol]; rfl) hd | exact westS_dark (by rw [hx, hcol]; rfl) hd
                    clear hws
                    rw [hd] at HS
                    have HXI := Lib.hid hx; clear hx
                    have HDD := Lib.hid hd; clear hd
                    go_wp2
                    go_quiet (fail)
                    go_wp2
                    go_quiet (fail)
                    go_wp2
                    go_roundw
                    case rel => exact ⟨i + 1, by omega, by go_num, by rw [HS.out]; rfl, _, rfl⟩
                    case measure => simp [intOf]; omega
            · obtain rfl : i = m := by omega
              rw [HZ.out]
              go_wp2
              go_roundw
              case rel => exact ⟨k + 1, by omega, by go_num, below_seq BO10.out (drewN_below _ _)⟩
              case measure => simp [intOf]; omega
      · go_wp2_with fail
        refine (ascend_yes _ _ _ X _ HX.out (by omega) X9.out HASC.out).mono ?_; rintro e w11 ⟨rfl, hb11⟩
        go_wp2
        go_ret
        exact ⟨rfl, below_seq b9 hb11⟩

end Go.Proofs.Ytlnnoeojgdeagaa
