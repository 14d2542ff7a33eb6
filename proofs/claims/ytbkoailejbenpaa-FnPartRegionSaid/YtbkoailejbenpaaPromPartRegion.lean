/- The law FnPartRegion: its walk. -/
import Derived.Test.YtbkoailejbenpaaDrawPR
namespace Go.Proofs.Ytbkoailejbenpaa
open Go.RowKit
set_option linter.unusedVariables false
set_option maxRecDepth 100000
set_option linter.unusedSimpArgs false

set_option maxHeartbeats 1000000 in
theorem promPartRegion_walk (cb : Option Addr) (n cap : Nat) (zs : List Int) (w : World) (hn : n = zs.length) (hn' : n ≤ maxLen) (hcap : n ≤ cap) (hb : BytesAt w cb zs) :
    Calls Try.prog 3 #[.slice cb n cap] w fun e w' => e = .returned (.bool true) ∧ Below w.heap.size w w' := by
  have HN := Lib.hid hn; clear hn
  have HB := Lib.hid hb; clear hb
  by_cases hbig : 1048576 < n
  · unfold maxLen at hn'
    go_enter Try.func3, Try.ntmps3
    go_wp2
    go_ret
    exact ⟨rfl, Below.refl _ _⟩
  have hsm : n ≤ 1048576 := by omega
  clear hbig hn'
  go_enter Try.func3, Try.ntmps3
  go_wp2_with fail
  refine (drawPartRegion_any _ _ _ zs _ HN.out hsm hcap HB.out).mono ?_; rintro e w1 ⟨W0, T0, a, m, c, xs, part, rfl, hm, h36, hs, ho, b1⟩
  have HM := Lib.hid hm; clear hm
  have AX := Lib.hid (OwnsB.at ho); clear ho
  obtain ⟨s0, s1, s2, s3⟩ := hs
  by_cases hok : (decide (0 ≤ part) && hasN (partsF W0 T0 xs) part (partsF W0 T0 xs).length) = true
  · have hok2 := hok
    rw [Bool.and_eq_true, decide_eq_true_eq] at hok2
    obtain ⟨hp0, hhas⟩ := hok2
    have hrv := parts_rv hhas
    have hpr : partR W0 T0 xs part = (W0, T0, markT (partsF W0 T0 xs) part, true) := by unfold partR; rw [if_pos hok]
    have hone := part_parts hrv hp0 hhas
    have hlow := lowN_all hrv
    obtain ⟨v1, v2, v3, v4, v5, v6⟩ := rv_true hrv
    have hll := partsF_rv hrv
    have hzk : ∀ k : Nat, k < m → (partR W0 T0 xs k = (0, 0, [], false) ∧ lowN (partsF W0 T0 xs) (k + 1) = lowN (partsF W0 T0 xs) k) ∨ (∃ ys, partR W0 T0 xs k = (W0, T0, ys, true) ∧ ys.length = m ∧ many W0 T0 ys = (cnt ys : Nat) ∧ lowN (partsF W0 T0 xs) (k + 1) = lowN (partsF W0 T0 xs) k + cnt ys) := by
      intro k hk
      have hsu := lowN_succ (partsF W0 T0 xs) k
      cases hh : hasN (partsF W0 T0 xs) k (partsF W0 T0 xs).length
      · left
        rw [hasN_no hh] at hsu
        refine ⟨?_, hsu⟩
        unfold partR; rw [hh]; simp
      · right
        have hrv2 := rv_markT (v := (k : Int)) hrv (by omega)
        refine ⟨markT (partsF W0 T0 xs) k, ?_, by rw [markT_len, hll]; exact HM.out.symm, by unfold many; rw [hrv2, if_pos rfl], hsu⟩
        unfold partR; rw [hh, decide_eq_true (by omega : (0 : Int) ≤ (k : Int))]; rfl
    have hmany : Hid (many W0 T0 xs = (cnt xs : Nat)) := by show _ = _; unfold many; rw [hrv, if_pos rfl]
    have hyl : m = (markT (partsF W0 T0 xs) part).length := by rw [markT_len, hll]; exact HM.out
    have hle0 : ∀ k, lowN (partsF W0 T0 xs) k ≤ m := fun k => by have := lowN_le (partsF W0 T0 xs) k; rw [hll, ← HM.out] at this; exact this
    rw [← HM.out] at hlow
    have hz0 := lowN_zero (partsF W0 T0 xs)
    generalize markT (partsF W0 T0 xs) part = ys at hpr hone hyl
    generalize partsF W0 T0 xs = L at hlow hzk hle0 hz0
    have HYL := Lib.hid hyl; clear hyl
    have HONE := Lib.hid hone; clear hone
    have HZK := Lib.hid hzk; clear hzk
    have HLE := Lib.hid hle0; clear hle0
    have HLOW := Lib.hid hlow; clear hlow
    have HZ0 := Lib.hid hz0; clear hz0
    clear hok hhas hrv hll v5
    have HI : Hid (∀ w, BoolsAt w a xs → Calls Try.prog 5 #[.agg #[.int .i64 W0, .int .i64 T0, .slice a m c], .int .i64 part] w (RetRegT w W0 T0 m ys true)) := fun w h => by
      have hc := iPartRegion_ret W0 T0 part a m c xs w HM.out (by omega) h
      rw [hpr] at hc
      first | exact hc | (rw [← HYL.out] at hc; exact hc)
    have HS : Hid (∀ w, BoolsAt w a xs → Calls Try.prog 6 #[.agg #[.int .i64 W0, .int .i64 T0, .slice a m c], .int .i64 part] w (RetRegT w W0 T0 m ys true)) := fun w h => by
      have hc := sPartRegion_ret W0 T0 part a m c xs w HM.out (by omega) h
      rw [hpr] at hc
      first | exact hc | (rw [← HYL.out] at hc; exact hc)
    clear hpr
    go_wp2_with fail
    refine (HI.out _ (AX.out.one _)).mono ?_; rintro e w2 ⟨a2, c2, rfl, ho2, hb2⟩
    have b2 := below_seq (below_seq b1 (below1 w1 (.cells #[.int .i64 W0, .int .i64 T0, .slice a m c] 25))) hb2
    have pr2 := heap_later (heap_new w1 (.cells #[.int .i64 W0, .int .i64 T0, .slice a m c] 25)) hb2
    have AR2 := Lib.hid ((AX.out.one (.cells #[.int .i64 W0, .int .i64 T0, .slice a m c] 25)).below hb2)
    have AX2 := Lib.hid (OwnsB.at ho2)
    clear ho2 hb2
    obtain ⟨c20, c21, c22⟩ := cells3 pr2
    have lr2 := heap_lt pr2
    go_wp2_with fail
    refine (HS.out _ (AR2.out.one _)).mono ?_; rintro e w3 ⟨a3, c3, rfl, ho3, hb3⟩
    have b3 := below_seq (below_seq b2 (below1 w2 (.cells #[.int .i64 W0, .int .i64 T0, .slice a2 m c2] 25))) hb3
    have pr3 := heap_later (heap_later pr2 (below1 w2 (.cells #[.int .i64 W0, .int .i64 T0, .slice a2 m c2] 25))) hb3
    have px3 := heap_later (heap_new w2 (.cells #[.int .i64 W0, .int .i64 T0, .slice a2 m c2] 25)) hb3
    have AR3 := Lib.hid ((AR2.out.one (.cells #[.int .i64 W0, .int .i64 T0, .slice a2 m c2] 25)).below hb3)
    have AX3 := Lib.hid ((AX2.out.one (.cells #[.int .i64 W0, .int .i64 T0, .slice a2 m c2] 25)).below hb3)
    have AY3 := Lib.hid (OwnsB.at ho3)
    clear ho3 hb3 c20 c21 c22 HI HS
    obtain ⟨c30, c31, c32⟩ := cells3 px3
    have lx3 := heap_lt px3
    have lr3 := heap_lt pr3
    go_wp2_with fail
    refine (sameRegion_same _ _ _ _ _ _ _ ys _ HYL.out (by omega) (AX3.out.one _) (AY3.out.one _)).mono ?_; rintro e w4 ⟨rfl, hb4⟩
    have b4 := below_seq (below_seq b3 (below1 w3 (.cells #[.int .i64 W0, .int .i64 T0, .slice a3 m c3] 25))) hb4
    have pr4 := heap_later (heap_later pr3 (below1 w3 (.cells #[.int .i64 W0, .int .i64 T0, .slice a3 m c3] 25))) hb4
    have px4 := heap_later (heap_later px3 (below1 w3 (.cells #[.int .i64 W0, .int .i64 T0, .slice a3 m c3] 25))) hb4
    have AR4 := Lib.hid ((AR3.out.one (.cells #[.int .i64 W0, .int .i64 T0, .slice a3 m c3] 25)).below hb4)
    have AX4 := Lib.hid ((AX3.out.one (.cells #[.int .i64 W0, .int .i64 T0, .slice a3 m c3] 25)).below hb4)
    clear c30 c31 c32 hb4
    obtain ⟨r0, r1, r2⟩ := cells3 pr4
    obtain ⟨x0, x1, x2⟩ := cells3 px4
    have lx4 := heap_lt px4
    have lr4 := heap_lt pr4
    have PR4 := Lib.hid pr4
    have PX4 := Lib.hid px4
    clear AX AR2 AX2 AR3 AX3 AY3 pr2 pr3 px3 lx3 lr3 lr2 pr4 px4
    go_wp2_with fail
    clear r0 r1 r2 x0 x1 x2
    go_loopw [9, 10] (fun s i wr => ∃ k : Nat, k ≤ m ∧ i = .int .i64 k ∧ s = .int .i64 (lowN L k : Nat) ∧ Below w4.heap.size w4 wr) (fun _ i _ => m - (intOf i).toNat)
    case atStart => exact ⟨0, Nat.zero_le _, rfl, by rw [HZ0.out]; rfl, Below.refl _ _⟩
    case round =>
      obtain ⟨k, hk, rfl, rfl, hbel⟩ := hrel
      rename World => wr
      have BEL := Lib.hid hbel; clear hbel
      obtain ⟨r0, r1, r2⟩ := cells3 (heap_later PR4.out BEL.out)
      obtain ⟨x0, x1, x2⟩ := cells3 (heap_later PX4.out BEL.out)
      have ARr := Lib.hid (AR4.out.below BEL.out)
      have AXr := Lib.hid (AX4.out.below BEL.out)
      have hlk := HLE.out k
      by_cases hlt : k < m
      · have hcon := iPartRegion_ret W0 T0 k a m c xs wr HM.out (by omega) ARr.out
        have e1 : (k : Int) < m := by omega
        rcases HZK.out k hlt with ⟨hno, hlo⟩ | ⟨zk, hyes, hyl, hmz, hlo⟩
        · rw [hno] at hcon
          have HCON : Hid (Calls Try.prog 5 #[.agg #[.int .i64 W0, .int .i64 T0, .slice a m c], .int .i64 (k : Int)] wr (RetRegT wr 0 0 0 [] false)) := hcon
          clear hcon hno
          have HLO := Lib.hid hlo; clear hlo
          go_wp2_with fail
          refine (HCON.out).mono ?_; rintro e w5 ⟨a5, c5, rfl, ho5, hb5⟩
          have b5 := below_seq (below_seq BEL.out hb5) (below1 w5 (.cells #[.int .i64 0, .int .i64 0, .slice a5 0 c5] 25))
          clear ho5 hb5 r0 r1 r2 x0 x1 x2 HCON
          go_wp2
          go_roundw
          case rel => exact ⟨k + 1, by omega, by go_num, by rw [HLO.out], b5⟩
          case measure => simp [intOf]; omega
        · rw [hyes] at hcon
          have HCON : Hid (Calls Try.prog 5 #[.agg #[.int .i64 W0, .int .i64 T0, .slice a m c], .int .i64 (k : Int)] wr (RetRegT wr W0 T0 zk.length zk true)) := hcon
          clear hcon hyes
          rw [hyl] at HCON
          have HZL := Lib.hid hyl.symm
          have HMZ := Lib.hid hmz
          have hlk1 := HLE.out (k + 1)
          rw [hlo] at hlk1
          have HLO := Lib.hid hlo; clear hlo hmz hyl
          go_wp2_with fail
          refine (HCON.out).mono ?_; rintro e w5 ⟨a5, c5, rfl, ho5, hb5⟩
          have b5 := below_seq BEL.out hb5
          have O5 := Lib.hid (OwnsB.at ho5)
          clear ho5 hb5 r0 r1 r2 x0 x1 x2 HCON
          go_wp2_with fail
          refine (iCellsMany_any _ _ _ _ _ zk _ HZL.out (by omega) (O5.out.one _)).mono ?_; rintro e w6 ⟨rfl, hb6⟩
          rw [HMZ.out]
          have b6 := below_seq (below_seq b5 (below1 _ _)) hb6
          have hlo2 := HLO.out
          obtain ⟨z, hz⟩ : ∃ z, z = cnt zk := ⟨_, rfl⟩
          obtain ⟨u, hu⟩ : ∃ u, u = lowN L k := ⟨_, rfl⟩
          rw [← hz, ← hu] at hlo2
          rw [← hz, ← hu] at hlk1
          rw [← hz]
          have HLO2 := Lib.hid hlo2; clear hlo2 HLO HMZ
          rw [← hu] at *
          clear hu hz
          go_wp2
          go_roundw
          case rel => exact ⟨k + 1, by omega, by go_num, by rw [HLO2.out]; go_num, b6⟩
          case measure => simp [intOf]; omega
      · obtain rfl : k = m := by omega
        rw [HLOW.out]
        go_wp2_with fail
        refine (iPartsMany_any _ _ _ _ _ ys _ HYL.out (by omega) AXr.out).mono ?_; rintro e w5 ⟨rfl, hb5⟩
        rw [HONE.out]
        have b5 := below_seq BEL.out hb5
        obtain ⟨y0, y1, y2⟩ := cells3 (heap_later PR4.out b5)
        clear r0 r1 r2 x0 x1 x2
        go_wp2_with fail
        refine (iCellsMany_any _ _ _ _ _ xs _ HM.out (by omega) (AR4.out.below b5)).mono ?_; rintro e w6 ⟨rfl, hb6⟩
        rw [hmany.out]
        generalize cnt xs = cx
        go_wp2
        go_ret
        exact ⟨rfl, below_seq b4 (below_seq b5 hb6)⟩
  · have hpr : partR W0 T0 xs part = (0, 0, [], false) := by unfold partR; rw [if_neg hok]
    clear hok
    have HYL : Hid ((0 : Nat) = ([] : List Bool).length) := rfl
    have HI : Hid (∀ w, BoolsAt w a xs → Calls Try.prog 5 #[.agg #[.int .i64 W0, .int .i64 T0, .slice a m c], .int .i64 part] w (RetRegT w 0 0 0 [] false)) := fun w h => by
      have hc := iPartRegion_ret W0 T0 part a m c xs w HM.out (by omega) h
      rw [hpr] at hc
      first | exact hc | (rw [← HYL.out] at hc; exact hc)
    have HS : Hid (∀ w, BoolsAt w a xs → Calls Try.prog 6 #[.agg #[.int .i64 W0, .int .i64 T0, .slice a m c], .int .i64 part] w (RetRegT w 0 0 0 [] false)) := fun w h => by
      have hc := sPartRegion_ret W0 T0 part a m c xs w HM.out (by omega) h
      rw [hpr] at hc
      first | exact hc | (rw [← HYL.out] at hc; exact hc)
    clear hpr
    go_wp2_with fail
    refine (HI.out _ (AX.out.one _)).mono ?_; rintro e w2 ⟨a2, c2, rfl, ho2, hb2⟩
    have b2 := below_seq (below_seq b1 (below1 w1 (.cells #[.int .i64 W0, .int .i64 T0, .slice a m c] 25))) hb2
    have pr2 := heap_later (heap_new w1 (.cells #[.int .i64 W0, .int .i64 T0, .slice a m c] 25)) hb2
    have AR2 := Lib.hid ((AX.out.one (.cells #[.int .i64 W0, .int .i64 T0, .slice a m c] 25)).below hb2)
    have AX2 := Lib.hid (OwnsB.at ho2)
    clear ho2 hb2
    obtain ⟨c20, c21, c22⟩ := cells3 pr2
    have lr2 := heap_lt pr2
    go_wp2_with fail
    refine (HS.out _ (AR2.out.one _)).mono ?_; rintro e w3 ⟨a3, c3, rfl, ho3, hb3⟩
    have b3 := below_seq (below_seq b2 (below1 w2 (.cells #[.int .i64 0, .int .i64 0, .slice a2 0 c2] 25))) hb3
    have pr3 := heap_later (heap_later pr2 (below1 w2 (.cells #[.int .i64 0, .int .i64 0, .slice a2 0 c2] 25))) hb3
    have px3 := heap_later (heap_new w2 (.cells #[.int .i64 0, .int .i64 0, .slice a2 0 c2] 25)) hb3
    have AR3 := Lib.hid ((AR2.out.one (.cells #[.int .i64 0, .int .i64 0, .slice a2 0 c2] 25)).below hb3)
    have AX3 := Lib.hid ((AX2.out.one (.cells #[.int .i64 0, .int .i64 0, .slice a2 0 c2] 25)).below hb3)
    have AY3 := Lib.hid (OwnsB.at ho3)
    clear ho3 hb3 c20 c21 c22 HI HS
    obtain ⟨c30, c31, c32⟩ := cells3 px3
    have lx3 := heap_lt px3
    have lr3 := heap_lt pr3
    go_wp2_with fail
    refine (sameRegion_same _ _ _ _ _ _ _ [] _ HYL.out (by omega) (AX3.out.one _) (AY3.out.one _)).mono ?_; rintro e w4 ⟨rfl, hb4⟩
    have b4 := below_seq (below_seq b3 (below1 w3 (.cells #[.int .i64 0, .int .i64 0, .slice a3 0 c3] 25))) hb4
    have pr4 := heap_later (heap_later pr3 (below1 w3 (.cells #[.int .i64 0, .int .i64 0, .slice a3 0 c3] 25))) hb4
    have px4 := heap_later (heap_later px3 (below1 w3 (.cells #[.int .i64 0, .int .i64 0, .slice a3 0 c3] 25))) hb4
    have AR4 := Lib.hid ((AR3.out.one (.cells #[.int .i64 0, .int .i64 0, .slice a3 0 c3] 25)).below hb4)
    have AX4 := Lib.hid ((AX3.out.one (.cells #[.int .i64 0, .int .i64 0, .slice a3 0 c3] 25)).below hb4)
    clear c30 c31 c32 hb4
    obtain ⟨r0, r1, r2⟩ := cells3 pr4
    obtain ⟨x0, x1, x2⟩ := cells3 px4
    have lx4 := heap_lt px4
    have lr4 := heap_lt pr4
    go_wp2_with fail
    refine (alive_any _).mono ?_; rintro e w5 ⟨rfl, hb5⟩
    go_wp2
    go_ret
    exact ⟨rfl, below_seq b4 hb5⟩
end Go.Proofs.Ytbkoailejbenpaa
