/- The law FnRankOf: its walk. -/
import Derived.Test.YtdmnfafmbdmjmaaProm
import Derived.Test.YtdmnfafmbdmjmaaDrawRk
import Derived.Test.YtdmnfafmbdmjmaaRankP
import Derived.Test.YtdmnfafmbdmjmaaRank
import Derived.Test.YtdmnfafmbdmjmaaDpC
namespace Go.Proofs.Ytdmnfafmbdmjmaa
open Go.RowKit
set_option linter.unusedVariables false
set_option maxRecDepth 100000
set_option linter.unusedSimpArgs false

set_option maxHeartbeats 4000000 in
theorem promRankOf_walk (cb : Option Addr) (n cap : Nat) (zs : List Int) (w : World) (hn : n = zs.length) (hn' : n ≤ maxLen) (hcap : n ≤ cap) (hb : BytesAt w cb zs) :
    Calls Try.prog 5 #[.slice cb n cap] w fun e w' => e = .returned (.bool true) ∧ Below w.heap.size w w' := by
  have HN := Lib.hid hn; clear hn
  have HB := Lib.hid hb; clear hb
  by_cases hbig : 1048576 < n
  · unfold maxLen at hn'
    go_enter Try.func5, Try.ntmps5
    go_wp2
    go_ret
    exact ⟨rfl, Below.refl _ _⟩
  have hsm : n ≤ 1048576 := by omega
  clear hbig hn'
  go_enter Try.func5, Try.ntmps5
  go_wp2_with fail
  refine (drawRankOf_any _ _ _ zs _ HN.out hsm hcap HB.out).mono ?_; rintro e w1 ⟨W0, T0, a, m, c, xs, la, q, lcap, L, rfl, hm, h36, hs, ho, hq, hq36, hi, b1⟩
  have HM := Lib.hid hm; clear hm
  have HQ := Lib.hid hq; clear hq
  have A1 := Lib.hid (OwnsB.at ho); clear ho
  have I1 := Lib.hid (OwnsI.at hi); clear hi
  obtain ⟨s0, s1, s2, s3⟩ := hs
  obtain ⟨R, hR⟩ : ∃ R, rankF W0 T0 xs L = R := ⟨_, rfl⟩
  have HR := Lib.hid hR; clear hR
  have hbb : (R != R) = false := by simp
  go_wp2_with fail
  refine (iRankOf_any _ _ _ _ _ xs _ _ _ L _ HM.out (by omega) HQ.out (by omega) (A1.out.one _) (I1.out.one _)).mono ?_; rintro e w2 ⟨rfl, hb2⟩
  rw [HR.out]
  have b2 := below_seq (below_seq b1 (below1 _ _)) hb2
  have pr2 := heap_later (heap_new w1 (.cells #[.int .i64 W0, .int .i64 T0, .slice a m c] 25)) hb2
  have A2 := Lib.hid ((A1.out.one (.cells #[.int .i64 W0, .int .i64 T0, .slice a m c] 25)).below hb2)
  have I2 := Lib.hid ((I1.out.one (.cells #[.int .i64 W0, .int .i64 T0, .slice a m c] 25)).below hb2)
  obtain ⟨cr20, cr21, cr22⟩ := cells3 pr2
  have lr2 := heap_lt pr2
  go_wp2_with fail
  refine (sRankOf_any _ _ _ _ _ xs _ _ _ L _ HM.out (by omega) HQ.out (by omega) A2.out I2.out).mono ?_; rintro e w3 ⟨rfl, hb3⟩
  rw [HR.out]
  have b3 := below_seq b2 hb3
  have pr3 := heap_later pr2 hb3
  have A3 := Lib.hid (A2.out.below hb3)
  have I3 := Lib.hid (I2.out.below hb3)
  clear cr20 cr21 cr22 lr2
  obtain ⟨cr30, cr31, cr32⟩ := cells3 pr3
  have lr3 := heap_lt pr3
  cases h : tok W0 T0 xs L
  · have hr1 : R = -1 := by rw [← HR.out]; unfold rankF; rw [h]; rfl
    subst hr1
    have HOK := Lib.hid h; clear h
    go_wp2_with fail
    refine (iTilingOk_any _ _ _ _ _ xs _ _ _ L _ HM.out (by omega) HQ.out (by omega) A3.out I3.out).mono ?_; rintro e w4 ⟨rfl, hb4⟩
    rw [HOK.out]
    have b4 := below_seq b3 hb4
    have pr4 := heap_later pr3 hb4
    have A4 := Lib.hid (A3.out.below hb4)
    have I4 := Lib.hid (I3.out.below hb4)
    clear cr30 cr31 cr32 lr3
    obtain ⟨cr40, cr41, cr42⟩ := cells3 pr4
    have lr4 := heap_lt pr4
    go_wp2_with fail
    refine (alive_any _).mono ?_; rintro e w6 ⟨rfl, hb6⟩
    go_wp2
    go_ret
    exact ⟨rfl, below_seq b4 hb6⟩
  · obtain ⟨h1, h2, h3⟩ := til_rank h
    rw [HR.out] at h1 h2 h3
    obtain ⟨hr, _, _⟩ := lok_rv (tok_lokR h)
    have HTL := Lib.hid h1; clear h1
    obtain ⟨N, hN⟩ : ∃ N, N = dpT W0 T0 xs := ⟨_, rfl⟩
    have HTM : Hid (tilT W0 T0 xs = (N : Int)) := by show _ = _; unfold tilT; rw [if_pos hr, hN]
    have hRN : R < N := by rw [hN]; exact h2
    clear h h2 hr hN
    go_wp2_with fail
    refine (iTilingOf_ret _ _ _ _ _ xs R _ HM.out (by omega) A3.out).mono ?_; rintro e w4 ⟨a4, cap4, rfl, ho4, hb4⟩
    rw [HTL.out] at ho4 ⊢
    simp only at ho4 ⊢
    rw [← HQ.out] at ho4 ⊢
    have b4 := below_seq b3 hb4
    have pr4 := heap_later pr3 hb4
    have A4 := Lib.hid (A3.out.below hb4)
    have I4 := Lib.hid (I3.out.below hb4)
    have X4 := Lib.hid (OwnsI.at ho4)
    clear cr30 cr31 cr32 lr3
    obtain ⟨cr40, cr41, cr42⟩ := cells3 pr4
    have lr4 := heap_lt pr4
    clear ho4
    go_wp2_with fail
    refine (sameInts_same _ _ _ _ _ L _ HQ.out (by omega) X4.out I4.out).mono ?_; rintro e w5 ⟨rfl, hb5⟩
    have b5 := below_seq b4 hb5
    have pr5 := heap_later pr4 hb5
    have A5 := Lib.hid (A4.out.below hb5)
    have I5 := Lib.hid (I4.out.below hb5)
    have X5 := Lib.hid (X4.out.below hb5)
    clear cr40 cr41 cr42 lr4
    obtain ⟨cr50, cr51, cr52⟩ := cells3 pr5
    have lr5 := heap_lt pr5
    go_wp2_with fail
    refine (iTilingsMany_any _ _ _ _ _ xs _ HM.out (by omega) A5.out).mono ?_; rintro e w6 ⟨rfl, hb6⟩
    rw [HTM.out]
    have b6 := below_seq b5 hb6
    have pr6 := heap_later pr5 hb6
    have A6 := Lib.hid (A5.out.below hb6)
    have I6 := Lib.hid (I5.out.below hb6)
    have X6 := Lib.hid (X5.out.below hb6)
    clear cr50 cr51 cr52 lr5
    obtain ⟨cr60, cr61, cr62⟩ := cells3 pr6
    have lr6 := heap_lt pr6
    go_wp2
    go_ret
    exact ⟨ret_bool (by simp), b6⟩

end Go.Proofs.Ytdmnfafmbdmjmaa
