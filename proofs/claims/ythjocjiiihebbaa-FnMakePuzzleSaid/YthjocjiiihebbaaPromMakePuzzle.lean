/- The law FnMakePuzzle: its walk. -/
import Derived.Test.YthjocjiiihebbaaProm
import Derived.Test.YthjocjiiihebbaaDrawMk
import Derived.Test.YthjocjiiihebbaaMakeP
import Derived.Test.YthjocjiiihebbaaMakeS
namespace Go.Proofs.Ythjocjiiihebbaa
open Go.RowKit
set_option linter.unusedVariables false
set_option maxRecDepth 100000
set_option linter.unusedSimpArgs false

set_option maxHeartbeats 4000000 in
theorem promMakePuzzle_walk (cb : Option Addr) (n cap : Nat) (zs : List Int) (w : World) (hn : n = zs.length) (hn' : n ≤ maxLen) (hcap : n ≤ cap) (hb : BytesAt w cb zs) :
    Calls Try.prog 10 #[.slice cb n cap] w fun e w' => e = .returned (.bool true) ∧ Below w.heap.size w w' := by
  have HN := Lib.hid hn; clear hn
  have HB := Lib.hid hb; clear hb
  by_cases hbig : 1048576 < n
  · unfold maxLen at hn'
    go_enter Try.func10, Try.ntmps10
    go_wp2
    go_ret
    exact ⟨rfl, Below.refl _ _⟩
  have hsm : n ≤ 1048576 := by omega
  clear hbig hn'
  go_enter Try.func10, Try.ntmps10
  go_wp2_with fail
  refine (drawMakePuzzle_any _ _ _ zs _ HN.out hsm hcap HB.out).mono ?_; rintro e w1 ⟨W0, T0, a, m, c, xs, la, q, lcap, L, V, rfl, hm, h36, hs, ho, hq, hq36, hi, hV, b1⟩
  have HM := Lib.hid hm; clear hm
  have HQ := Lib.hid hq; clear hq
  have A1 := Lib.hid (OwnsB.at ho); clear ho
  have I1 := Lib.hid (OwnsI.at hi); clear hi
  obtain ⟨s0, s1, s2, s3⟩ := hs
  obtain ⟨D, hD⟩ : ∃ D, mkF W0 T0 xs L V = D := ⟨_, rfl⟩
  obtain ⟨x, hx⟩ : ∃ x, x = D.length := ⟨_, rfl⟩
  have hxq : x ≤ q := by have := mkF_le W0 T0 xs L V; rw [hD, ← hx, ← HQ.out] at this; exact this
  have HD := Lib.hid hD; clear hD
  have HX := Lib.hid hx; clear hx
  go_wp2_with fail
  refine (iMakePuzzle_ret _ _ _ _ _ xs _ _ _ L V _ HM.out (by omega) HQ.out (by omega) (A1.out.one _) (I1.out.one _)).mono ?_; rintro e w2 ⟨a2, cap2, rfl, ho2, hb2⟩
  rw [HD.out] at ho2 ⊢
  rw [← HX.out] at ho2 ⊢
  have b2 := below_seq (below_seq b1 (below1 _ _)) hb2
  have pr2 := heap_later (heap_new w1 (.cells #[.int .i64 W0, .int .i64 T0, .slice a m c] 35)) hb2
  have A2 := Lib.hid ((A1.out.one (.cells #[.int .i64 W0, .int .i64 T0, .slice a m c] 35)).below hb2)
  have I2 := Lib.hid ((I1.out.one (.cells #[.int .i64 W0, .int .i64 T0, .slice a m c] 35)).below hb2)
  have X2 := Lib.hid (OwnsI.at ho2)
  obtain ⟨cr20, cr21, cr22⟩ := cells3 pr2
  have lr2 := heap_lt pr2
  clear ho2
  go_wp2_with fail
  refine (sMakePuzzle_ret _ _ _ _ _ xs _ _ _ L V _ HM.out (by omega) HQ.out (by omega) A2.out I2.out).mono ?_; rintro e w3 ⟨a3, cap3, rfl, ho3, hb3⟩
  rw [HD.out] at ho3 ⊢
  rw [← HX.out] at ho3 ⊢
  have b3 := below_seq b2 hb3
  have pr3 := heap_later pr2 hb3
  have A3 := Lib.hid (A2.out.below hb3)
  have I3 := Lib.hid (I2.out.below hb3)
  have X3 := Lib.hid (X2.out.below hb3)
  have Y3 := Lib.hid (OwnsI.at ho3)
  clear cr20 cr21 cr22 lr2
  obtain ⟨cr30, cr31, cr32⟩ := cells3 pr3
  have lr3 := heap_lt pr3
  clear ho3
  go_wp2_with fail
  refine (sameInts_same _ _ _ _ _ D _ HX.out (by omega) X3.out Y3.out).mono ?_; rintro e w4 ⟨rfl, hb4⟩
  have b4 := below_seq b3 hb4
  have pr4 := heap_later pr3 hb4
  have A4 := Lib.hid (A3.out.below hb4)
  have I4 := Lib.hid (I3.out.below hb4)
  have X4 := Lib.hid (X3.out.below hb4)
  have Y4 := Lib.hid (Y3.out.below hb4)
  clear cr30 cr31 cr32 lr3
  obtain ⟨cr40, cr41, cr42⟩ := cells3 pr4
  have lr4 := heap_lt pr4
  cases h : tok W0 T0 xs L
  · have hD0 : D = [] := by rw [← HD.out]; exact mkF_no (Or.inl h)
    subst hD0
    have hx0 : x = 0 := HX.out
    subst hx0
    have HOK := Lib.hid h; clear h
    go_wp2_with fail
    refine (sTilingOk_any _ _ _ _ _ xs _ _ _ L _ HM.out (by omega) HQ.out (by omega) A4.out I4.out).mono ?_; rintro e w5 ⟨rfl, hb5⟩
    rw [HOK.out]
    have b5 := below_seq b4 hb5
    have pr5 := heap_later pr4 hb5
    have A5 := Lib.hid (A4.out.below hb5)
    have I5 := Lib.hid (I4.out.below hb5)
    have X5 := Lib.hid (X4.out.below hb5)
    clear cr40 cr41 cr42 lr4
    obtain ⟨cr50, cr51, cr52⟩ := cells3 pr5
    have lr5 := heap_lt pr5
    go_wp2_with fail
    refine (alive_any _).mono ?_; rintro e w6 ⟨rfl, hb6⟩
    go_wp2
    go_ret
    exact ⟨rfl, below_seq b5 hb6⟩
  by_cases hf : V < 0 ∨ 27 < V
  · have hD0 : D = [] := by rw [← HD.out]; exact mkF_no (Or.inr (by unfold fromB; rw [decide_eq_false_iff_not]; omega))
    subst hD0
    have hx0 : x = 0 := HX.out
    subst hx0
    have HOK := Lib.hid h; clear h
    go_wp2_with fail
    refine (sTilingOk_any _ _ _ _ _ xs _ _ _ L _ HM.out (by omega) HQ.out (by omega) A4.out I4.out).mono ?_; rintro e w5 ⟨rfl, hb5⟩
    rw [HOK.out]
    have b5 := below_seq b4 hb5
    have pr5 := heap_later pr4 hb5
    have A5 := Lib.hid (A4.out.below hb5)
    have I5 := Lib.hid (I4.out.below hb5)
    have X5 := Lib.hid (X4.out.below hb5)
    clear cr40 cr41 cr42 lr4
    obtain ⟨cr50, cr51, cr52⟩ := cells3 pr5
    have lr5 := heap_lt pr5
    rcases hf with hf | hf
    · go_wp2_with fail
      refine (alive_any _).mono ?_; rintro e w6 ⟨rfl, hb6⟩
      go_wp2
      go_ret
      exact ⟨rfl, below_seq b5 hb6⟩
    · have hf0 : ¬ V < 0 := by omega
      go_wp2_with fail
      refine (alive_any _).mono ?_; rintro e w6 ⟨rfl, hb6⟩
      go_wp2
      go_ret
      exact ⟨rfl, below_seq b5 hb6⟩
  · have f0 : ¬ V < 0 := by omega
    have f1 : ¬ 27 < V := by omega
    have hDD : D = mkL W0 T0 L V.toNat L.length := by rw [← HD.out]; exact mkF_yes h (by unfold fromB; rw [decide_eq_true_eq]; omega)
    have HPV : Hid (pzv W0 T0 xs D = true) := by show _ = _; rw [hDD]; exact mk_valid h
    have HSV : Hid (solvedB W0 T0 xs D L = true) := by show _ = _; rw [hDD]; exact mk_solved h
    have HOK := Lib.hid h; clear h hf hDD
    go_wp2_with fail
    refine (sTilingOk_any _ _ _ _ _ xs _ _ _ L _ HM.out (by omega) HQ.out (by omega) A4.out I4.out).mono ?_; rintro e w5 ⟨rfl, hb5⟩
    rw [HOK.out]
    have b5 := below_seq b4 hb5
    have pr5 := heap_later pr4 hb5
    have A5 := Lib.hid (A4.out.below hb5)
    have I5 := Lib.hid (I4.out.below hb5)
    have X5 := Lib.hid (X4.out.below hb5)
    clear cr40 cr41 cr42 lr4
    obtain ⟨cr50, cr51, cr52⟩ := cells3 pr5
    have lr5 := heap_lt pr5
    go_wp2_with fail
    refine (iPuzzleValid_any _ _ _ _ _ xs _ _ _ D _ HM.out (by omega) HX.out (by omega) A5.out X5.out).mono ?_; rintro e w6 ⟨rfl, hb6⟩
    rw [HPV.out]
    have b6 := below_seq b5 hb6
    have pr6 := heap_later pr5 hb6
    have A6 := Lib.hid (A5.out.below hb6)
    have I6 := Lib.hid (I5.out.below hb6)
    have X6 := Lib.hid (X5.out.below hb6)
    clear cr50 cr51 cr52 lr5
    obtain ⟨cr60, cr61, cr62⟩ := cells3 pr6
    have lr6 := heap_lt pr6
    go_wp2_with fail
    refine (iSolvedOk_any _ _ _ _ _ xs _ _ _ D _ _ _ L _ HM.out (by omega) HX.out (by omega) HQ.out (by omega) A6.out X6.out I6.out).mono ?_; rintro e w7 ⟨rfl, hb7⟩
    rw [HSV.out]
    have b7 := below_seq b6 hb7
    have pr7 := heap_later pr6 hb7
    have A7 := Lib.hid (A6.out.below hb7)
    have I7 := Lib.hid (I6.out.below hb7)
    have X7 := Lib.hid (X6.out.below hb7)
    clear cr60 cr61 cr62 lr6
    obtain ⟨cr70, cr71, cr72⟩ := cells3 pr7
    have lr7 := heap_lt pr7
    go_wp2
    go_ret
    exact ⟨rfl, b7⟩

end Go.Proofs.Ythjocjiiihebbaa
