/- The law FnTilingOf: its walk. -/
import Derived.Test.YtdmnfafmbdmjmaaDrawTo
import Derived.Test.YtdmnfafmbdmjmaaProm
import Derived.Test.YtdmnfafmbdmjmaaTilP
import Derived.Test.YtdmnfafmbdmjmaaTilS
import Derived.Test.YtdmnfafmbdmjmaaRank
import Derived.Test.YtdmnfafmbdmjmaaDpC
import Derived.Test.YtdmnfafmbdmjmaaAllI
import Derived.Test.YtdmnfafmbdmjmaaSSL
namespace Go.Proofs.Ytdmnfafmbdmjmaa
open Go.RowKit
set_option linter.unusedVariables false
set_option maxRecDepth 100000
set_option linter.unusedSimpArgs false

set_option maxHeartbeats 4000000 in
theorem promTilingOf_walk (cb : Option Addr) (n cap : Nat) (zs : List Int) (w : World) (hn : n = zs.length) (hn' : n ≤ maxLen) (hcap : n ≤ cap) (hb : BytesAt w cb zs) :
    Calls Try.prog 6 #[.slice cb n cap] w fun e w' => e = .returned (.bool true) ∧ Below w.heap.size w w' := by
  have HN := Lib.hid hn; clear hn
  have HB := Lib.hid hb; clear hb
  by_cases hbig : 1048576 < n
  · unfold maxLen at hn'
    go_enter Try.func6, Try.ntmps6
    go_wp2
    go_ret
    exact ⟨rfl, Below.refl _ _⟩
  have hsm : n ≤ 1048576 := by omega
  clear hbig hn'
  go_enter Try.func6, Try.ntmps6
  go_wp2_with fail
  refine (drawTilingOf_any _ _ _ zs _ HN.out hsm hcap HB.out).mono ?_; rintro e w1 ⟨W0, T0, a, m, c, xs, V, rfl, hm, h36, hs, ho, b1⟩
  have HM := Lib.hid hm; clear hm
  have A1 := Lib.hid (OwnsB.at ho); clear ho
  obtain ⟨s0, s1, s2, s3⟩ := hs
  obtain ⟨C, hC⟩ : ∃ C, tilOf W0 T0 xs V = C := ⟨_, rfl⟩
  obtain ⟨X, ok⟩ := C
  obtain ⟨x, hx⟩ : ∃ x, x = X.length := ⟨_, rfl⟩
  have hxq : x ≤ m := by have := tilOf_len W0 T0 xs V; rw [hC] at this; simp only at this; rw [← hx, ← HM.out] at this; exact this
  have HC := Lib.hid hC; clear hC
  have HX := Lib.hid hx; clear hx
  have hbb : (ok != ok) = false := by simp
  go_wp2_with fail
  refine (iTilingOf_ret _ _ _ _ _ xs V _ HM.out (by omega) (A1.out.one _)).mono ?_; rintro e w2 ⟨a2, cap2, rfl, ho2, hb2⟩
  rw [HC.out] at ho2 ⊢
  simp only at ho2 ⊢
  rw [← HX.out] at ho2 ⊢
  have b2 := below_seq (below_seq b1 (below1 _ _)) hb2
  have pr2 := heap_later (heap_new w1 (.cells #[.int .i64 W0, .int .i64 T0, .slice a m c] 25)) hb2
  have A2 := Lib.hid ((A1.out.one (.cells #[.int .i64 W0, .int .i64 T0, .slice a m c] 25)).below hb2)
  have X2 := Lib.hid (OwnsI.at ho2)
  obtain ⟨cr20, cr21, cr22⟩ := cells3 pr2
  have lr2 := heap_lt pr2
  clear ho2
  go_wp2_with fail
  refine (sTilingOf_ret _ _ _ _ _ xs V _ HM.out (by omega) A2.out).mono ?_; rintro e w3 ⟨a3, cap3, rfl, ho3, hb3⟩
  rw [HC.out] at ho3 ⊢
  simp only at ho3 ⊢
  rw [← HX.out] at ho3 ⊢
  have b3 := below_seq b2 hb3
  have pr3 := heap_later pr2 hb3
  have A3 := Lib.hid (A2.out.below hb3)
  have X3 := Lib.hid (X2.out.below hb3)
  have Y3 := Lib.hid (OwnsI.at ho3)
  clear cr20 cr21 cr22 lr2
  obtain ⟨cr30, cr31, cr32⟩ := cells3 pr3
  have lr3 := heap_lt pr3
  clear ho3
  go_wp2_with fail
  refine (sameInts_same _ _ _ _ _ X _ HX.out (by omega) X3.out Y3.out).mono ?_; rintro e w4 ⟨rfl, hb4⟩
  have b4 := below_seq b3 hb4
  have pr4 := heap_later pr3 hb4
  have A4 := Lib.hid (A3.out.below hb4)
  have X4 := Lib.hid (X3.out.below hb4)
  have Y4 := Lib.hid (Y3.out.below hb4)
  clear cr30 cr31 cr32 lr3
  obtain ⟨cr40, cr41, cr42⟩ := cells3 pr4
  have lr4 := heap_lt pr4
  cases ok
  · have hcond : ¬ (rv W0 T0 xs = true ∧ 0 ≤ V ∧ V < dpT W0 T0 xs) := fun hc => by
      have e := HC.out
      unfold tilOf at e
      rw [if_pos hc] at e
      injection e with _ e2
      cases e2
    have hX0 : X = [] := by
      have e := HC.out
      unfold tilOf at e
      rw [if_neg hcond] at e
      injection e with e1 _
      exact e1.symm
    have hx0 : x = 0 := by rw [HX.out, hX0]; rfl
    obtain ⟨D, hD⟩ : ∃ D, tilT W0 T0 xs = D := ⟨_, rfl⟩
    have hge : ¬ V < 0 → D ≤ V := fun hv => by
      rw [← hD]
      unfold tilT
      split
      · rename_i h
        by_cases hl : V < dpT W0 T0 xs
        · exact absurd ⟨h, by omega, hl⟩ hcond
        · omega
      · omega
    have HD := Lib.hid hD; clear hD
    subst hx0
    clear hcond hX0
    by_cases hv : V < 0
    · clear hge
      go_wp2_with fail
      refine (alive_any _).mono ?_; rintro e w6 ⟨rfl, hb6⟩
      go_wp2
      go_ret
      exact ⟨rfl, below_seq b4 hb6⟩
    · have hDV := hge hv
      clear hge
      go_wp2_with fail
      refine (iTilingsMany_any _ _ _ _ _ xs _ HM.out (by omega) A4.out).mono ?_; rintro e w5 ⟨rfl, hb5⟩
      rw [HD.out]
      have b5 := below_seq b4 hb5
      have pr5 := heap_later pr4 hb5
      have A5 := Lib.hid (A4.out.below hb5)
      have X5 := Lib.hid (X4.out.below hb5)
      clear cr40 cr41 cr42 lr4
      obtain ⟨cr50, cr51, cr52⟩ := cells3 pr5
      have lr5 := heap_lt pr5
      go_wp2_with fail
      refine (alive_any _).mono ?_; rintro e w6 ⟨rfl, hb6⟩
      go_wp2
      go_ret
      exact ⟨rfl, below_seq b5 hb6⟩
  · have hcond : rv W0 T0 xs = true ∧ 0 ≤ V ∧ V < dpT W0 T0 xs := by
      have e := HC.out
      unfold tilOf at e
      by_cases hc : rv W0 T0 xs = true ∧ 0 ≤ V ∧ V < dpT W0 T0 xs
      · exact hc
      · rw [if_neg hc] at e
        injection e with _ e2
        cases e2
    obtain ⟨hrv, h0, hlt⟩ := hcond
    obtain ⟨r, rfl⟩ := Int.eq_ofNat_of_zero_le h0
    have hr : r < dpT W0 T0 xs := by omega
    have hXr : X = (allF W0 T0 xs).getD r [] := by
      have e := HC.out
      rw [til_at hrv hr] at e
      injection e with e1 _
      exact e1.symm
    have HRK : Hid (rankF W0 T0 xs X = r) := by show _ = _; rw [hXr]; exact (rank_til hrv hr).2
    obtain ⟨ALL, hALL⟩ : ∃ ALL, ALL = allF W0 T0 xs := ⟨_, rfl⟩
    obtain ⟨z, hz⟩ : ∃ z, z = ALL.length := ⟨_, rfl⟩
    have hz4 : z ≤ 4096 := by rw [hz, hALL]; exact allF_count _ _ _
    have hrz : r < z := by rw [hz, hALL, allF_dp hrv]; exact hr
    rw [← hALL] at hXr
    have HALL := Lib.hid hALL; clear hALL
    have HZ := Lib.hid hz; clear hz
    have HXR := Lib.hid hXr; clear hXr
    clear hrv h0 hlt hr
    have i1 : (r : Int) < z := by omega
    have i0 : (0 : Int) ≤ r := by omega
    have i2 : ((r : Int) == r) = true := by simp
    go_wp2_with fail
    refine (iTilingsAll_ret _ _ _ _ _ xs _ HM.out (by omega) A4.out).mono ?_; rintro e w5 ⟨a5, cap5, rfl, ho5, hb5⟩
    rw [← HALL.out] at ho5 ⊢
    rw [← HZ.out] at ho5 ⊢
    have b5 := below_seq b4 hb5
    have pr5 := heap_later pr4 hb5
    have A5 := Lib.hid (A4.out.below hb5)
    have X5 := Lib.hid (X4.out.below hb5)
    have S5 := Lib.hid (OwnsSS.at ho5)
    clear cr40 cr41 cr42 lr4
    obtain ⟨cr50, cr51, cr52⟩ := cells3 pr5
    have lr5 := heap_lt pr5
    clear ho5
    obtain ⟨b6, o6, a6, cap6, rfl, hc6, hx6⟩ := S5.out r (by rw [← HZ.out]; exact hrz)
    rw [← HXR.out, ← HX.out] at hc6
    rw [← HXR.out] at hx6
    have HX6 := Lib.hid hx6; clear hx6
    go_wp2_with fail
    refine (sameInts_same _ _ _ _ _ X _ HX.out (by omega) HX6.out X5.out).mono ?_; rintro e w6 ⟨rfl, hb6⟩
    have b6 := below_seq b5 hb6
    have pr6 := heap_later pr5 hb6
    have A6 := Lib.hid (A5.out.below hb6)
    have X6 := Lib.hid (X5.out.below hb6)
    have S6 := Lib.hid (S5.out.below hb6)
    clear cr50 cr51 cr52 lr5
    obtain ⟨cr60, cr61, cr62⟩ := cells3 pr6
    have lr6 := heap_lt pr6
    go_wp2_with fail
    refine (iRankOf_any _ _ _ _ _ xs _ _ _ X _ HM.out (by omega) HX.out (by omega) A6.out X6.out).mono ?_; rintro e w7 ⟨rfl, hb7⟩
    rw [HRK.out]
    have b7 := below_seq b6 hb7
    have pr7 := heap_later pr6 hb7
    have A7 := Lib.hid (A6.out.below hb7)
    have X7 := Lib.hid (X6.out.below hb7)
    have S7 := Lib.hid (S6.out.below hb7)
    clear cr60 cr61 cr62 lr6
    obtain ⟨cr70, cr71, cr72⟩ := cells3 pr7
    have lr7 := heap_lt pr7
    go_wp2
    go_ret
    exact ⟨rfl, b7⟩

end Go.Proofs.Ytdmnfafmbdmjmaa
