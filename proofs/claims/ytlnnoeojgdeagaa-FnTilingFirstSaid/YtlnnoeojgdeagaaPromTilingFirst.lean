/- The law FnTilingFirst: its walk. -/
import Derived.Test.YtlnnoeojgdeagaaDrawL2
import Derived.Test.YtlnnoeojgdeagaaCompI
import Derived.Test.YtlnnoeojgdeagaaFirstS
import Derived.Test.YtlnnoeojgdeagaaSame
namespace Go.Proofs.Ytlnnoeojgdeagaa
open Go.RowKit
set_option linter.unusedVariables false
set_option maxRecDepth 100000
set_option linter.unusedSimpArgs false

set_option maxHeartbeats 4000000 in
theorem promTilingFirst_walk (cb : Option Addr) (n cap : Nat) (zs : List Int) (w : World) (hn : n = zs.length) (hn' : n ≤ maxLen) (hcap : n ≤ cap) (hb : BytesAt w cb zs) :
    Calls Try.prog 9 #[.slice cb n cap] w fun e w' => e = .returned (.bool true) ∧ Below w.heap.size w w' := by
  have HN := Lib.hid hn; clear hn
  have HB := Lib.hid hb; clear hb
  by_cases hbig : 1048576 < n
  · unfold maxLen at hn'
    go_enter Try.func9, Try.ntmps9
    go_wp2
    go_ret
    exact ⟨rfl, Below.refl _ _⟩
  have hsm : n ≤ 1048576 := by omega
  clear hbig hn'
  go_enter Try.func9, Try.ntmps9
  go_wp2_with fail
  refine (drawTilingFirst_any _ _ _ zs _ HN.out hsm hcap HB.out).mono ?_; rintro e w1 ⟨W0, T0, a, m, c, xs, rfl, hm, h36, hs, ho, b1⟩
  have HM := Lib.hid hm; clear hm
  have A1 := Lib.hid (OwnsB.at ho); clear ho
  obtain ⟨s0, s1, s2, s3⟩ := hs
  obtain ⟨ALL, hALL⟩ : ∃ ALL, ALL = allF W0 T0 xs := ⟨_, rfl⟩
  obtain ⟨z, hz⟩ : ∃ z, z = ALL.length := ⟨_, rfl⟩
  have hz4 : z ≤ 4096 := by rw [hz, hALL]; exact allF_count _ _ _
  have HCOL : Hid (∀ i, i < ALL.length → (ALL.getD i []).length ≤ 1048576) := by rw [hALL]; exact allF_col _ _ _
  have HALL := Lib.hid hALL; clear hALL
  have HZ := Lib.hid hz; clear hz
  have hfh : firstF W0 T0 xs = headF ALL := by
    rw [HALL.out]
    unfold firstF compF allF
    rw [lok_bareL]
    cases h : rv W0 T0 xs
    · rfl
    · rw [if_pos rfl, if_pos rfl]; exact compL_head _ _ (by rw [lok_bareL]; exact h)
  obtain ⟨F, hF⟩ : ∃ F, firstF W0 T0 xs = F := ⟨_, rfl⟩
  rw [hF] at hfh
  obtain ⟨X, ok⟩ := F
  obtain ⟨x, hx⟩ : ∃ x, x = X.length := ⟨_, rfl⟩
  have hxq : x ≤ 36 := by have := firstF_len W0 T0 xs; rw [hF] at this; simp only at this; rw [← hx, ← HM.out] at this; omega
  have HF := Lib.hid hF; clear hF
  have HX := Lib.hid hx; clear hx
  have HFH := Lib.hid hfh; clear hfh
  have hbb : (ok != ok) = false := by simp
  go_wp2_with fail
  refine (iTilingFirst_ret _ _ _ _ _ xs _ HM.out (by omega) (A1.out.one _)).mono ?_; rintro e w2 ⟨a2, cap2, rfl, ho2, hb2⟩
  rw [HF.out] at ho2 ⊢
  simp only at ho2 ⊢
  rw [← HX.out] at ho2 ⊢
  have b2 := below_seq (below_seq b1 (below1 _ _)) hb2
  have pr2 := heap_later (heap_new w1 (.cells #[.int .i64 W0, .int .i64 T0, .slice a m c] 28)) hb2
  have A2 := Lib.hid ((A1.out.one (.cells #[.int .i64 W0, .int .i64 T0, .slice a m c] 28)).below hb2)
  have X2 := Lib.hid (OwnsI.at ho2)
  obtain ⟨cr20, cr21, cr22⟩ := cells3 pr2
  have lr2 := heap_lt pr2
  clear ho2
  go_wp2_with fail
  refine (sTilingFirst_ret _ _ _ _ _ xs _ HM.out (by omega) A2.out).mono ?_; rintro e w3 ⟨a3, cap3, rfl, ho3, hb3⟩
  rw [HF.out] at ho3 ⊢
  simp only at ho3 ⊢
  rw [← HX.out] at ho3 ⊢
  have b3 := below_seq b2 hb3
  have pr3 := heap_later pr2 hb3
  have A3 := Lib.hid (A2.out.below hb3)
  have X3 := Lib.hid (X2.out.below hb3)
  have Y3 := Lib.hid (OwnsI.at ho3)
  clear cr20 cr21 cr22 lr2
  obtain ⟨cr30, cr31, cr32⟩ := cells3 pr3
  have lr3 := heap_lt pr3
  clear ho3
  go_wp2_with fail
  refine (sameInts_same _ _ _ _ _ X _ HX.out (by omega) X3.out Y3.out).mono ?_; rintro e w4 ⟨rfl, hb4⟩
  have b4 := below_seq b3 hb4
  have pr4 := heap_later pr3 hb4
  have A4 := Lib.hid (A3.out.below hb4)
  have X4 := Lib.hid (X3.out.below hb4)
  have Y4 := Lib.hid (Y3.out.below hb4)
  clear cr30 cr31 cr32 lr3
  obtain ⟨cr40, cr41, cr42⟩ := cells3 pr4
  have lr4 := heap_lt pr4
  go_wp2_with fail
  refine (iTilingsAll_ret _ _ _ _ _ xs _ HM.out (by omega) A4.out).mono ?_; rintro e w5 ⟨a5, cap5, rfl, ho5, hb5⟩
  rw [← HALL.out] at ho5 ⊢
  rw [← HZ.out] at ho5 ⊢
  have b5 := below_seq b4 hb5
  have pr5 := heap_later pr4 hb5
  have A5 := Lib.hid (A4.out.below hb5)
  have X5 := Lib.hid (X4.out.below hb5)
  have S5 := Lib.hid (OwnsSS.at ho5)
  clear cr40 cr41 cr42 lr4
  obtain ⟨cr50, cr51, cr52⟩ := cells3 pr5
  have lr5 := heap_lt pr5
  clear ho5
  cases hALLc : ALL with
  | nil =>
    have e := HFH.out
    rw [hALLc] at e
    simp only [headF, Prod.mk.injEq] at e
    obtain ⟨rfl, rfl⟩ := e
    have hz0 : z = 0 := by rw [HZ.out, hALLc]; rfl
    have hx0 : x = 0 := HX.out
    subst hz0
    subst hx0
    clear hALLc
    go_wp2_with fail
    refine (alive_any _).mono ?_; rintro e w6 ⟨rfl, hb6⟩
    go_wp2
    go_ret
    exact ⟨rfl, below_seq b5 hb6⟩
  | cons M R =>
    have e := HFH.out
    rw [hALLc] at e
    simp only [headF, Prod.mk.injEq] at e
    obtain ⟨rfl, rfl⟩ := e
    have hz0 : z = R.length + 1 := by rw [HZ.out, hALLc]; rfl
    obtain ⟨b6, o6, a6, cap6, rfl, hc6, hx6⟩ := S5.out 0 (by rw [← HZ.out]; omega)
    have eM : ALL.getD 0 [] = X := by rw [hALLc]; rfl
    rw [eM, ← HX.out] at hc6
    rw [eM] at hx6
    have HX6 := Lib.hid hx6; clear hx6
    have hz1 : (0 : Int) < z := by omega
    have hc7 : w5.cell? ⟨b6, o6, none⟩ = some (.slice a6 x cap6) := hc6
    clear hALLc hz0 eM hc6
    go_wp2_with fail
    refine (sameInts_same _ _ _ _ _ X _ HX.out (by omega) X5.out HX6.out).mono ?_; rintro e w6 ⟨rfl, hb6⟩
    go_wp2_with fail
    refine (alive_any _).mono ?_; rintro e w7 ⟨rfl, hb7⟩
    go_wp2
    go_ret
    exact ⟨rfl, below_seq b5 (below_seq hb6 hb7)⟩

end Go.Proofs.Ytlnnoeojgdeagaa
