/- The law FnFlipMay: its walk. -/
import Derived.Test.YtagbjhiagkkahaaDrawKMay
import Derived.Test.YtagbjhiagkkahaaFlipOne
namespace Go.Proofs.Ytagbjhiagkkahaa
open Go.RowKit
set_option linter.unusedVariables false
set_option maxRecDepth 100000
set_option linter.unusedSimpArgs false

/-- A flip may be done back. -/
theorem may_back {W T : Int} {xs : List Bool} {L : List Int} {c : Int} (h : lok W T xs L = true) (hm : mayB W T L c = true) : mayB W T (flipL W T L c) c = true := by
  obtain ⟨k, wn, rfl, hw, hs, hb, hB, hd⟩ := flip_at h hm
  have hsq : sqF (wn : Int) T c = true := by unfold mayB at hm; simp only [Bool.and_eq_true] at hm; exact hm.1.1
  have e1 : ((k : Int) + wn + 1).toNat = k + wn + 1 := by omega
  unfold mayB
  rw [hsq, hs, e1, Int.toNat_natCast]
  rcases hd with ⟨_, e⟩ | ⟨_, e⟩
  · have g1 : (flipL (wn : Int) T L c).getD k 0 = 2 := by rw [e]; simp only [List.getD_eq_getElem?_getD, List.getElem?_set, List.length_set]; simp [show ¬ k + wn + 1 = k by omega, show ¬ wn = 0 by omega, show k < L.length by omega]
    have g2 : (flipL (wn : Int) T L c).getD (k + wn + 1) 0 = 4 := by rw [e]; simp only [List.getD_eq_getElem?_getD, List.getElem?_set, List.length_set]; simp [hb]
    rw [g1, g2]; rfl
  · have g1 : (flipL (wn : Int) T L c).getD k 0 = 1 := by rw [e]; simp only [List.getD_eq_getElem?_getD, List.getElem?_set, List.length_set]; simp [show ¬ k + wn + 1 = k by omega, show ¬ wn = 0 by omega, show k < L.length by omega]
    have g2 : (flipL (wn : Int) T L c).getD (k + wn + 1) 0 = 3 := by rw [e]; simp only [List.getD_eq_getElem?_getD, List.getElem?_set, List.length_set]; simp [hb]
    rw [g1, g2]; rfl

set_option maxHeartbeats 8000000 in
theorem promFlipMay_walk (cb : Option Addr) (n cap : Nat) (zs : List Int) (w : World) (hn : n = zs.length) (hn' : n ≤ maxLen) (hcap : n ≤ cap) (hb : BytesAt w cb zs) :
    Calls Try.prog 3 #[.slice cb n cap] w fun e w' => e = .returned (.bool true) ∧ Below w.heap.size w w' := by
  have HN := Lib.hid hn; clear hn
  have HB := Lib.hid hb; clear hb
  by_cases hbig : 1048576 < n
  · unfold maxLen at hn'
    go_enter Try.func3, Try.ntmps3
    go_wp2
    go_ret
    exact ⟨rfl, Below.refl _ _⟩
  have hsm : n ≤ 1048576 := by omega
  clear hbig hn'
  go_enter Try.func3, Try.ntmps3
  go_wp2_with fail
  refine (drawFlipMay_any _ _ _ zs _ HN.out hsm hcap HB.out).mono ?_; rintro e w1 ⟨W0, T0, a, m, c, xs, la, q, lcap, L, k0, rfl, hm, h36, hs, ho, hq, hq36, hi, hk0, b1⟩
  have HM := Lib.hid hm; clear hm
  have HQ := Lib.hid hq; clear hq
  have AX := Lib.hid (OwnsB.at ho); clear ho
  have IX := Lib.hid (OwnsI.at hi); clear hi
  obtain ⟨R, hR⟩ : ∃ R, flpF W0 T0 xs L k0 = R := ⟨_, rfl⟩
  have hRl : R.1.length ≤ q := by rw [← hR, HQ.out]; exact flpF_len _ _ _ _ _
  have hR2 : fmayB W0 T0 xs L k0 = R.2 := by rw [← hR]; unfold fmayB flpF; cases lok W0 T0 xs L <;> rfl
  have hR3 : R.2 = true → fmayB W0 T0 xs R.1 k0 = true := by
    intro h
    rw [← hR2] at h
    unfold fmayB at h
    rw [Bool.and_eq_true] at h
    rw [← hR]; unfold flpF; rw [if_pos h.1]; unfold fmayB
    rw [lok_flip h.1, may_back h.1 h.2]; rfl
  obtain ⟨X, ok⟩ := R
  simp only at hRl hR2 hR3
  obtain ⟨x, hx⟩ : ∃ x, x = X.length := ⟨_, rfl⟩
  rw [← hx] at hRl
  have HX := Lib.hid hx; clear hx
  have HR := Lib.hid hR; clear hR
  have HR2 := Lib.hid hR2; clear hR2
  have HR3 := Lib.hid hR3; clear hR3
  go_wp2_with fail
  refine (iFlipMay_any _ _ _ _ _ xs _ _ _ L _ _ HM.out (by omega) HQ.out (by omega) (by omega) (AX.out.one _) (IX.out.one _)).mono ?_; rintro e w2 ⟨rfl, hb2⟩
  rw [HR2.out]
  have b2 := below_seq (below_seq b1 (below1 _ _)) hb2
  have p2 := heap_later (heap_new w1 (.cells #[.int .i64 W0, .int .i64 T0, .slice a m c] 25)) hb2
  have A2 := Lib.hid ((AX.out.one (.cells #[.int .i64 W0, .int .i64 T0, .slice a m c] 25)).below hb2)
  have I2 := Lib.hid ((IX.out.one (.cells #[.int .i64 W0, .int .i64 T0, .slice a m c] 25)).below hb2)
  obtain ⟨c20, c21, c22⟩ := cells3 p2
  go_wp2_with fail
  refine (sFlipMay_any _ _ _ _ _ xs _ _ _ L _ _ HM.out (by omega) HQ.out (by omega) A2.out I2.out).mono ?_; rintro e w3 ⟨rfl, hb3⟩
  rw [HR2.out]
  have b3 := below_seq b2 hb3
  have p3 := heap_later p2 hb3
  have A3 := Lib.hid (A2.out.below hb3)
  have I3 := Lib.hid (I2.out.below hb3)
  clear c20 c21 c22
  obtain ⟨c30, c31, c32⟩ := cells3 p3
  have hbb : (ok != ok) = false := by simp
  go_wp2_with fail
  refine (iFlipOne_ret _ _ _ _ _ xs _ _ _ L _ _ HM.out (by omega) HQ.out (by omega) (by omega) A3.out I3.out).mono ?_; rintro e w4 ⟨a4, cap4, rfl, ho4, hb4⟩
  rw [HR.out] at ho4 ⊢
  simp only at ho4 ⊢
  rw [← HX.out] at ho4 ⊢
  have b4 := below_seq b3 hb4
  have p4 := heap_later p3 hb4
  have A4 := Lib.hid (A3.out.below hb4)
  have X4 := Lib.hid (OwnsI.at ho4)
  clear c30 c31 c32 ho4
  obtain ⟨c40, c41, c42⟩ := cells3 p4
  cases ok
  · clear HR3
    go_wp2_with fail
    refine (alive_any _).mono ?_; rintro e w5 ⟨rfl, hb5⟩
    go_wp2
    go_ret
    exact ⟨rfl, below_seq b4 hb5⟩
  · go_wp2_with fail
    refine (iFlipMay_any _ _ _ _ _ xs _ _ _ X _ _ HM.out (by omega) HX.out (by omega) (by omega) A4.out X4.out).mono ?_; rintro e w5 ⟨rfl, hb5⟩
    rw [HR3.out (by trivial)]
    go_wp2_with fail
    refine (alive_any _).mono ?_; rintro e w6 ⟨rfl, hb6⟩
    go_wp2
    go_ret
    exact ⟨rfl, below_seq b4 (below_seq hb5 hb6)⟩

end Go.Proofs.Ytagbjhiagkkahaa
