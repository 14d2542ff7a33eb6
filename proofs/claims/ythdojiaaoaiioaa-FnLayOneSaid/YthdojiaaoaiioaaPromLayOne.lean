/- The law FnLayOne: its walk. -/
import Derived.Test.YthdojiaaoaiioaaDrawL
import Derived.Test.YthdojiaaoaiioaaLaidP
import Derived.Test.YthdojiaaoaiioaaLayOne
import Derived.Test.YthdojiaaoaiioaaLaidN
namespace Go.Proofs.Ythdojiaaoaiioaa
open Go.RowKit
set_option linter.unusedVariables false
set_option maxRecDepth 100000
set_option linter.unusedSimpArgs false
/-- Lists of different lengths are told to be different. -/
theorem sameInts_len (a b : Option Addr) (n n' cap cap' : Nat) (w : World) (hne : n ≠ n') (h1 : n ≤ 1048576) (h2 : n' ≤ 1048576) :
    Calls Try.prog 13 #[.slice a n cap, .slice b n' cap'] w fun e w' => e = .returned (.bool false) ∧ Below w.heap.size w w' := by
  have hne' : ((n : Int) != n') = true := by simp; omega
  have hne2 : ¬ (n : Int) = n' := by omega
  go_enter Try.func13, Try.ntmps13
  go_wp2
  go_ret
  exact ⟨rfl, Below.refl _ _⟩

set_option maxHeartbeats 8000000 in
theorem promLayOne_walk (cb : Option Addr) (n cap : Nat) (zs : List Int) (w : World) (hn : n = zs.length) (hn' : n ≤ maxLen) (hcap : n ≤ cap) (hb : BytesAt w cb zs) :
    Calls Try.prog 5 #[.slice cb n cap] w fun e w' => e = .returned (.bool true) ∧ Below w.heap.size w w' := by
  have HN := Lib.hid hn; clear hn
  have HB := Lib.hid hb; clear hb
  by_cases hbig : 1048576 < n
  · unfold maxLen at hn'
    go_enter Try.func5, Try.ntmps5
    go_wp2
    go_ret
    exact ⟨rfl, Below.refl _ _⟩
  have hsm : n ≤ 1048576 := by omega
  clear hbig hn'
  go_enter Try.func5, Try.ntmps5
  go_wp2_with fail
  refine (drawLayOne_any _ _ _ zs _ HN.out hsm hcap HB.out).mono ?_; rintro e w1 ⟨W0, T0, a, m, c, xs, la, q, lcap, L, k0, way, rfl, hm, h36, hs, ho, hq, hq36, hi, hk0, b1⟩
  have HM := Lib.hid hm; clear hm
  have HQ := Lib.hid hq; clear hq
  have AX := Lib.hid (OwnsB.at ho); clear ho
  have IX := Lib.hid (OwnsI.at hi); clear hi
  obtain ⟨s0, s1, s2, s3⟩ := hs
  obtain ⟨R, hR⟩ : ∃ R, layF W0 T0 xs L k0 way = R := ⟨_, rfl⟩
  have hRl : R.1.length ≤ q := by rw [← hR, HQ.out]; exact layF_len _ _ _ _ _ _
  obtain ⟨X, ok⟩ := R
  simp only at hRl
  obtain ⟨x, hx⟩ : ∃ x, x = X.length := ⟨_, rfl⟩
  rw [← hx] at hRl
  have HX := Lib.hid hx; clear hx
  have HR := Lib.hid hR; clear hR
  go_wp2_with fail
  refine (iLayOne_ret _ _ _ _ _ xs _ _ _ L _ _ _ HM.out (by omega) HQ.out (by omega) (AX.out.one _) (IX.out.one _)).mono ?_; rintro e w2 ⟨a2, cap2, rfl, ho2, hb2⟩
  rw [HR.out] at ho2 ⊢
  simp only at ho2 ⊢
  rw [← HX.out] at ho2 ⊢
  have b2 := below_seq (below_seq b1 (below1 _ _)) hb2
  have p2 := heap_later (heap_new w1 (.cells #[.int .i64 W0, .int .i64 T0, .slice a m c] 25)) hb2
  have A2 := Lib.hid ((AX.out.one (.cells #[.int .i64 W0, .int .i64 T0, .slice a m c] 25)).below hb2)
  have I2 := Lib.hid ((IX.out.one (.cells #[.int .i64 W0, .int .i64 T0, .slice a m c] 25)).below hb2)
  have X2 := Lib.hid (OwnsI.at ho2)
  obtain ⟨c20, c21, c22⟩ := cells3 p2
  clear ho2
  go_wp2_with fail
  refine (sLayOne_ret _ _ _ _ _ xs _ _ _ L _ _ _ HM.out (by omega) HQ.out (by omega) A2.out I2.out).mono ?_; rintro e w3 ⟨a3, cap3, rfl, ho3, hb3⟩
  rw [HR.out] at ho3 ⊢
  simp only at ho3 ⊢
  rw [← HX.out] at ho3 ⊢
  have b3 := below_seq b2 hb3
  have p3 := heap_later p2 hb3
  have A3 := Lib.hid (A2.out.below hb3)
  have I3 := Lib.hid (I2.out.below hb3)
  have X3 := Lib.hid (X2.out.below hb3)
  have J3 := Lib.hid (OwnsI.at ho3)
  clear c20 c21 c22
  obtain ⟨c30, c31, c32⟩ := cells3 p3
  clear ho3
  have hbb : (ok != ok) = false := by simp
  go_wp2_with fail
  refine (sameInts_same _ _ _ _ _ X _ HX.out (by omega) X3.out J3.out).mono ?_; rintro e w4 ⟨rfl, hb4⟩
  have b4 := below_seq b3 hb4
  have p4 := heap_later p3 hb4
  have A4 := Lib.hid (A3.out.below hb4)
  have I4 := Lib.hid (I3.out.below hb4)
  have X4 := Lib.hid (X3.out.below hb4)
  have J4 := Lib.hid (J3.out.below hb4)
  clear c30 c31 c32
  obtain ⟨c40, c41, c42⟩ := cells3 p4
  cases h : lok W0 T0 xs L
  · have e : (X, ok) = ([], false) := by rw [← HR.out]; unfold layF; rw [h]; rfl
    simp only [Prod.mk.injEq] at e
    obtain ⟨rfl, rfl⟩ := e
    have hx0 : x = 0 := HX.out
    subst hx0
    have HLK := Lib.hid h; clear h
    by_cases hq0 : q = 0
    · subst hq0
      have hL : L = [] := List.eq_nil_of_length_eq_zero HQ.out.symm
      subst hL
      go_wp2_with fail
      refine (sameInts_same _ _ _ _ _ [] _ rfl (by simp) X4.out I4.out).mono ?_; rintro e w5 ⟨rfl, hb5⟩
      go_wp2_with fail
      refine (alive_any _).mono ?_; rintro e w6 ⟨rfl, hb6⟩
      go_wp2
      go_ret
      exact ⟨rfl, below_seq b4 (below_seq hb5 hb6)⟩
    · go_wp2_with fail
      refine (sameInts_len _ _ _ _ _ _ _ (fun e => hq0 e.symm) (by omega) (by omega)).mono ?_; rintro e w5 ⟨rfl, hb5⟩
      have p5 := heap_later p4 hb5
      have A5 := Lib.hid (A4.out.below hb5)
      have I5 := Lib.hid (I4.out.below hb5)
      clear c40 c41 c42
      obtain ⟨c50, c51, c52⟩ := cells3 p5
      go_wp2_with fail
      refine (iLaidOk_any _ _ _ _ _ xs _ _ _ L _ HM.out (by omega) HQ.out (by omega) A5.out I5.out).mono ?_; rintro e w6 ⟨rfl, hb6⟩
      rw [HLK.out]
      go_wp2_with fail
      refine (alive_any _).mono ?_; rintro e w7 ⟨rfl, hb7⟩
      go_wp2
      go_ret
      exact ⟨rfl, below_seq b4 (below_seq hb5 (below_seq hb6 hb7))⟩
  cases hc : canLay W0 T0 xs L k0 way
  · have e1 : (X, ok) = (L, false) := by rw [← HR.out]; unfold layF; rw [h, if_pos rfl, hc]; unfold laidL; rw [hc]; rfl
    simp only [Prod.mk.injEq] at e1
    obtain ⟨rfl, rfl⟩ := e1
    have hxq : x = q := by rw [HX.out, HQ.out]
    subst hxq
    clear h hc
    go_wp2_with fail
    refine (sameInts_same _ _ _ _ _ X _ HX.out (by omega) X4.out I4.out).mono ?_; rintro e w5 ⟨rfl, hb5⟩
    go_wp2_with fail
    refine (alive_any _).mono ?_; rintro e w6 ⟨rfl, hb6⟩
    go_wp2
    go_ret
    exact ⟨rfl, below_seq b4 (below_seq hb5 hb6)⟩
  · have e1 : (X, ok) = (laidL W0 T0 xs L k0 way, true) := by rw [← HR.out]; unfold layF; rw [h, if_pos rfl, hc]
    simp only [Prod.mk.injEq] at e1
    obtain ⟨hX, rfl⟩ := e1
    have hlx : lok W0 T0 xs X = true := by rw [hX]; exact lok_laid h hc
    have hll := lift_laid h hc
    have hmore := laid_more h hc
    rw [← hX] at hll hmore
    have HLF : Hid (liftF W0 T0 xs X k0 = (L, true)) := by show _ = _; unfold liftF; rw [hlx, if_pos rfl, hll.1, hll.2]
    have hxq : x = q := by rw [HX.out, HQ.out, hX, laidL_len]
    subst hxq
    have HLX := Lib.hid hlx; clear hlx
    have h2 := nz_twice h
    have hzq := nzN_le L L.length
    obtain ⟨N, hN⟩ : ∃ N, laidN W0 T0 xs L = N := ⟨_, rfl⟩
    rw [hN] at hmore h2
    have hN0 : 0 ≤ N := by omega
    have hN36 : N ≤ 36 := by have := HQ.out; omega
    have hwr : IntKind.i64.wrap (N + 1) = N + 1 := IntWalk.i64_in _ (by omega)
    have HNL := Lib.hid hN; clear hN
    have HNX := Lib.hid hmore; clear hmore
    have hNN : (N + 1 == N + 1) = true := by simp
    clear hll hX hc h h2 hzq
    go_wp2_with fail
    refine (iLiftOne_ret _ _ _ _ _ xs _ _ _ X _ _ HM.out (by omega) HX.out (by omega) A4.out X4.out).mono ?_; rintro e w5 ⟨a5, cap5, rfl, ho5, hb5⟩
    rw [HLF.out] at ho5 ⊢
    simp only at ho5 ⊢
    rw [← HQ.out] at ho5 ⊢
    have b5 := below_seq b4 hb5
    have p5 := heap_later p4 hb5
    have A5 := Lib.hid (A4.out.below hb5)
    have I5 := Lib.hid (I4.out.below hb5)
    have X5 := Lib.hid (X4.out.below hb5)
    have J5 := Lib.hid (J4.out.below hb5)
    have Y5 := Lib.hid (OwnsI.at ho5)
    clear c40 c41 c42
    obtain ⟨c50, c51, c52⟩ := cells3 p5
    clear ho5
    go_upto_region 11 with fail
    have PA : w5.drew.heap[w1.heap.size]? = some (.cells #[.int .i64 W0, .int .i64 T0, .slice a m c] 25 (0, 0)) := p5
    have AA : Hid (BoolsAt w5.drew a xs) := A5
    have IA : Hid (IntsAt w5.drew la L) := I5
    have XA : Hid (IntsAt w5.drew a2 X) := X5
    have YA : Hid (IntsAt w5.drew a5 L) := Y5
    have BA : Below w.heap.size w w5.drew := below_seq b5 (drew_below _)
    go_region_held3 (fun w' => w'.cell? ⟨w1.heap.size, 0, none⟩ = some (.int .i64 W0) ∧ w'.cell? ⟨w1.heap.size, 1, none⟩ = some (.int .i64 T0) ∧ w'.cell? ⟨w1.heap.size, 2, none⟩ = some (.slice a m c))
      (go_keep)
      (first
        | (go_at_call 17; refine (iLaidMany_any _ _ _ _ _ xs _ _ _ L _ HM.out (by omega) HQ.out (by omega) A8.out I8.out).mono ?_; rintro e w9 ⟨rfl, hb9⟩; rw [HNL.out]; have p9 := heap_later p8 hb9; obtain ⟨c90, c91, c92⟩ := cells3 p9)
        | (go_at_call 17; refine (iLaidMany_any _ _ _ _ _ xs _ _ _ X _ HM.out (by omega) HX.out (by omega) A7.out X7.out).mono ?_; rintro e w8 ⟨rfl, hb8⟩; rw [HNX.out]; have p8 := heap_later p7 hb8; have A8 := Lib.hid (A7.out.below hb8); have I8 := Lib.hid (I7.out.below hb8); obtain ⟨c80, c81, c82⟩ := cells3 p8)
        | (go_at_call 13; refine (sameInts_same _ _ _ _ _ L _ HQ.out (by omega) Y6.out I6.out).mono ?_; rintro e w7 ⟨rfl, hb7⟩; have p7 := heap_later p6 hb7; have A7 := Lib.hid (A6.out.below hb7); have X7 := Lib.hid (X6.out.below hb7); have I7 := Lib.hid (I6.out.below hb7); obtain ⟨c70, c71, c72⟩ := cells3 p7)
        | (go_at_call 28; refine (iLaidOk_any _ _ _ _ _ xs _ _ _ X _ HM.out (by omega) HX.out (by omega) AA.out XA.out).mono ?_; rintro e w6 ⟨rfl, hb6⟩; rw [HLX.out]; have p6 := heap_later PA hb6; have A6 := Lib.hid (AA.out.below hb6); have X6 := Lib.hid (XA.out.below hb6); have I6 := Lib.hid (IA.out.below hb6); have Y6 := Lib.hid (YA.out.below hb6); obtain ⟨c60, c61, c62⟩ := cells3 p6))
    go_wp2
    go_ret
    exact ⟨rfl, below_seq BA (below_seq hb6 (below_seq hb7 (below_seq hb8 hb9)))⟩

end Go.Proofs.Ythdojiaaoaiioaa
