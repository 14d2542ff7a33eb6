/- The law FnStepTo: its walk. -/
import Derived.Test.YtlgmnceicnhhnaaDrawSet
import Derived.Test.YtlgmnceicnhhnaaFlipM
import Derived.Test.YtlgmnceicnhhnaaStepT
namespace Go.Proofs.Ytlgmnceicnhhnaa
open Go.RowKit
set_option linter.unusedVariables false
set_option maxRecDepth 100000
set_option linter.unusedSimpArgs false

theorem step_ne' {W T k way : Int} (hW : 1 ≤ W) (h : 0 ≤ stepI W T k way) (hk : 0 ≤ k) : stepI W T k way ≠ k := by
  unfold stepI at h ⊢
  split
  · omega
  · split
    · omega
    · split
      · omega
      · split <;> omega
theorem step_back {W T k way : Int} (hW : 1 ≤ W) (hW6 : W ≤ 6) (hk : 0 ≤ k) (hk1 : k < W * T) (hway : 0 ≤ way ∧ way ≤ 5) (h : 0 ≤ stepI W T k way) : stepI W T (stepI W T k way) (backI way) = k := by
  have hok := stepI_edge (W := W) (T := T) (k := k) (way := way) (by omega)
  have hb := step_bd (W := W) (T := T) (k := k) (way := way) hW hk hk1
  simp only [okOf, decide_eq_true_eq] at hok
  have hw : way = 1 ∨ way = 2 ∨ way = 3 ∨ way = 4 := by omega
  have hWs : W = 1 ∨ W = 2 ∨ W = 3 ∨ W = 4 ∨ W = 5 ∨ W = 6 := by omega
  rcases hWs with rfl | rfl | rfl | rfl | rfl | rfl <;> rcases hw with rfl | rfl | rfl | rfl
  all_goals (simp only [stepI, backI] at h hb ⊢)
  all_goals (try simp at h hb ⊢)
  all_goals (split at h <;> first | omega | (simp_all; done) | (simp_all <;> omega))

set_option maxHeartbeats 4000000 in
theorem promStepTo_walk (cb : Option Addr) (n cap : Nat) (zs : List Int) (w : World) (hn : n = zs.length) (hn' : n ≤ maxLen) (hcap : n ≤ cap) (hb : BytesAt w cb zs) :
    Calls Try.prog 11 #[.slice cb n cap] w fun e w' => e = .returned (.bool true) ∧ Below w.heap.size w w' := by
  have HN := Lib.hid hn; clear hn
  have HB := Lib.hid hb; clear hb
  by_cases hbig : 1048576 < n
  · unfold maxLen at hn'
    go_enter Try.func11, Try.ntmps11
    go_wp2
    go_ret
    exact ⟨rfl, Below.refl _ _⟩
  have hsm : n ≤ 1048576 := by omega
  clear hbig hn'
  go_enter Try.func11, Try.ntmps11
  go_wp2_with fail
  refine (drawStepTo_any _ _ _ zs _ HN.out hsm hcap HB.out).mono ?_; rintro e w1 ⟨W0, T0, a, m, c, xs, x, y, rfl, hm, h36, hs, hxy, ho, b1⟩
  have HM := Lib.hid hm; clear hm
  have AX := Lib.hid (OwnsB.at ho); clear ho
  obtain ⟨s0, s1, s2, s3⟩ := hs
  obtain ⟨x0, x1, y0, y1⟩ := hxy
  go_wp2_with fail
  refine (iStepTo_ord _ _ _ _ _ _ _ xs _ HM.out (by omega) (AX.out.one _)).mono ?_; rintro e w2 ⟨rfl, hb2⟩
  have b2 := below_seq (below_seq b1 (below1 _ _)) hb2
  have p2 := heap_later (heap_new w1 _) hb2
  have A2 := Lib.hid ((AX.out.one (.cells #[.int .i64 W0, .int .i64 T0, .slice a m c] 25)).below hb2)
  obtain ⟨c0, c1, c2⟩ := cells3 p2
  obtain ⟨D, hD⟩ : ∃ D, stepTo W0 T0 xs x y = D := ⟨_, rfl⟩
  rw [hD]
  go_wp2_with fail
  refine (sStepTo_any _ _ _ _ _ _ _ xs _ HM.out (by omega) A2.out).mono ?_; rintro e w3 ⟨rfl, hb3⟩
  have b3 := below_seq b2 hb3
  have p3 := heap_later p2 hb3
  have A3 := Lib.hid (A2.out.below hb3)
  clear c0 c1 c2
  obtain ⟨c0, c1, c2⟩ := cells3 p3
  rw [hD]
  have HD := Lib.hid hD; clear hD
  by_cases hneg : D < 0
  · have e : D = -1 := by
      rw [← HD.out] at hneg ⊢
      unfold stepTo cellB at hneg ⊢
      split at hneg
      · rename_i hr
        obtain ⟨v1, v2, v3, v4, v5, _⟩ := rv_true hr
        rw [if_pos hr]
        split at hneg
        · rename_i hk
          rw [if_pos hk]
          rcases step_bd (W := W0) (T := T0) (k := x) (way := y) v1 hk.1 (by rw [← v5]; exact hk.2) with h | h
          · exact h
          · omega
        · rename_i hk; rw [if_neg hk]
      · rename_i hr; rw [if_neg hr]
    subst e
    clear HD hneg
    go_wp2_with fail
    refine (alive_any _).mono ?_; rintro e w4 ⟨rfl, hb4⟩
    go_wp2
    go_ret
    exact ⟨rfl, below_seq b3 hb4⟩
  · have hpos : 0 ≤ D := by omega
    have hr : rv W0 T0 xs = true := by
      cases h : rv W0 T0 xs
      · have := HD.out; unfold stepTo at this; rw [h] at this; simp at this; omega
      · rfl
    obtain ⟨v1, v2, v3, v4, v5, _⟩ := rv_true hr
    have hk : 0 ≤ x ∧ x < xs.length := by
      have := HD.out
      unfold stepTo cellB at this
      rw [if_pos hr] at this
      split at this
      · assumption
      · omega
    have hD : D = stepI W0 T0 x y := by have := HD.out; unfold stepTo cellB at this; rw [if_pos hr, if_pos hk] at this; exact this.symm
    have hkW : x < W0 * T0 := by rw [← v5]; exact hk.2
    have hbk := step_back v1 v2 hk.1 hkW ⟨y0, y1⟩ (by rw [← hD]; exact hpos)
    have hne := step_ne' (W := W0) (T := T0) (way := y) v1 (by rw [← hD]; exact hpos) hk.1
    have hlt : D < m := by
      have hmm : (m : Int) = W0 * T0 := by rw [HM.out]; exact v5
      rcases step_bd (W := W0) (T := T0) (k := x) (way := y) v1 hk.1 hkW with h | h <;> omega
    rw [← hD] at hbk hne
    have HBK : Hid (stepTo W0 T0 xs D (backI y) = x) := by
      show stepTo _ _ _ _ _ = _
      unfold stepTo cellB
      rw [if_pos hr, if_pos ⟨hpos, by rw [← HM.out]; exact hlt⟩, hbk]
    have hne' : (D != x) = true := by simpa using hne
    clear hr hD hkW hbk HD v5 hk hneg
    go_wp2_with fail
    refine (iStepTo_ord W0 T0 D (backI y) _ _ _ xs _ HM.out (by omega) A3.out).mono ?_; rintro e w4 ⟨rfl, hb4⟩
    have b4 := below_seq b3 hb4
    have p4 := heap_later p3 hb4
    rw [HBK.out]
    clear c0 c1 c2
    obtain ⟨c0, c1, c2⟩ := cells3 p4
    go_wp2
    go_ret
    exact ⟨rfl, b4⟩

end Go.Proofs.Ytlgmnceicnhhnaa
