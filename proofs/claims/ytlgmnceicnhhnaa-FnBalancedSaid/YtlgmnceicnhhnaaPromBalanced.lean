/- The law FnBalanced: its walk. -/
import Derived.Test.YtlgmnceicnhhnaaProm
import Derived.Test.YtlgmnceicnhhnaaFlipM
namespace Go.Proofs.Ytlgmnceicnhhnaa
open Go.RowKit
set_option linter.unusedVariables false
set_option maxRecDepth 100000
set_option linter.unusedSimpArgs false

set_option maxHeartbeats 4000000 in
theorem promBalanced_walk (cb : Option Addr) (n cap : Nat) (zs : List Int) (w : World) (hn : n = zs.length) (hn' : n ≤ maxLen) (hcap : n ≤ cap) (hb : BytesAt w cb zs) :
    Calls Try.prog 7 #[.slice cb n cap] w fun e w' => e = .returned (.bool true) ∧ Below w.heap.size w w' := by
  have HN := Lib.hid hn; clear hn
  have HB := Lib.hid hb; clear hb
  by_cases hbig : 1048576 < n
  · unfold maxLen at hn'
    go_enter Try.func7, Try.ntmps7
    go_wp2
    go_ret
    exact ⟨rfl, Below.refl _ _⟩
  have hsm : n ≤ 1048576 := by omega
  clear hbig hn'
  go_enter Try.func7, Try.ntmps7
  go_wp2_with fail
  refine (drawBalanced_any _ _ _ zs _ HN.out hsm hcap HB.out).mono ?_; rintro e w1 ⟨W0, T0, a, m, c, xs, rfl, hm, h36, hs, ho, b1⟩
  have HM := Lib.hid hm; clear hm
  have AX := Lib.hid (OwnsB.at ho); clear ho
  obtain ⟨s0, s1, s2, s3⟩ := hs
  go_wp2_with fail
  refine (iBalanced_any _ _ _ _ _ xs _ HM.out (by omega) (AX.out.one _)).mono ?_; rintro e w2 ⟨rfl, hb2⟩
  have b2 := below_seq (below_seq b1 (below1 _ _)) hb2
  have p2 := heap_later (heap_new w1 _) hb2
  have A2 := Lib.hid ((AX.out.one (.cells #[.int .i64 W0, .int .i64 T0, .slice a m c] 25)).below hb2)
  obtain ⟨c0, c1, c2⟩ := cells3 p2
  obtain ⟨D, hD⟩ : ∃ D, bal W0 T0 xs = D := ⟨_, rfl⟩
  rw [hD]
  go_wp2_with fail
  refine (sBalanced_any _ _ _ _ _ xs _ HM.out (by omega) A2.out).mono ?_; rintro e w3 ⟨rfl, hb3⟩
  have b3 := below_seq b2 hb3
  have p3 := heap_later p2 hb3
  have A3 := Lib.hid (A2.out.below hb3)
  clear c0 c1 c2
  obtain ⟨c0, c1, c2⟩ := cells3 p3
  rw [hD]
  have HD := Lib.hid hD; clear hD
  have hT1 : ∀ v, bal (turnF W0 T0 xs).1 (turnF W0 T0 xs).2.1 (turnF W0 T0 xs).2.2 = v → v = D := by
    rintro v rfl
    cases h : rv W0 T0 xs
    · unfold turnF; rw [h, ← HD.out]; unfold bal; rw [h]; rfl
    · obtain ⟨Wn, Tn, rfl, rfl, hl⟩ := rv_nat h
      unfold turnF; rw [h, if_pos rfl, ← HD.out]; simpa using bal_turned h
  have hF1 : ∀ v, bal (flipF W0 T0 xs).1 (flipF W0 T0 xs).2.1 (flipF W0 T0 xs).2.2 = v → v = D := by
    rintro v rfl
    cases h : rv W0 T0 xs
    · unfold flipF; rw [h, ← HD.out]; unfold bal; rw [h]; rfl
    · obtain ⟨Wn, Tn, rfl, rfl, hl⟩ := rv_nat h
      unfold flipF; rw [h, if_pos rfl, ← HD.out]; simpa using bal_flipped h
  have hTl : (turnF W0 T0 xs).2.2.length ≤ 36 := by rw [turnF_len]; split <;> (first | (rw [← HM.out]; exact h36) | omega)
  have hFl : (flipF W0 T0 xs).2.2.length ≤ 36 := by rw [flipF_len]; split <;> (first | (rw [← HM.out]; exact h36) | omega)
  have hct : D = true → ∃ k : Nat, many W0 T0 xs = ((2 * k : Nat) : Int) ∧ k ≤ 100 := by
    rintro rfl
    have hb := HD.out
    simp only [bal, Bool.and_eq_true, beq_iff_eq] at hb
    obtain ⟨h, h2⟩ := hb
    obtain ⟨Wn, Tn, rfl, rfl, hl⟩ := rv_nat h
    obtain ⟨v1, v2, v3, v4, v5, v6⟩ := rv_parts.1 h
    refine ⟨dkN Wn xs xs.length, ?_, ?_⟩
    · unfold many; rw [h, if_pos rfl, ← h2]; unfold dark; rw [h, if_pos rfl]; push_cast; rfl
    · have := dkN_le Wn xs xs.length; have := HM.out; omega
  have HT1 := Lib.hid hT1; clear hT1
  have HF1 := Lib.hid hF1; clear hF1
  have HTL := Lib.hid hTl; clear hTl
  have HFL := Lib.hid hFl; clear hFl
  have HCT := Lib.hid hct; clear hct
  go_wp2_with fail
  refine (iRegionTurn_ret _ _ _ _ _ xs _ HM.out (by omega) A3.out).mono ?_; rintro e w4 ⟨a4, k4, rfl, ho4, hb4⟩
  have b4 := below_seq b3 hb4
  have p4 := heap_later p3 hb4
  have A4 := Lib.hid (A3.out.below hb4)
  clear c0 c1 c2
  obtain ⟨c0, c1, c2⟩ := cells3 p4
  go_wp2_with fail
  refine (iBalanced_any _ _ _ _ _ (turnF W0 T0 xs).2.2 _ rfl (by have := HTL.out; omega) (OwnsB.at ho4)).mono ?_; rintro e w5 ⟨rfl, hb5⟩
  have b5 := below_seq b4 hb5
  have p5 := heap_later p4 hb5
  have A5 := Lib.hid (A4.out.below hb5)
  rw [HT1.out _ rfl]
  clear c0 c1 c2 ho4
  obtain ⟨c0, c1, c2⟩ := cells3 p5
  go_wp2_with fail
  refine (iRegionFlip_ret _ _ _ _ _ xs _ HM.out (by omega) A5.out).mono ?_; rintro e w6 ⟨a6, k6, rfl, ho6, hb6⟩
  have b6 := below_seq b5 hb6
  have p6 := heap_later p5 hb6
  have A6 := Lib.hid (A5.out.below hb6)
  clear c0 c1 c2
  obtain ⟨c0, c1, c2⟩ := cells3 p6
  go_wp2_with fail
  refine (iBalanced_any _ _ _ _ _ (flipF W0 T0 xs).2.2 _ rfl (by have := HFL.out; omega) (OwnsB.at ho6)).mono ?_; rintro e w7 ⟨rfl, hb7⟩
  have b7 := below_seq b6 hb7
  have p7 := heap_later p6 hb7
  have A7 := Lib.hid (A6.out.below hb7)
  rw [HF1.out _ rfl]
  clear c0 c1 c2 ho6
  obtain ⟨c0, c1, c2⟩ := cells3 p7
  cases D
  · go_wp2_with fail
    refine (alive_any _).mono ?_; rintro e w8 ⟨rfl, hb8⟩
    go_wp2
    go_ret
    exact ⟨rfl, below_seq b7 hb8⟩
  · obtain ⟨k, hk, hk2⟩ := HCT.out rfl
    have HK := Lib.hid hk; clear hk
    go_wp2_with fail
    refine (iCellsMany_any _ _ _ _ _ xs _ HM.out (by omega) A7.out).mono ?_; rintro e w8 ⟨rfl, hb8⟩
    have b8 := below_seq b7 hb8
    rw [HK.out]
    have q1 : ((2 * k : Nat) : Int) % 2 = 0 := by omega
    have q2 : (((2 * k : Nat) : Int) % 2 == 0) = true := by simp
    have q3 : (0 : Int) ≤ ((2 * k : Nat) : Int) := by omega
    generalize ((2 * k : Nat) : Int) = C at q1 q2 q3 ⊢
    go_wp2_with fail
    refine (alive_any _).mono ?_; rintro e w9 ⟨rfl, hb9⟩
    go_wp2
    go_ret
    exact ⟨rfl, below_seq b8 hb9⟩

end Go.Proofs.Ytlgmnceicnhhnaa
