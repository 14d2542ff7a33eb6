/- The law FnDarkMany: its walk. -/
import Derived.Test.YtlgmnceicnhhnaaProm
import Derived.Test.YtlgmnceicnhhnaaFlipM
namespace Go.Proofs.Ytlgmnceicnhhnaa
open Go.RowKit
set_option linter.unusedVariables false
set_option maxRecDepth 100000
set_option linter.unusedSimpArgs false

set_option maxHeartbeats 4000000 in
theorem promDarkMany_walk (cb : Option Addr) (n cap : Nat) (zs : List Int) (w : World) (hn : n = zs.length) (hn' : n ≤ maxLen) (hcap : n ≤ cap) (hb : BytesAt w cb zs) :
    Calls Try.prog 6 #[.slice cb n cap] w fun e w' => e = .returned (.bool true) ∧ Below w.heap.size w w' := by
  have HN := Lib.hid hn; clear hn
  have HB := Lib.hid hb; clear hb
  by_cases hbig : 1048576 < n
  · unfold maxLen at hn'
    go_enter Try.func6, Try.ntmps6
    go_wp2
    go_ret
    exact ⟨rfl, Below.refl _ _⟩
  have hsm : n ≤ 1048576 := by omega
  clear hbig hn'
  go_enter Try.func6, Try.ntmps6
  go_wp2_with fail
  refine (drawDarkMany_any _ _ _ zs _ HN.out hsm hcap HB.out).mono ?_; rintro e w1 ⟨W0, T0, a, m, c, xs, rfl, hm, h36, hs, ho, b1⟩
  have HM := Lib.hid hm; clear hm
  have AX := Lib.hid (OwnsB.at ho); clear ho
  obtain ⟨s0, s1, s2, s3⟩ := hs
  go_wp2_with fail
  refine (iDarkMany_any _ _ _ _ _ xs _ HM.out (by omega) (AX.out.one _)).mono ?_; rintro e w2 ⟨rfl, hb2⟩
  have b2 := below_seq (below_seq b1 (below1 _ _)) hb2
  have p2 := heap_later (heap_new w1 _) hb2
  have A2 := Lib.hid ((AX.out.one (.cells #[.int .i64 W0, .int .i64 T0, .slice a m c] 25)).below hb2)
  obtain ⟨c0, c1, c2⟩ := cells3 p2
  obtain ⟨D, hD⟩ : ∃ D, dark W0 T0 xs = D := ⟨_, rfl⟩
  rw [hD]
  go_wp2_with fail
  refine (sDarkMany_any _ _ _ _ _ xs _ HM.out (by omega) A2.out).mono ?_; rintro e w3 ⟨rfl, hb3⟩
  have b3 := below_seq b2 hb3
  have p3 := heap_later p2 hb3
  have A3 := Lib.hid (A2.out.below hb3)
  clear c0 c1 c2
  obtain ⟨c0, c1, c2⟩ := cells3 p3
  rw [hD]
  have HD := Lib.hid hD; clear hD
  cases h : rv W0 T0 xs
  · have e : D = -1 := by rw [← HD.out]; unfold dark; rw [h]; rfl
    subst e
    clear h HD
    go_wp2_with fail
    refine (alive_any _).mono ?_; rintro e w4 ⟨rfl, hb4⟩
    go_wp2
    go_ret
    exact ⟨rfl, below_seq b3 hb4⟩
  · obtain ⟨Wn, Tn, rfl, rfl, hl⟩ := rv_nat h
    obtain ⟨v1, v2, v3, v4, v5, v6⟩ := rv_parts.1 h
    have hW : 0 < Wn := by omega
    have hmW : m = Wn * Tn := by rw [HM.out]; exact hl
    have HMW := Lib.hid hmW; clear hmW
    obtain ⟨Dn, hDn⟩ : ∃ k, k = dkN Wn xs (Wn * Tn) := ⟨_, rfl⟩
    have eD : D = Dn := by rw [← HD.out, hDn]; unfold dark; rw [h, if_pos rfl, hl]
    subst eD
    clear HD
    have hle : Dn ≤ 36 := by rw [hDn]; have := dkN_le Wn xs (Wn * Tn); have := HMW.out; omega
    obtain ⟨Xn, hXn⟩ : ∃ k, k = dkN Wn (flipped Wn Tn xs) (Wn * Tn) := ⟨_, rfl⟩
    have hXe : Hid (dark Wn Tn (flipped Wn Tn xs) = Xn) := by show dark _ _ _ = _; rw [hXn]; unfold dark; rw [rv_flipped h, if_pos rfl, flipped_len]
    have hle2 : Xn ≤ 36 := by rw [hXn]; have := dkN_le Wn (flipped Wn Tn xs) (Wn * Tn); have := HMW.out; omega
    obtain ⟨Cn, hCn⟩ : ∃ k, k = cnt xs := ⟨_, rfl⟩
    have hCe : Hid (many Wn Tn xs = Cn) := by show many _ _ _ = _; rw [hCn]; unfold many; rw [h, if_pos rfl]
    have hle3 : Cn ≤ 24 := by rw [hCn]; exact v6
    have hpar : (Wn % 2 = 0 ∧ Xn + Dn = Cn) ∨ (Wn % 2 = 1 ∧ Xn = Dn) := by
      rcases Nat.mod_two_eq_zero_or_one Wn with e | e
      · left; exact ⟨e, by rw [hXn, hDn, hCn]; exact dkN_flip_even hW v5 e⟩
      · right; exact ⟨e, by rw [hXn, hDn]; exact dkN_flip_odd hW v5 e⟩
    have H := Lib.hid h; clear h
    clear hDn hXn hCn hl v5
    go_wp2_with fail
    refine (iRegionFlip_yes Wn Tn _ _ _ xs _ HM.out (by omega) A3.out H.out HMW.out).mono ?_; rintro e w4 ⟨g4, rfl, ho4, hb4⟩
    have b4 := below_seq b3 hb4
    have p4 := heap_later p3 hb4
    have A4 := Lib.hid (A3.out.below hb4)
    have HF := Lib.hid ((flipped_len Wn Tn xs).symm)
    go_wp2_with fail
    refine (iDarkMany_any _ _ _ _ _ (flipped Wn Tn xs) _ (by rw [HMW.out]; exact HF.out) (by omega) (OwnsB.at ho4)).mono ?_; rintro e w5 ⟨rfl, hb5⟩
    have b5 := below_seq b4 hb5
    have p5 := heap_later p4 hb5
    have A5 := Lib.hid (A4.out.below hb5)
    rw [hXe.out]
    clear c0 c1 c2
    obtain ⟨c0, c1, c2⟩ := cells3 p5
    go_wp2_with fail
    refine (iCellsMany_any _ _ _ _ _ xs _ HM.out (by omega) A5.out).mono ?_; rintro e w6 ⟨rfl, hb6⟩
    have b6 := below_seq b5 hb6
    have p6 := heap_later p5 hb6
    rw [hCe.out]
    clear c0 c1 c2
    obtain ⟨c0, c1, c2⟩ := cells3 p6
    rcases hpar with ⟨e1, e2⟩ | ⟨e1, e2⟩
    · have q1 : (Wn : Int) % 2 = 0 := by omega
      have q2 : ((Wn : Int) % 2 == 0) = true := by simp; omega
      have q3 : ((Xn : Int) == (Cn : Int) - (Dn : Int)) = true := by simp; omega
      have q4 : (Xn : Int) = (Cn : Int) - (Dn : Int) := by omega
      clear e1 e2 q4
      go_wp2
      go_ret
      exact ⟨rfl, b6⟩
    · have q1 : (Wn : Int) % 2 = 1 := by omega
      have q2 : ((Wn : Int) % 2 == 0) = false := by simp; omega
      have q3 : ((Wn : Int) % 2 == 1) = true := by simp; omega
      subst e2
      clear e1
      go_wp2
      go_ret
      exact ⟨rfl, b6⟩

end Go.Proofs.Ytlgmnceicnhhnaa
