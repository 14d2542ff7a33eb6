/- The law FnCornerMany: its walk. -/
import Derived.Test.YtgkkkonmiggohaaProm
import Derived.Test.YtgkkkonmiggohaaFlipM
import Derived.Test.YtgkkkonmiggohaaCorner
namespace Go.Proofs.Ytgkkkonmiggohaa
open Go.RowKit
set_option linter.unusedVariables false
set_option maxRecDepth 100000
set_option linter.unusedSimpArgs false
theorem drawCornerMany_any (cb : Option Addr) (n cap : Nat) (zs : List Int) (w : World) (hn : n = zs.length) (hn' : n ≤ 1048576) (hcap : n ≤ cap) (hb : BytesAt w cb zs) :
    Calls Try.prog 6 #[.slice cb n cap] w (DrawnX w) := by
  have HN := Lib.hid hn; clear hn
  have HB := Lib.hid hb; clear hb
  go_enter Try.func6, Try.ntmps6
  go_wp2_with fail
  refine (l20Open_any _ _ _ zs _ HN.out hn' hcap (HB.out.below (below1 _ _))).mono ?_; rintro e w1 ⟨rfl, r1, b1⟩
  have q1 := heap_later (heap_new w (.cells #[.int .i64 0, .int .i64 0, .slice none 0 0] 25)) b1
  have B1 := Lib.hid (below_seq (below1 w _) b1)
  have R1 : Hid (RD w1 (w.heap.size + 1) 0) := by show RD _ _ _; simpa using r1
  have l1 := heap_lt q1
  have l2 := R1.out.lt
  clear r1 b1
  go_wp2_with fail
  refine (l20Region_any (w.heap.size + 1) 0 6 _ (by omega) (by omega) (by omega) R1.out).mono ?_; rintro e w2 ⟨W, T, a, m, c, xs, rfl, hm, h36, hs, o2, r2, g2⟩
  have q2 := heap_grown q1 g2 (by simp)
  have B2 := Lib.hid (below_grown B1.out g2 (Nat.le_refl _) (fun k e => by cases e; omega))
  have O2 := Lib.hid o2
  have HM := Lib.hid hm
  clear o2 r2 g2 hm
  obtain ⟨d0, d1, d2⟩ := cells3 q2
  have f0 := free3 q2 0
  have f1 := free3 q2 1
  have f2 := free3 q2 2
  go_wp2
  refine bodyPost_ret (v := .agg #[.int .i64 W, .int .i64 T, .slice a m c]) (by simp [results, Try.results6, go_sem, d0, d1, d2]) rfl ⟨W, T, a, m, c, xs, rfl, HM.out, h36, hs, ?_, below_set3 B2.out (Nat.le_refl _) _ _ _⟩
  exact (O2.out.set3 (by omega) _ _ _).lower (by omega)

set_option maxHeartbeats 4000000 in
theorem promCornerMany_walk (cb : Option Addr) (n cap : Nat) (zs : List Int) (w : World) (hn : n = zs.length) (hn' : n ≤ maxLen) (hcap : n ≤ cap) (hb : BytesAt w cb zs) :
    Calls Try.prog 3 #[.slice cb n cap] w fun e w' => e = .returned (.bool true) ∧ Below w.heap.size w w' := by
  have HN := Lib.hid hn; clear hn
  have HB := Lib.hid hb; clear hb
  by_cases hbig : 1048576 < n
  · unfold maxLen at hn'
    go_enter Try.func3, Try.ntmps3
    go_wp2
    go_ret
    exact ⟨rfl, Below.refl _ _⟩
  have hsm : n ≤ 1048576 := by omega
  clear hbig hn'
  go_enter Try.func3, Try.ntmps3
  go_wp2_with fail
  refine (drawCornerMany_any _ _ _ zs _ HN.out hsm hcap HB.out).mono ?_; rintro e w1 ⟨W0, T0, a, m, c, xs, rfl, hm, h36, hs, ho, b1⟩
  have HM := Lib.hid hm; clear hm
  have AX := Lib.hid (OwnsB.at ho); clear ho
  obtain ⟨s0, s1, s2, s3⟩ := hs
  go_wp2_with fail
  refine (iCornerMany_any _ _ _ _ _ xs _ HM.out (by omega) (AX.out.one _)).mono ?_; rintro e w2 ⟨rfl, hb2⟩
  have b2 := below_seq (below_seq b1 (below1 _ _)) hb2
  have p2 := heap_later (heap_new w1 _) hb2
  have A2 := Lib.hid ((AX.out.one (.cells #[.int .i64 W0, .int .i64 T0, .slice a m c] 25)).below hb2)
  obtain ⟨c0, c1, c2⟩ := cells3 p2
  obtain ⟨D, hD⟩ : ∃ D, cornN W0 T0 xs = D := ⟨_, rfl⟩
  rw [hD]
  go_wp2_with fail
  refine (sCornerMany_any _ _ _ _ _ xs _ HM.out (by omega) A2.out).mono ?_; rintro e w3 ⟨rfl, hb3⟩
  have b3 := below_seq b2 hb3
  have p3 := heap_later p2 hb3
  have A3 := Lib.hid (A2.out.below hb3)
  clear c0 c1 c2
  obtain ⟨c0, c1, c2⟩ := cells3 p3
  rw [hD]
  have HD := Lib.hid hD; clear hD
  cases h : rv W0 T0 xs
  · have e : D = -1 := by rw [← HD.out]; unfold cornN; rw [h]; rfl
    subst e
    have H := Lib.hid h; clear h HD
    go_wp2_with fail
    refine (iRegionValid_any _ _ _ _ _ xs _ HM.out (by omega) A3.out).mono ?_; rintro e w4 ⟨rfl, hb4⟩
    rw [H.out]
    have b4 := below_seq b3 hb4
    go_wp2_with fail
    refine (alive_any _).mono ?_; rintro e w5 ⟨rfl, hb5⟩
    go_wp2
    go_ret
    exact ⟨rfl, below_seq b4 hb5⟩
  · obtain ⟨Wn, Tn, rfl, rfl, hl⟩ := rv_nat h
    obtain ⟨v1, v2, v3, v4, v5, v6⟩ := rv_parts.1 h
    have hmW : m = Wn * Tn := by rw [HM.out]; exact hl
    have eD : D = ((Wn : Int) + 1) * ((Tn : Int) + 1) := by rw [← HD.out]; unfold cornN; rw [h, if_pos rfl]
    have hcb := corn_bd (W := Wn) (T := Tn) (by omega) (by omega) (by omega) (by omega)
    rw [← eD] at hcb
    have hsum : D = (m : Int) + Wn + Tn + 1 := by
      rw [eD, Int.add_mul, Int.mul_add, Int.mul_add]
      have : (m : Int) = (Wn : Int) * Tn := by rw [hmW]; simp
      omega
    have eT : Hid (cornN Tn Wn (turned Wn Tn xs) = D) := by
      show _ = _
      unfold cornN; rw [rv_turned h, if_pos rfl, eD, Int.mul_comm]
    have m36 : m ≤ 36 := h36
    have HMW := Lib.hid hmW; clear hmW
    have H := Lib.hid h; clear h
    clear eD HD hl v5
    go_wp2_with fail
    refine (iRegionTurn_yes Wn Tn _ _ _ xs _ HM.out (by omega) A3.out H.out HMW.out).mono ?_; rintro e w4 ⟨g4, rfl, ho4, hb4⟩
    have b4 := below_seq b3 hb4
    have p4 := heap_later p3 hb4
    have HT := Lib.hid ((turned_len Wn Tn xs).symm)
    have O4 := Lib.hid (OwnsB.at ho4)
    clear ho4
    go_wp2_with fail
    refine (iCornerMany_any _ _ _ _ _ (turned Wn Tn xs) _ (by rw [HMW.out]; first | exact HT.out | (rw [Nat.mul_comm]; exact HT.out)) (by omega) O4.out).mono ?_; rintro e w5 ⟨rfl, hb5⟩
    have b5 := below_seq b4 hb5
    have p5 := heap_later p4 hb5
    rw [eT.out]
    clear c0 c1 c2
    obtain ⟨c0, c1, c2⟩ := cells3 p5
    subst hsum
    clear eT
    go_wp2
    go_ret
    exact ⟨rfl, b5⟩
end Go.Proofs.Ytgkkkonmiggohaa
