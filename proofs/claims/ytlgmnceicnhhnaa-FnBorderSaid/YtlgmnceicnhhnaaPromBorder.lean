/- The law FnBorder: its walk. -/
import Derived.Test.YtlgmnceicnhhnaaProm
import Derived.Test.YtlgmnceicnhhnaaBordM
import Derived.Test.YtlgmnceicnhhnaaTurnRet
namespace Go.Proofs.Ytlgmnceicnhhnaa
open Go.RowKit
set_option linter.unusedVariables false
set_option maxRecDepth 100000
set_option linter.unusedSimpArgs false

set_option maxHeartbeats 4000000 in
theorem promBorder_walk (cb : Option Addr) (n cap : Nat) (zs : List Int) (w : World) (hn : n = zs.length) (hn' : n ≤ maxLen) (hcap : n ≤ cap) (hb : BytesAt w cb zs) :
    Calls Try.prog 14 #[.slice cb n cap] w fun e w' => e = .returned (.bool true) ∧ Below w.heap.size w w' := by
  have HN := Lib.hid hn; clear hn
  have HB := Lib.hid hb; clear hb
  by_cases hbig : 1048576 < n
  · unfold maxLen at hn'
    go_enter Try.func14, Try.ntmps14
    go_wp2
    go_ret
    exact ⟨rfl, Below.refl _ _⟩
  have hsm : n ≤ 1048576 := by omega
  clear hbig hn'
  go_enter Try.func14, Try.ntmps14
  go_wp2_with fail
  refine (drawBorder_any _ _ _ zs _ HN.out hsm hcap HB.out).mono ?_; rintro e w1 ⟨W, T, a, m, c, xs, rfl, hm, h36, hs, ho, b1⟩
  have HM := Lib.hid hm; clear hm
  have AX := Lib.hid (OwnsB.at ho); clear ho
  have hm1 : m ≤ 1048576 := by omega
  clear hs
  cases h : rv W T xs
  · have EB : Hid (bord W T xs = -1) := by show bord _ _ _ = _; unfold bord; rw [h]; rfl
    go_wp2_with fail
    refine (iBorder_any _ _ _ _ _ xs _ HM.out hm1 (AX.out.one _)).mono ?_; rintro e w2 ⟨rfl, hb2⟩
    rw [EB.out]
    have b2 := below_seq (below_seq b1 (below1 _ _)) hb2
    have p2 := heap_later (heap_new w1 _) hb2
    have A2 := Lib.hid ((AX.out.one (.cells #[.int .i64 W, .int .i64 T, .slice a m c] 25)).below hb2)
    obtain ⟨c0, c1, c2⟩ := cells3 p2
    go_wp2_with fail
    refine (sBorder_any _ _ _ _ _ xs _ HM.out hm1 A2.out).mono ?_; rintro e w3 ⟨rfl, hb3⟩
    rw [EB.out]
    go_wp2_with fail
    refine (alive_any _).mono ?_; rintro e w4 ⟨rfl, hb4⟩
    go_wp2
    go_ret
    exact ⟨rfl, below_seq (below_seq b2 hb3) hb4⟩
  · obtain ⟨v1, v2, v3, v4, -, v6⟩ := rv_true h
    obtain ⟨Wn, Tn, rfl, rfl, hl⟩ := rv_nat h
    have hbp := bord_pairs (W := Wn) (T := Tn) (xs := xs) (by rw [hl, Nat.mul_comm])
    obtain ⟨Bn, hBn⟩ : ∃ B, B = bdN Wn Tn xs xs.length := ⟨_, rfl⟩
    obtain ⟨Xn, hXn⟩ : ∃ k, k = cnt xs := ⟨_, rfl⟩
    rw [← hBn, ← hXn] at hbp
    rw [← hXn] at v6
    have EB : Hid (bord Wn Tn xs = Bn) := by show bord _ _ _ = _; unfold bord; rw [h, if_pos rfl, hBn]
    have EM : Hid (many Wn Tn xs = Xn) := by show many _ _ _ = _; unfold many; rw [h, if_pos rfl, hXn]
    have HBP := Lib.hid hbp
    have hB96 : Bn ≤ 96 := by omega
    have HH := Lib.hid h
    have v1' : 1 ≤ Wn := by omega
    have v2' : Wn ≤ 6 := by omega
    have v3' : 1 ≤ Tn := by omega
    have v4' : Tn ≤ 6 := by omega
    clear h hbp hl hBn hXn v1 v2 v3 v4
    have hBg : ¬ ((Bn : Int) < 0) := by omega
    go_wp2_with fail
    refine (iBorder_any _ _ _ _ _ xs _ HM.out hm1 (AX.out.one _)).mono ?_; rintro e w2 ⟨rfl, hb2⟩
    rw [EB.out]
    have b2 := below_seq (below1 _ _) hb2
    have p2 := heap_later (heap_new w1 _) hb2
    have A2 := Lib.hid ((AX.out.one (.cells #[.int .i64 Wn, .int .i64 Tn, .slice a m c] 25)).below hb2)
    obtain ⟨c0, c1, c2⟩ := cells3 p2
    go_wp2_with fail
    refine (sBorder_any _ _ _ _ _ xs _ HM.out hm1 A2.out).mono ?_; rintro e w3 ⟨rfl, hb3⟩
    rw [EB.out]
    have b3 := below_seq b2 hb3
    have p3 := heap_later p2 hb3
    clear c0 c1 c2 A2
    go_wp2
    go_loopw [5, 6, 7] (fun p y _ wr => ∃ k P : Nat, k ≤ Tn ∧ y = .int .i64 k ∧ p = .int .i64 P ∧ Hid (P = prAll Wn Tn xs Wn k) ∧ P ≤ 12 * k ∧ wr.heap[w1.heap.size]? = some (.cells #[.int .i64 Wn, .int .i64 Tn, .slice a m c] 25 (0, 0)) ∧ Below w1.heap.size w1 wr) (fun _ y _ _ => Tn - (intOf y).toNat)
    case atStart => exact ⟨0, 0, Nat.zero_le _, rfl, rfl, Lib.hid rfl, by omega, p3, b3⟩
    case round =>
      clear p2 p3 b2 b3 hb2 hb3
      obtain ⟨k, P, hk, rfl, rfl, HP, hPk, hp, hbel⟩ := hrel
      obtain ⟨c0, c1, c2⟩ := cells3 hp
      have lp := heap_lt hp
      have W2 : IntKind.i64.wrap ((k : Int) + 1) = (k : Int) + 1 := IntWalk.i64_in _ (by omega)
      by_cases hlt : k < Tn
      · have e1 : (k : Int) < Tn := by omega
        have BEL := Lib.hid hbel; clear hbel
        have HAl : Hid (prAll Wn Tn xs Wn (k + 1) = prAll Wn Tn xs Wn k + prRow Wn Tn xs k Wn) := by show prAll _ _ _ _ _ = _; unfold prAll; rw [sumN_succ]
        go_wp2
        go_loopw [5, 7] (fun p x wr => ∃ j Q : Nat, j ≤ Wn ∧ x = .int .i64 j ∧ p = .int .i64 Q ∧ Hid (Q = P + prRow Wn Tn xs k j) ∧ Q ≤ 12 * k + 2 * j ∧ wr.heap[w1.heap.size]? = some (.cells #[.int .i64 Wn, .int .i64 Tn, .slice a m c] 25 (0, 0)) ∧ Below w1.heap.size w1 wr) (fun _ x _ => Wn - (intOf x).toNat)
        case atStart => exact ⟨0, P, Nat.zero_le _, rfl, rfl, Lib.hid rfl, by omega, hp, BEL.out⟩
        case round =>
          clear hp c0 c1 c2 lp BEL
          obtain ⟨j, Q, hj, rfl, rfl, HQ, hQ, hp, hbel⟩ := hrel
          obtain ⟨c0, c1, c2⟩ := cells3 hp
          have lp := heap_lt hp
          by_cases hlj : j < Wn
          · have e2 : (j : Int) < Wn := by omega
            have W1 : IntKind.i64.wrap ((j : Int) + 1) = (j : Int) + 1 := IntWalk.i64_in _ (by clear W2; omega)
            have q1 : IntKind.i64.wrap ((Q : Int) + 1) = (Q : Int) + 1 := IntWalk.i64_in _ (by clear W1 W2; omega)
            have q2 : IntKind.i64.wrap ((Q : Int) + 1 + 1) = (Q : Int) + 1 + 1 := IntWalk.i64_in _ (by clear W1 W2 q1; omega)
            obtain ⟨b0, hb0⟩ : ∃ b, b = atB Wn Tn xs j k := ⟨_, rfl⟩
            obtain ⟨b1', hb1⟩ : ∃ b, b = atB Wn Tn xs ((j : Int) + 1) k := ⟨_, rfl⟩
            obtain ⟨b2', hb2⟩ : ∃ b, b = atB Wn Tn xs j ((k : Int) + 1) := ⟨_, rfl⟩
            have E0 : Hid (rAt Wn Tn xs j k = b0) := by show rAt _ _ _ _ _ = _; unfold rAt; rw [HH.out, Bool.true_and, hb0]
            have E1 : Hid (rAt Wn Tn xs ((j : Int) + 1) k = b1') := by show rAt _ _ _ _ _ = _; unfold rAt; rw [HH.out, Bool.true_and, hb1]
            have E2 : Hid (rAt Wn Tn xs j ((k : Int) + 1) = b2') := by show rAt _ _ _ _ _ = _; unfold rAt; rw [HH.out, Bool.true_and, hb2]
            have HS : Hid (prRow Wn Tn xs k (j + 1) = prRow Wn Tn xs k j + (tn (b0 && b1') + tn (b0 && b2'))) := by
              show prRow _ _ _ _ _ = _
              unfold prRow; rw [sumN_succ, hb0, hb1, hb2]; rfl
            clear hb0 hb1 hb2
            have A3 := Lib.hid (AX.out.below hbel)
            have BEL := Lib.hid hbel; clear hbel
            go_wp2_with fail
            refine (iRegionAt_any _ _ _ _ _ _ _ xs _ HM.out hm1 A3.out).mono ?_; rintro e w4 ⟨rfl, hb4⟩
            rw [E0.out]
            have p4 := heap_later hp hb4
            have A4 := Lib.hid (A3.out.below hb4)
            have B4 := Lib.hid (below_seq BEL.out hb4)
            clear hp c0 c1 c2 lp A3 BEL
            obtain ⟨c0, c1, c2⟩ := cells3 p4
            have lp := heap_lt p4
            cases b0
            · go_wp2_with fail
              refine (iRegionAt_any _ _ _ _ _ _ _ xs _ HM.out hm1 A4.out).mono ?_; rintro e w5 ⟨rfl, hb5⟩
              rw [E0.out]
              have p5 := heap_later p4 hb5
              have B5 := below_seq B4.out hb5
              go_wp2
              go_roundw
              case rel => exact ⟨j + 1, Q, by omega, by go_num, rfl, Lib.hid (by have h1 := HQ.out; have h2 := HS.out; simp [tn] at h2; omega), by omega, p5, B5⟩
              case measure => simp [intOf]; omega
            · cases b1' <;> cases b2'
              all_goals
                go_wp2_with fail
                refine (iRegionAt_any _ _ _ _ _ _ _ xs _ HM.out hm1 A4.out).mono ?_; rintro e w5 ⟨rfl, hb5⟩
                rw [E1.out]
                have p5 := heap_later p4 hb5
                have A5 := Lib.hid (A4.out.below hb5)
                have B5 := Lib.hid (below_seq B4.out hb5)
                clear p4 c0 c1 c2 lp A4 B4
                obtain ⟨c0, c1, c2⟩ := cells3 p5
                have lp := heap_lt p5
                go_wp2_with fail
                refine (iRegionAt_any _ _ _ _ _ _ _ xs _ HM.out hm1 A5.out).mono ?_; rintro e w6 ⟨rfl, hb6⟩
                rw [E0.out]
                have p6 := heap_later p5 hb6
                have A6 := Lib.hid (A5.out.below hb6)
                have B6 := Lib.hid (below_seq B5.out hb6)
                clear p5 c0 c1 c2 lp A5 B5
                obtain ⟨c0, c1, c2⟩ := cells3 p6
                have lp := heap_lt p6
                go_wp2_with fail
                refine (iRegionAt_any _ _ _ _ _ _ _ xs _ HM.out hm1 A6.out).mono ?_; rintro e w7 ⟨rfl, hb7⟩
                rw [E2.out]
                have p7 := heap_later p6 hb7
                have B7 := below_seq B6.out hb7
                go_wp2
                go_roundw
                case rel => first
                  | exact ⟨j + 1, Q + 1 + 1, by omega, by go_num, by go_num, Lib.hid (by have h1 := HQ.out; have h2 := HS.out; simp [tn] at h2; omega), by omega, p7, B7⟩
                  | exact ⟨j + 1, Q + 1, by omega, by go_num, by go_num, Lib.hid (by have h1 := HQ.out; have h2 := HS.out; simp [tn] at h2; omega), by omega, p7, B7⟩
                  | exact ⟨j + 1, Q, by omega, by go_num, rfl, Lib.hid (by have h1 := HQ.out; have h2 := HS.out; simp [tn] at h2; omega), by omega, p7, B7⟩
                case measure => simp [intOf]; omega
          · have e2 : ¬ (j : Int) < Wn := by omega
            have hjW : j = Wn := by omega
            go_wp2
            go_roundw
            case rel => exact ⟨k + 1, Q, by omega, by go_num, rfl, Lib.hid (by have h1 := HQ.out; have h2 := HP.out; have h3 := HAl.out; rw [hjW] at h1; omega), by omega, hp, hbel⟩
            case measure => simp [intOf]; omega
      · have e1 : ¬ (k : Int) < Tn := by omega
        have hkT : k = Tn := by omega
        have hPT : Bn + 2 * P = 4 * Xn := by have h1 := HP.out; rw [hkT] at h1; have h2 := HBP.out; omega
        have r1 : IntKind.i64.wrap (2 * (P : Int)) = 2 * (P : Int) := IntWalk.i64_in _ (by clear W2; omega)
        have r2 : IntKind.i64.wrap ((Bn : Int) + 2 * (P : Int)) = (Bn : Int) + 2 * (P : Int) := IntWalk.i64_in _ (by clear W2 r1; omega)
        have r3 : IntKind.i64.wrap (4 * (Xn : Int)) = 4 * (Xn : Int) := IntWalk.i64_in _ (by clear W2 r1 r2; omega)
        have r4 : ((Bn : Int) + 2 * (P : Int) == 4 * (Xn : Int)) = true := by clear W2 r1 r2 r3; simp; omega
        clear hPT hkT
        have A3 := Lib.hid (AX.out.below hbel)
        go_wp2_with fail
        refine (iCellsMany_any _ _ _ _ _ xs _ HM.out hm1 A3.out).mono ?_; rintro e w4 ⟨rfl, hb4⟩
        rw [EM.out]
        go_wp2
        go_ret
        exact ⟨rfl, below_seq (below_seq b1 hbel) hb4⟩

end Go.Proofs.Ytlgmnceicnhhnaa
