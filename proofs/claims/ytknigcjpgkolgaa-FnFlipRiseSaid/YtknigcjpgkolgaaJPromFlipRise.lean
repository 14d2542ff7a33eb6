/- The law FnFlipRise: its walk. -/
import Derived.Test.YtknigcjpgkolgaaJDrawKRise
import Derived.Test.YtknigcjpgkolgaaJFlipRisev1
namespace Go.Proofs.Ytknigcjpgkolgaa
open Go.RowKit
set_option linter.unusedVariables false
set_option maxRecDepth 100000
set_option linter.unusedSimpArgs false

theorem flipD_four (W T : Int) (xs : List Bool) (L : List Int) (c : Nat) : flipD W T xs L c = 4 ∨ flipD W T xs L c = -4 := by unfold flipD; split <;> simp
theorem sumD_one {A B : List Int} {c : Nat} {n : Int} (hn : n = 4 ∨ n = -4) {N : Nat} (h : ∀ k, k < N → B.getD k 0 = if k = c then A.getD k 0 + n else A.getD k 0) : ∀ k, k ≤ N → sumD A B k = if c < k then 4 else 0
  | 0, _ => by simp [sumD]
  | k + 1, hk => by
    rw [sumD_succ, sumD_one hn h k (by omega), h k (by omega)]
    unfold difI
    by_cases e : k = c
    · subst e
      rw [if_pos rfl, if_neg (Nat.lt_irrefl _), if_pos (Nat.lt_succ_self _)]
      split <;> omega
    · rw [if_neg e]
      by_cases e2 : c < k
      · rw [if_pos e2, if_pos (show c < k + 1 by omega)]; split <;> omega
      · rw [if_neg e2, if_neg (show ¬ c < k + 1 by omega)]; split <;> omega
theorem rise_all {W T : Int} {xs : List Bool} {L A B : List Int} {c : Int} (hs : simpleB W T xs = true) (ht : tok W T xs L = true) (hm : mayB W T L c = true) (hA : HtsR W T xs L A) (hB : HtsR W T xs (flipL W T L c) B) :
    ∃ (k : Nat) (n : Int), c = k ∧ riseF W T xs L c = n ∧ (n = 4 ∨ n = -4) ∧ tok W T xs (flipL W T L c) = true ∧ A.length = B.length ∧ 0 < A.length ∧
      (∀ i, i < A.length → B.getD i 0 = if i = k then A.getD i 0 + n else A.getD i 0) ∧ (∀ i, i < A.length → -60 ≤ A.getD i 0 ∧ A.getD i 0 ≤ 99) ∧ riseF W T xs (flipL W T L c) c = -n ∧ apartI A B = 1 := by
  have hl := tok_lok1 ht
  obtain ⟨k, rfl, hk⟩ := may_nat hl hm
  have ht' := tok_flip ht hm
  have hm' := may_backQ hl hm
  have htw := flip_twice hl hm
  obtain ⟨N, fk, hN, hf⟩ := hokP_size hs
  have hcA : (simpleB W T xs && tok W T xs L) = true := by rw [hs, ht]; rfl
  have hcB : (simpleB W T xs && tok W T xs (flipL W T L k)) = true := by rw [hs, ht']; rfl
  have hA' := HtsR.full hN hA hcA
  have hB' := HtsR.full hN hB hcB
  obtain ⟨hkN, hv⟩ := flip_height hs hN ht ht' hm hA' hB'
  obtain ⟨_, hv'⟩ := flip_height (c := k) hs hN ht' (by rw [htw]; exact ht) hm' hB' (by rw [htw]; exact hA')
  obtain ⟨hle, hpos⟩ := hts_len hs ht ht' hA hB
  have hAl := hA'.len
  have e1 : riseF W T xs L k = flipD W T xs L k := by unfold riseF; rw [hcA, hm]; simp
  have e2 : riseF W T xs (flipL W T L k) k = flipD W T xs (flipL W T L k) k := by unfold riseF; rw [hcB, hm']; simp
  have hf4 := flipD_four W T xs L k
  refine ⟨k, flipD W T xs L k, rfl, e1, hf4, ht', hle, hpos, fun i hi => hv i (by omega), fun i hi => hok_entry (tby_of hs ht hA).1 hi, ?_, ?_⟩
  · rw [e2]
    have a := hv k hkN
    have b := hv' k hkN
    rw [if_pos rfl] at a b
    omega
  · rw [apart_eq hpos hle, sumD_one hf4 (N := A.length) (fun i hi => hv i (by omega)) A.length (Nat.le_refl _), if_pos (by omega)]
    rfl
theorem rise_zero {W T : Int} {xs : List Bool} {L : List Int} {c : Int} (h : riseF W T xs L c = 0) (hm : mayB W T L c = true) : (simpleB W T xs && tok W T xs L) = false := by
  cases hc : (simpleB W T xs && tok W T xs L)
  · rfl
  · unfold riseF at h
    rw [hc, hm] at h
    have := flipD_four W T xs L c.toNat
    simp at h
    omega
theorem rise_some {W T : Int} {xs : List Bool} {L : List Int} {c : Int} (h : riseF W T xs L c ≠ 0) : simpleB W T xs = true ∧ tok W T xs L = true ∧ mayB W T L c = true := by
  unfold riseF at h
  cases hc : (simpleB W T xs && tok W T xs L) && mayB W T L c
  · rw [hc] at h; simp at h
  · simp only [Bool.and_eq_true] at hc
    exact ⟨hc.1.1, hc.1.2, hc.2⟩

end Go.Proofs.Ytknigcjpgkolgaa

namespace Go.Proofs.Ytknigcjpgkolgaa
open Go.RowKit
set_option linter.unusedVariables false
set_option maxRecDepth 100000
set_option linter.unusedSimpArgs false

set_option maxHeartbeats 8000000 in
theorem promFlipRise_walk (cb : Option Addr) (n cap : Nat) (zs : List Int) (w : World) (hn : n = zs.length) (hn' : n ≤ maxLen) (hcap : n ≤ cap) (hb : BytesAt w cb zs) :
    Calls Try.prog 13 #[.slice cb n cap] w fun e w' => e = .returned (.bool true) ∧ Below w.heap.size w w' := by
  have HN := Lib.hid hn; clear hn
  have HB := Lib.hid hb; clear hb
  by_cases hbig : 1048576 < n
  · unfold maxLen at hn'
    go_enter Try.func13, Try.ntmps13
    go_wp2
    go_ret
    exact ⟨rfl, Below.refl _ _⟩
  have hsm : n ≤ 1048576 := by omega
  clear hbig hn'
  go_enter Try.func13, Try.ntmps13
  go_wp2_with fail
  refine (drawFlipRise_any _ _ _ zs _ HN.out hsm hcap HB.out).mono ?_; rintro e w1 ⟨W0, T0, a, m, c, xs, la, q, lcap, L, k0, rfl, hm, h36, hs, ho, hq, hq36, hi, hk0, b1⟩
  have HM := Lib.hid hm; clear hm
  have HQ := Lib.hid hq; clear hq
  have A1 := Lib.hid (OwnsB.at ho); clear ho
  have I1 := Lib.hid (OwnsI.at hi); clear hi
  obtain ⟨s0, s1, s2, s3⟩ := hs
  obtain ⟨n0, hn0⟩ : ∃ n0, riseF W0 T0 xs L k0 = n0 := ⟨_, rfl⟩
  obtain ⟨R, hR⟩ : ∃ R, flpF W0 T0 xs L k0 = R := ⟨_, rfl⟩
  have hRl : R.1.length ≤ q := by rw [← hR, HQ.out]; exact flpF_len _ _ _ _ _
  have hRy : R.2 = true → lok W0 T0 xs L = true ∧ mayB W0 T0 L k0 = true := by
    rw [← hR]; unfold flpF
    split
    · intro h; exact ⟨by assumption, h⟩
    · intro h; cases h
  obtain ⟨X, ok⟩ := R
  simp only at hRl hRy
  obtain ⟨x, hx⟩ : ∃ x, x = X.length := ⟨_, rfl⟩
  rw [← hx] at hRl
  have HRR := Lib.hid hR; clear hR
  have HX := Lib.hid hx; clear hx
  have HNN := Lib.hid hn0; clear hn0
  have HRY := Lib.hid hRy; clear hRy
  have hbb : (n0 != n0) = false := by simp
  go_wp2_with fail
  refine (iFlipRise_any _ _ _ _ _ xs _ _ _ L _ _ HM.out (by omega) HQ.out (by omega) (by omega) (A1.out.one _) (I1.out.one _)).mono ?_; rintro e w2 ⟨rfl, hb2⟩
  rw [HNN.out]
  have b2 := below_seq (below_seq b1 (below1 _ _)) hb2
  have pr2 := heap_later (heap_new w1 (.cells #[.int .i64 W0, .int .i64 T0, .slice a m c] 25)) hb2
  have A2 := Lib.hid ((A1.out.one (.cells #[.int .i64 W0, .int .i64 T0, .slice a m c] 25)).below hb2)
  have I2 := Lib.hid ((I1.out.one (.cells #[.int .i64 W0, .int .i64 T0, .slice a m c] 25)).below hb2)
  obtain ⟨cr20, cr21, cr22⟩ := cells3 pr2
  have lr2 := heap_lt pr2
  go_wp2_with fail
  refine (sFlipRise_any _ _ _ _ _ xs _ _ _ L _ _ HM.out (by omega) HQ.out (by omega) A2.out I2.out).mono ?_; rintro e w3 ⟨rfl, hb3⟩
  rw [HNN.out]
  have b3 := below_seq b2 hb3
  have pr3 := heap_later pr2 hb3
  have A3 := Lib.hid (A2.out.below hb3)
  have I3 := Lib.hid (I2.out.below hb3)
  clear cr20 cr21 cr22 lr2
  obtain ⟨cr30, cr31, cr32⟩ := cells3 pr3
  have lr3 := heap_lt pr3
  go_wp2_with fail
  refine (iFlipOne_ret _ _ _ _ _ xs _ _ _ L _ _ HM.out (by omega) HQ.out (by omega) (by omega) A3.out I3.out).mono ?_; rintro e w4 ⟨a4, cap4, rfl, ho4, hb4⟩
  rw [HRR.out] at ho4 ⊢
  simp only at ho4 ⊢
  rw [← HX.out] at ho4 ⊢
  have b4 := below_seq b3 hb4
  have pr4 := heap_later pr3 hb4
  have A4 := Lib.hid (A3.out.below hb4)
  have I4 := Lib.hid (I3.out.below hb4)
  have X4 := Lib.hid (OwnsI.at ho4)
  clear cr30 cr31 cr32 lr3
  obtain ⟨cr40, cr41, cr42⟩ := cells3 pr4
  have lr4 := heap_lt pr4
  clear ho4
  by_cases hz : n0 = 0
  · subst hz
    cases ok
    · clear HRY
      go_wp2_with fail
      refine (alive_any _).mono ?_; rintro e w5 ⟨rfl, hb5⟩
      go_wp2
      go_ret
      exact ⟨rfl, below_seq b4 hb5⟩
    · obtain ⟨_, hmay⟩ := HRY.out rfl
      have hno := rise_zero HNN.out hmay
      have HNO := Lib.hid hno; clear hno hmay HRY
      obtain ⟨S, hS⟩ : ∃ S, simpleB W0 T0 xs = S := ⟨_, rfl⟩
      have HS := Lib.hid hS; clear hS
      go_wp2_with fail
      refine (iSimple_any _ _ _ _ _ xs _ HM.out (by omega) A4.out).mono ?_; rintro e w5 ⟨rfl, hb5⟩
      rw [HS.out]
      have b5 := below_seq b4 hb5
      have pr5 := heap_later pr4 hb5
      have A5 := Lib.hid (A4.out.below hb5)
      have I5 := Lib.hid (I4.out.below hb5)
      have X5 := Lib.hid (X4.out.below hb5)
      clear cr40 cr41 cr42 lr4
      obtain ⟨cr50, cr51, cr52⟩ := cells3 pr5
      have lr5 := heap_lt pr5
      cases S
      · skip
        go_wp2_with fail
        refine (alive_any _).mono ?_; rintro e w6 ⟨rfl, hb6⟩
        go_wp2
        go_ret
        exact ⟨rfl, below_seq b5 hb6⟩
      · have htn : tok W0 T0 xs L = false := by have := HNO.out; rw [HS.out] at this; simpa using this
        have HTN := Lib.hid htn; clear htn
        go_wp2_with fail
        refine (iTilingOk_any _ _ _ _ _ xs _ _ _ L _ HM.out (by omega) HQ.out (by omega) A5.out I5.out).mono ?_; rintro e w6 ⟨rfl, hb6⟩
        rw [HTN.out]
        have b6 := below_seq b5 hb6
        have pr6 := heap_later pr5 hb6
        have A6 := Lib.hid (A5.out.below hb6)
        have I6 := Lib.hid (I5.out.below hb6)
        have X6 := Lib.hid (X5.out.below hb6)
        clear cr50 cr51 cr52 lr5
        obtain ⟨cr60, cr61, cr62⟩ := cells3 pr6
        have lr6 := heap_lt pr6
        go_wp2_with fail
        refine (alive_any _).mono ?_; rintro e w7 ⟨rfl, hb7⟩
        go_wp2
        go_ret
        exact ⟨rfl, below_seq b6 hb7⟩
  · have hz1 : (n0 == 0) = false := by simpa using hz
    obtain ⟨hsi, htl, hmay⟩ := rise_some (by rw [HNN.out]; exact hz)
    obtain rfl : X = flipL W0 T0 L k0 := by
      have := HRR.out
      unfold flpF at this
      rw [if_pos (tok_lok1 htl)] at this
      injection this with e _
      exact e.symm
    obtain ⟨HA0, hA0⟩ := htsR_exist W0 T0 xs L
    obtain ⟨HB0, hB0⟩ := htsR_exist W0 T0 xs (flipL W0 T0 L k0)
    have hal := hA0.len
    obtain ⟨kc, n1, hkc, hn1, hn4, htx, hle, hpos, hval, hent, hback, hap⟩ := rise_all hsi htl hmay hA0 hB0
    obtain rfl : n1 = n0 := hn1.symm.trans HNN.out
    obtain ⟨h, hh⟩ : ∃ h, h = HA0.length := ⟨_, rfl⟩
    rw [← hh] at hal hle hpos hval hent
    obtain ⟨X, hXX⟩ : ∃ X, flipL W0 T0 L k0 = X := ⟨_, rfl⟩
    rw [hXX] at hB0 hback HRR HX X4
    clear hXX
    subst hkc
    have HV := Lib.hid hval; clear hval
    have HE := Lib.hid hent; clear hent
    have HBK := Lib.hid hback; clear hback
    have HAP := Lib.hid hap; clear hap
    have HA := Lib.hid hA0; clear hA0
    have HBH := Lib.hid hB0; clear hB0
    have HHL := Lib.hid hh; clear hh
    have HGL := Lib.hid hle; clear hle
    clear hz hsi htl hmay htx hn1 HRY
    have hhh : ((h : Int) != h) = false := by simp
    rcases hn4 with rfl | rfl
    · skip
      go_wp2_with fail
      refine (iHeightsOf_ret _ _ _ _ _ xs _ _ _ L HA0 _ HM.out (by omega) HQ.out (by omega) A4.out I4.out HA.out).mono ?_; rintro e w5 ⟨a5, cap5, rfl, ho5, hb5⟩
      rw [← HHL.out] at ho5 ⊢
      have b5 := below_seq b4 hb5
      have pr5 := heap_later pr4 hb5
      have A5 := Lib.hid (A4.out.below hb5)
      have I5 := Lib.hid (I4.out.below hb5)
      have X5 := Lib.hid (X4.out.below hb5)
      have G5 := Lib.hid (OwnsI.at ho5)
      clear cr40 cr41 cr42 lr4
      obtain ⟨cr50, cr51, cr52⟩ := cells3 pr5
      have lr5 := heap_lt pr5
      clear ho5
      go_wp2_with fail
      refine (iHeightsOf_ret _ _ _ _ _ xs _ _ _ X HB0 _ HM.out (by omega) HX.out (by omega) A5.out X5.out HBH.out).mono ?_; rintro e w6 ⟨a6, cap6, rfl, ho6, hb6⟩
      rw [← HGL.out] at ho6 ⊢
      have b6 := below_seq b5 hb6
      have pr6 := heap_later pr5 hb6
      have A6 := Lib.hid (A5.out.below hb6)
      have I6 := Lib.hid (I5.out.below hb6)
      have X6 := Lib.hid (X5.out.below hb6)
      have G6 := Lib.hid (G5.out.below hb6)
      have H6 := Lib.hid (OwnsI.at ho6)
      clear cr50 cr51 cr52 lr5
      obtain ⟨cr60, cr61, cr62⟩ := cells3 pr6
      have lr6 := heap_lt pr6
      clear ho6
      go_wp2
      go_loopw [11] (fun i wr => ∃ k : Nat, k ≤ h ∧ i = .int .i64 k ∧ ∃ qq, wr = w6.drewN qq) (fun i _ => h - (intOf i).toNat)
      case atStart => exact ⟨0, Nat.zero_le _, rfl, 0, rfl⟩
      case round =>
        obtain ⟨k, hk, rfl, qq, rfl⟩ := hrel
        by_cases hlt : k < h
        · have e1 : (k : Int) < h := by omega
          have e0 : (0 : Int) ≤ k := by omega
          have hv := HV.out k hlt
          have he := HE.out k hlt
          obtain ⟨g1, o1, rfl, hc1⟩ := G6.out k (by rw [← HHL.out]; exact hlt)
          obtain ⟨g2, o2, rfl, hc2⟩ := H6.out k (by rw [← HGL.out]; exact hlt)
          generalize HA0.getD k 0 = xv at *
          generalize HB0.getD k 0 = yv at *
          by_cases hkc : k = kc
          · subst hkc
            rw [if_pos rfl] at hv
            subst hv
            have HW1 : IntKind.i64.wrap (xv + 4 - xv) = 4 := by rw [show xv + 4 - xv = 4 by omega]; exact IntWalk.i64_in _ (by omega)
            have hkk : ((k : Int) == k) = true := by simp
            have hkn : ((k : Int) != k) = false := by simp
            have hnq : (4 != 4) = false := by simp
            clear he
            obtain ⟨yv, hyv⟩ : ∃ yv, xv + 4 = yv := ⟨_, rfl⟩
            rw [hyv] at HW1 hc2
            clear hyv
            go_wp2
            go_quiet (fail)
            go_wp2
            go_roundw
            case rel => exact ⟨k + 1, by omega, by go_num, _, rfl⟩
            case measure => simp [intOf]; omega
          · rw [if_neg hkc] at hv
            subst hv
            have hkk : ((k : Int) == kc) = false := by simp; omega
            have hkn : ((k : Int) != kc) = true := by simp; omega
            have hkn2 : ¬ (k : Int) = kc := by omega
            have hxx : (yv != yv) = false := by simp
            clear he
            go_wp2
            go_quiet (fail)
            go_wp2
            go_roundw
            case rel => exact ⟨k + 1, by omega, by go_num, _, rfl⟩
            case measure => simp [intOf]; omega
        · obtain rfl : k = h := by omega
          go_wp2_with fail
          refine (iFlipRise_any _ _ _ _ _ xs _ _ _ X _ _ HM.out (by omega) HX.out (by omega) (by omega) (A6.out.below (drewN_below _ _)) (X6.out.below (drewN_below _ _))).mono ?_; rintro e w7 ⟨rfl, hb7⟩
          rw [HBK.out]
          have p7 := heap_later (heap_later pr6 (drewN_below _ _)) hb7
          obtain ⟨c70, c71, c72⟩ := cells3 p7
          have A7 := Lib.hid ((A6.out.below (drewN_below _ _)).below hb7)
          have I7 := Lib.hid ((I6.out.below (drewN_below _ _)).below hb7)
          have X7 := Lib.hid ((X6.out.below (drewN_below _ _)).below hb7)
          go_wp2_with fail
          refine (iApart_ret _ _ _ _ _ xs _ _ _ L _ _ _ X HA0 HB0 _ HM.out (by omega) HQ.out (by omega) HX.out (by omega) A7.out I7.out X7.out HA.out HBH.out).mono ?_; rintro e w8 ⟨rfl, hb8⟩
          rw [HAP.out]
          go_wp2
          go_ret
          exact ⟨rfl, below_seq (below_seq (below_seq b6 (drewN_below _ _)) hb7) hb8⟩
    · skip
      go_wp2_with fail
      refine (iHeightsOf_ret _ _ _ _ _ xs _ _ _ L HA0 _ HM.out (by omega) HQ.out (by omega) A4.out I4.out HA.out).mono ?_; rintro e w5 ⟨a5, cap5, rfl, ho5, hb5⟩
      rw [← HHL.out] at ho5 ⊢
      have b5 := below_seq b4 hb5
      have pr5 := heap_later pr4 hb5
      have A5 := Lib.hid (A4.out.below hb5)
      have I5 := Lib.hid (I4.out.below hb5)
      have X5 := Lib.hid (X4.out.below hb5)
      have G5 := Lib.hid (OwnsI.at ho5)
      clear cr40 cr41 cr42 lr4
      obtain ⟨cr50, cr51, cr52⟩ := cells3 pr5
      have lr5 := heap_lt pr5
      clear ho5
      go_wp2_with fail
      refine (iHeightsOf_ret _ _ _ _ _ xs _ _ _ X HB0 _ HM.out (by omega) HX.out (by omega) A5.out X5.out HBH.out).mono ?_; rintro e w6 ⟨a6, cap6, rfl, ho6, hb6⟩
      rw [← HGL.out] at ho6 ⊢
      have b6 := below_seq b5 hb6
      have pr6 := heap_later pr5 hb6
      have A6 := Lib.hid (A5.out.below hb6)
      have I6 := Lib.hid (I5.out.below hb6)
      have X6 := Lib.hid (X5.out.below hb6)
      have G6 := Lib.hid (G5.out.below hb6)
      have H6 := Lib.hid (OwnsI.at ho6)
      clear cr50 cr51 cr52 lr5
      obtain ⟨cr60, cr61, cr62⟩ := cells3 pr6
      have lr6 := heap_lt pr6
      clear ho6
      go_wp2
      go_loopw [11] (fun i wr => ∃ k : Nat, k ≤ h ∧ i = .int .i64 k ∧ ∃ qq, wr = w6.drewN qq) (fun i _ => h - (intOf i).toNat)
      case atStart => exact ⟨0, Nat.zero_le _, rfl, 0, rfl⟩
      case round =>
        obtain ⟨k, hk, rfl, qq, rfl⟩ := hrel
        by_cases hlt : k < h
        · have e1 : (k : Int) < h := by omega
          have e0 : (0 : Int) ≤ k := by omega
          have hv := HV.out k hlt
          have he := HE.out k hlt
          obtain ⟨g1, o1, rfl, hc1⟩ := G6.out k (by rw [← HHL.out]; exact hlt)
          obtain ⟨g2, o2, rfl, hc2⟩ := H6.out k (by rw [← HGL.out]; exact hlt)
          generalize HA0.getD k 0 = xv at *
          generalize HB0.getD k 0 = yv at *
          by_cases hkc : k = kc
          · subst hkc
            rw [if_pos rfl] at hv
            subst hv
            have HW1 : IntKind.i64.wrap (xv + (-4) - xv) = (-4) := by rw [show xv + (-4) - xv = (-4) by omega]; exact IntWalk.i64_in _ (by omega)
            have hkk : ((k : Int) == k) = true := by simp
            have hkn : ((k : Int) != k) = false := by simp
            have hnq : ((-4) != (-4)) = false := by simp
            clear he
            obtain ⟨yv, hyv⟩ : ∃ yv, xv + (-4) = yv := ⟨_, rfl⟩
            rw [hyv] at HW1 hc2
            clear hyv
            go_wp2
            go_quiet (fail)
            go_wp2
            go_roundw
            case rel => exact ⟨k + 1, by omega, by go_num, _, rfl⟩
            case measure => simp [intOf]; omega
          · rw [if_neg hkc] at hv
            subst hv
            have hkk : ((k : Int) == kc) = false := by simp; omega
            have hkn : ((k : Int) != kc) = true := by simp; omega
            have hkn2 : ¬ (k : Int) = kc := by omega
            have hxx : (yv != yv) = false := by simp
            clear he
            go_wp2
            go_quiet (fail)
            go_wp2
            go_roundw
            case rel => exact ⟨k + 1, by omega, by go_num, _, rfl⟩
            case measure => simp [intOf]; omega
        · obtain rfl : k = h := by omega
          go_wp2_with fail
          refine (iFlipRise_any _ _ _ _ _ xs _ _ _ X _ _ HM.out (by omega) HX.out (by omega) (by omega) (A6.out.below (drewN_below _ _)) (X6.out.below (drewN_below _ _))).mono ?_; rintro e w7 ⟨rfl, hb7⟩
          rw [HBK.out]
          have p7 := heap_later (heap_later pr6 (drewN_below _ _)) hb7
          obtain ⟨c70, c71, c72⟩ := cells3 p7
          have A7 := Lib.hid ((A6.out.below (drewN_below _ _)).below hb7)
          have I7 := Lib.hid ((I6.out.below (drewN_below _ _)).below hb7)
          have X7 := Lib.hid ((X6.out.below (drewN_below _ _)).below hb7)
          go_wp2_with fail
          refine (iApart_ret _ _ _ _ _ xs _ _ _ L _ _ _ X HA0 HB0 _ HM.out (by omega) HQ.out (by omega) HX.out (by omega) A7.out I7.out X7.out HA.out HBH.out).mono ?_; rintro e w8 ⟨rfl, hb8⟩
          rw [HAP.out]
          go_wp2
          go_ret
          exact ⟨rfl, below_seq (below_seq (below_seq b6 (drewN_below _ _)) hb7) hb8⟩

end Go.Proofs.Ytknigcjpgkolgaa
