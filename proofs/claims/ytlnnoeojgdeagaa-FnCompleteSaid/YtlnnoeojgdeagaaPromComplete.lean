/- The law FnComplete: its walk. -/
import Derived.Test.YtlnnoeojgdeagaaDrawL2
import Derived.Test.YtlnnoeojgdeagaaSame
import Derived.Test.YtlnnoeojgdeagaaAllI
import Derived.Test.YtlnnoeojgdeagaaCompP
import Derived.Test.YtlnnoeojgdeagaaLaidN
namespace Go.Proofs.Ytlnnoeojgdeagaa
open Go.RowKit
set_option linter.unusedVariables false
set_option maxRecDepth 100000
set_option linter.unusedSimpArgs false

set_option maxHeartbeats 4000000 in
theorem promComplete_walk (cb : Option Addr) (n cap : Nat) (zs : List Int) (w : World) (hn : n = zs.length) (hn' : n ≤ maxLen) (hcap : n ≤ cap) (hb : BytesAt w cb zs) :
    Calls Try.prog 8 #[.slice cb n cap] w fun e w' => e = .returned (.bool true) ∧ Below w.heap.size w w' := by
  have HN := Lib.hid hn; clear hn
  have HB := Lib.hid hb; clear hb
  by_cases hbig : 1048576 < n
  · unfold maxLen at hn'
    go_enter Try.func8, Try.ntmps8
    go_wp2
    go_ret
    exact ⟨rfl, Below.refl _ _⟩
  have hsm : n ≤ 1048576 := by omega
  clear hbig hn'
  go_enter Try.func8, Try.ntmps8
  go_wp2_with fail
  refine (drawComplete_any _ _ _ zs _ HN.out hsm hcap HB.out).mono ?_; rintro e w1 ⟨W0, T0, a, m, c, xs, la, q, lcap, L, rfl, hm, h36, hs, ho, hq, hq36, hi, b1⟩
  have HM := Lib.hid hm; clear hm
  have HQ := Lib.hid hq; clear hq
  have A1 := Lib.hid (OwnsB.at ho); clear ho
  have I1 := Lib.hid (OwnsI.at hi); clear hi
  obtain ⟨s0, s1, s2, s3⟩ := hs
  obtain ⟨ALL, hALL⟩ : ∃ ALL, ALL = allF W0 T0 xs := ⟨_, rfl⟩
  obtain ⟨z, hz⟩ : ∃ z, z = ALL.length := ⟨_, rfl⟩
  have hz4 : z ≤ 4096 := by rw [hz, hALL]; exact allF_count _ _ _
  have HCOL : Hid (∀ i, i < ALL.length → (ALL.getD i []).length ≤ 1048576) := by rw [hALL]; exact allF_col _ _ _
  have HALL := Lib.hid hALL; clear hALL
  have HZ := Lib.hid hz; clear hz
  obtain ⟨C, hC⟩ : ∃ C, compF W0 T0 xs L = C := ⟨_, rfl⟩
  obtain ⟨X, ok⟩ := C
  obtain ⟨x, hx⟩ : ∃ x, x = X.length := ⟨_, rfl⟩
  have hxq : x ≤ q := by have := compF_len W0 T0 xs L; rw [hC] at this; simp only at this; rw [← hx, ← HQ.out] at this; exact this
  have HC := Lib.hid hC; clear hC
  have HX := Lib.hid hx; clear hx
  have hbb : (ok != ok) = false := by simp
  go_wp2_with fail
  refine (iComplete_ret _ _ _ _ _ xs _ _ _ L _ HM.out (by omega) HQ.out (by omega) (A1.out.one _) (I1.out.one _)).mono ?_; rintro e w2 ⟨a2, cap2, rfl, ho2, hb2⟩
  rw [HC.out] at ho2 ⊢
  simp only at ho2 ⊢
  rw [← HX.out] at ho2 ⊢
  have b2 := below_seq (below_seq b1 (below1 _ _)) hb2
  have pr2 := heap_later (heap_new w1 (.cells #[.int .i64 W0, .int .i64 T0, .slice a m c] 28)) hb2
  have A2 := Lib.hid ((A1.out.one (.cells #[.int .i64 W0, .int .i64 T0, .slice a m c] 28)).below hb2)
  have I2 := Lib.hid ((I1.out.one (.cells #[.int .i64 W0, .int .i64 T0, .slice a m c] 28)).below hb2)
  have X2 := Lib.hid (OwnsI.at ho2)
  obtain ⟨cr20, cr21, cr22⟩ := cells3 pr2
  have lr2 := heap_lt pr2
  clear ho2
  go_wp2_with fail
  refine (sComplete_ret _ _ _ _ _ xs _ _ _ L _ HM.out (by omega) HQ.out (by omega) A2.out I2.out).mono ?_; rintro e w3 ⟨a3, cap3, rfl, ho3, hb3⟩
  rw [HC.out] at ho3 ⊢
  simp only at ho3 ⊢
  rw [← HX.out] at ho3 ⊢
  have b3 := below_seq b2 hb3
  have pr3 := heap_later pr2 hb3
  have A3 := Lib.hid (A2.out.below hb3)
  have I3 := Lib.hid (I2.out.below hb3)
  have X3 := Lib.hid (X2.out.below hb3)
  have Y3 := Lib.hid (OwnsI.at ho3)
  clear cr20 cr21 cr22 lr2
  obtain ⟨cr30, cr31, cr32⟩ := cells3 pr3
  have lr3 := heap_lt pr3
  clear ho3
  go_wp2_with fail
  refine (sameInts_same _ _ _ _ _ X _ HX.out (by omega) X3.out Y3.out).mono ?_; rintro e w4 ⟨rfl, hb4⟩
  have b4 := below_seq b3 hb4
  have pr4 := heap_later pr3 hb4
  have A4 := Lib.hid (A3.out.below hb4)
  have I4 := Lib.hid (I3.out.below hb4)
  have X4 := Lib.hid (X3.out.below hb4)
  have Y4 := Lib.hid (Y3.out.below hb4)
  clear cr30 cr31 cr32 lr3
  obtain ⟨cr40, cr41, cr42⟩ := cells3 pr4
  have lr4 := heap_lt pr4
  go_wp2_with fail
  refine (sLaidOk_any _ _ _ _ _ xs _ _ _ L _ HM.out (by omega) HQ.out (by omega) A4.out I4.out).mono ?_; rintro e w5 ⟨rfl, hb5⟩
  have b5 := below_seq b4 hb5
  have pr5 := heap_later pr4 hb5
  have A5 := Lib.hid (A4.out.below hb5)
  have I5 := Lib.hid (I4.out.below hb5)
  have X5 := Lib.hid (X4.out.below hb5)
  clear cr40 cr41 cr42 lr4
  obtain ⟨cr50, cr51, cr52⟩ := cells3 pr5
  have lr5 := heap_lt pr5
  cases h : lok W0 T0 xs L
  · have e := HC.out
    unfold compF at e
    rw [h] at e
    simp only [Bool.false_eq_true, if_false, Prod.mk.injEq] at e
    obtain ⟨rfl, rfl⟩ := e
    have hx0 : x = 0 := HX.out
    subst hx0
    clear h
    go_wp2_with fail
    refine (alive_any _).mono ?_; rintro e w6 ⟨rfl, hb6⟩
    go_wp2
    go_ret
    exact ⟨rfl, below_seq b5 hb6⟩
  · obtain ⟨hr, hlq, _⟩ := lok_rv h
    have hqm : q = m := by rw [HQ.out, HM.out]; exact hlq
    subst hqm
    have HCN : Hid (ok = false → X = [] ∧ ∀ M, tok W0 T0 xs M = true → Has L M → False) := fun e => by
      have := comp_none h (by rw [HC.out]; exact e)
      rw [HC.out] at this
      exact this
    have HCS : Hid (ok = true → X.length = xs.length ∧ tok W0 T0 xs X = true ∧ Has L X ∧ ∀ M, tok W0 T0 xs M = true → Has L M → M = X ∨ Before X M) := fun e => by
      have := comp_some h (by rw [HC.out]; exact e)
      rw [HC.out] at this
      exact this
    have HROW : Hid (∀ i, i < ALL.length → (ALL.getD i []).length = q ∧ tok W0 T0 xs (ALL.getD i []) = true) := fun i hi => by
      rw [HALL.out] at hi ⊢
      rw [HM.out]
      exact allF_row hi
    have hm1 : q ≤ 1048576 := by omega
    have hqq : ((q : Int) == q) = true := by simp
    clear h hr hlq
    go_wp2_with fail
    refine (iTilingsAll_ret _ _ _ _ _ xs _ HM.out hm1 A5.out).mono ?_; rintro e w6 ⟨a6, cap6, rfl, ho6, hb6⟩
    rw [← HALL.out] at ho6 ⊢
    rw [← HZ.out] at ho6 ⊢
    have b6 := below_seq b5 hb6
    have pr6 := heap_later pr5 hb6
    have A6 := Lib.hid (A5.out.below hb6)
    have I6 := Lib.hid (I5.out.below hb6)
    have X6 := Lib.hid (X5.out.below hb6)
    have S6 := Lib.hid (OwnsSS.at ho6)
    clear cr50 cr51 cr52 lr5
    obtain ⟨cr60, cr61, cr62⟩ := cells3 pr6
    have lr6 := heap_lt pr6
    clear ho6
    go_wp2
    go_loopw [10, 11, 12] (fun i _ _ wr => ∃ k : Nat, k ≤ z ∧ i = .int .i64 k ∧ Below w6.heap.size w6 wr) (fun i _ _ _ => z - (intOf i).toNat)
    case atStart => exact ⟨0, Nat.zero_le _, rfl, Below.refl _ _⟩
    case round =>
      rename World => wo
      clear cr60 cr61 cr62 lr6
      obtain ⟨k, hk, rfl, bo⟩ := hrel
      have b9 := below_seq b6 bo
      have pr9 := heap_later pr6 bo
      have A9 := Lib.hid (A6.out.below bo)
      have I9 := Lib.hid (I6.out.below bo)
      have X9 := Lib.hid (X6.out.below bo)
      have S9 := Lib.hid (S6.out.below bo)
      have BO := Lib.hid bo; clear bo
      obtain ⟨cr90, cr91, cr92⟩ := cells3 pr9
      have lr9 := heap_lt pr9
      by_cases hlt : k < z
      · have e1 : (k : Int) < z := by omega
        have e0 : (0 : Int) ≤ k := by omega
        have hkr : k < ALL.length := by rw [← HZ.out]; exact hlt
        obtain ⟨b6, o6, a7, cap7, rfl, hc6, hx6⟩ := S9.out k hkr
        rw [(HROW.out k hkr).1] at hc6
        have hml : q = (ALL.getD k []).length := (HROW.out k hkr).1.symm
        have htk := (HROW.out k hkr).2
        have l6 := World.block_lt_of_cell? wo _ hc6
        simp only at l6
        obtain ⟨M, hM⟩ : ∃ M, M = ALL.getD k [] := ⟨_, rfl⟩
        rw [← hM] at hml htk hx6
        have HX6 := Lib.hid hx6; clear hx6
        have HML := Lib.hid hml; clear hml
        have HTK := Lib.hid htk; clear htk
        clear hM hkr
        go_wp2
        go_loopw [11, 12] (fun hs i wr => ∃ j : Nat, j ≤ q ∧ i = .int .i64 j ∧ (∃ hv : Bool, hs = .bool hv ∧ (hv = true → ∀ t, t < j → L.getD t 0 ≠ 0 → M.getD t 0 = L.getD t 0)) ∧ ∃ qq, wr = wo.drewN qq) (fun _ i _ => q - (intOf i).toNat)
        case atStart => exact ⟨0, Nat.zero_le _, rfl, ⟨_, rfl, fun _ t ht => absurd ht (Nat.not_lt_zero t)⟩, 0, rfl⟩
        case round =>
          obtain ⟨j, hj, rfl, ⟨hv, rfl, hall⟩, qq, rfl⟩ := hrel
          have HALLT := Lib.hid hall; clear hall
          by_cases hjl : j < q
          · have f1 : (j : Int) < q := by omega
            have f0 : (0 : Int) ≤ j := by omega
            cases hv
            · go_wp2
              go_roundw
              case rel => exact ⟨k + 1, by omega, by go_num, below_seq BO.out (drewN_below _ _)⟩
              case measure => simp [intOf]; omega
            · obtain ⟨lb, lo, rfl, hcl⟩ := I9.out j (by rw [← HQ.out]; exact hjl)
              obtain ⟨mb, mo, rfl, hcm⟩ := HX6.out j (by rw [← HML.out]; exact hjl)
              obtain ⟨l, hl⟩ : ∃ l, l = L.getD j 0 := ⟨_, rfl⟩
              obtain ⟨mv, hmv⟩ : ∃ mv, mv = M.getD j 0 := ⟨_, rfl⟩
              rw [← hl] at hcl
              rw [← hmv] at hcm
              have HL := Lib.hid hl; clear hl
              have HMV := Lib.hid hmv; clear hmv
              cases hl0 : (l == 0)
              · cases hme : (mv == l)
                · have HS : Hid (false = true → ∀ t, t < j + 1 → L.getD t 0 ≠ 0 → M.getD t 0 = L.getD t 0) := fun e => by cases e
                  go_wp2
                  go_quiet (fail)
                  go_wp2
                  go_roundw
                  case rel => exact ⟨j + 1, by omega, by go_num, ⟨_, rfl, (by first | exact HS.out | exact fun _ => HS.out trivial)⟩, _, rfl⟩
                  case measure => simp [intOf]; omega
                · have HS : Hid (true = true → ∀ t, t < j + 1 → L.getD t 0 ≠ 0 → M.getD t 0 = L.getD t 0) := fun _ t ht h0 => by
                    by_cases e : t = j
                    · rw [e, ← HL.out, ← HMV.out]; simpa using hme
                    · exact HALLT.out rfl t (by omega) h0
                  go_wp2
                  go_quiet (fail)
                  go_wp2
                  go_roundw
                  case rel => exact ⟨j + 1, by omega, by go_num, ⟨_, rfl, (by first | exact HS.out | exact fun _ => HS.out trivial)⟩, _, rfl⟩
                  case measure => simp [intOf]; omega
              · have HS : Hid (true = true → ∀ t, t < j + 1 → L.getD t 0 ≠ 0 → M.getD t 0 = L.getD t 0) := fun _ t ht h0 => by
                  by_cases e : t = j
                  · exfalso; apply h0; rw [e, ← HL.out]; simpa using hl0
                  · exact HALLT.out rfl t (by omega) h0
                go_wp2
                go_quiet (fail)
                go_wp2
                go_roundw
                case rel => exact ⟨j + 1, by omega, by go_num, ⟨_, rfl, (by first | exact HS.out | exact fun _ => HS.out trivial)⟩, _, rfl⟩
                case measure => simp [intOf]; omega
          · obtain rfl : j = q := by omega
            cases hv
            · go_wp2
              go_roundw
              case rel => exact ⟨k + 1, by omega, by go_num, below_seq BO.out (drewN_below _ _)⟩
              case measure => simp [intOf]; omega
            · have hhas : Has L M := fun t h0 => by
                by_cases ht : t < j
                · exact HALLT.out rfl t ht h0
                · exfalso; apply h0
                  have hz : L.length ≤ t := by rw [← HQ.out]; omega
                  simp [List.getD, List.getElem?_eq_none hz]
              cases ok
              · exact ((HCN.out rfl).2 M HTK.out hhas).elim
              · have HOR : Hid (M = X ∨ Before X M) := (HCS.out rfl).2.2.2 M HTK.out hhas
                clear hhas
                go_wp2_with fail
                refine (before_not _ _ _ _ _ _ M X _ HML.out HX.out hm1 (by omega) (HX6.out.below (drewN_below _ _)) (X9.out.below (drewN_below _ _)) HOR.out).mono ?_; rintro e w11 ⟨rfl, hb11⟩
                have BO11 := Lib.hid (below_seq BO.out (below_seq (drewN_below _ _) hb11))
                go_wp2
                go_roundw
                case rel => exact ⟨k + 1, by omega, by go_num, BO11.out⟩
                case measure => simp [intOf]; omega
      · obtain rfl : k = z := by omega
        cases ok
        · have hx0 : x = 0 := by rw [HX.out, (HCN.out rfl).1]; rfl
          subst hx0
          go_wp2
          go_ret
          exact ⟨rfl, b9⟩
        · have hxm : x = q := by rw [HX.out, (HCS.out rfl).1, HM.out]
          subst hxm
          have HHX : Hid (Has L X) := (HCS.out rfl).2.2.1
          have HTX : Hid (tok W0 T0 xs X = true) := (HCS.out rfl).2.1
          go_wp2
          go_loopw [13] (fun i wr => ∃ j : Nat, j ≤ x ∧ i = .int .i64 j ∧ ∃ qq, wr = wo.drewN qq) (fun i _ => x - (intOf i).toNat)
          case atStart => exact ⟨0, Nat.zero_le _, rfl, 0, rfl⟩
          case round =>
            obtain ⟨j, hj, rfl, qq, rfl⟩ := hrel
            by_cases hjl : j < x
            · have f1 : (j : Int) < x := by omega
              have f0 : (0 : Int) ≤ j := by omega
              obtain ⟨lb, lo, rfl, hcl⟩ := I9.out j (by rw [← HQ.out]; exact hjl)
              obtain ⟨xb, xo, rfl, hcx⟩ := X9.out j (by rw [← HX.out]; exact hjl)
              obtain ⟨l, hl⟩ : ∃ l, l = L.getD j 0 := ⟨_, rfl⟩
              cases hl0 : (l != 0)
              · rw [← hl] at hcl
                clear hl hcx
                go_wp2
                go_quiet (fail)
                go_wp2
                go_roundw
                case rel => exact ⟨j + 1, by omega, by go_num, _, rfl⟩
                case measure => simp [intOf]; omega
              · have hxl : X.getD j 0 = l := by rw [hl]; exact HHX.out j (by rw [← hl]; simpa using hl0)
                rw [← hl] at hcl
                rw [hxl] at hcx
                have hll : (l != l) = false := by simp
                clear hl hxl
                go_wp2
                go_quiet (fail)
                go_wp2
                go_roundw
                case rel => exact ⟨j + 1, by omega, by go_num, _, rfl⟩
                case measure => simp [intOf]; omega
            · obtain rfl : j = x := by omega
              go_wp2_with fail
              refine (iTilingOk_any _ _ _ _ _ xs _ _ _ X _ HM.out hm1 HX.out hm1 (A9.out.below (drewN_below _ _)) (X9.out.below (drewN_below _ _))).mono ?_; rintro e w12 ⟨rfl, hb12⟩
              rw [HTX.out]
              go_wp2
              go_ret
              exact ⟨rfl, below_seq b9 (below_seq (drewN_below _ _) hb12)⟩

end Go.Proofs.Ytlnnoeojgdeagaa
