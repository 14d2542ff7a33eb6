/- Contract of spec.MatrixValid. -/
import Derived.Test.YtngececngelohaaMatV
namespace Go.Proofs.Ytngececngelohaa
open Go.RowKit
set_option linter.unusedVariables false
set_option maxRecDepth 100000
set_option linter.unusedSimpArgs false

set_option maxHeartbeats 1500000 in
theorem sMatrixValid_any (a : Option Addr) (n cap : Nat) (rows : List (List Int)) (w : World) (hn : n = rows.length) (hn' : n ≤ 1048576) (hr : ∀ i, i < rows.length → (rows.getD i []).length ≤ 1048576) (ha : RowsAt w a rows) :
    Calls Try.prog 7 #[.slice a n cap] w fun e w' => e = .returned (.bool (matB rows)) ∧ Below w.heap.size w w' := by
  have HN := Lib.hid hn; clear hn
  have HA := Lib.hid ha; clear ha
  have HR := Lib.hid hr; clear hr
  go_enter Try.func7, Try.ntmps7
  go_wp2
  go_loopw [3, 4] (fun i _ wr => ∃ k : Nat, k ≤ n ∧ i = .int .i64 k ∧ Hid (rowsOk rows k = true) ∧ Below w.heap.size w wr) (fun i _ _ => n - (intOf i).toNat)
  case atStart => exact ⟨0, Nat.zero_le _, rfl, rowsOk_zero rows, Below.refl _ _⟩
  case round =>
    rename World => wo
    obtain ⟨k, hk, rfl, HB, bo⟩ := hrel
    have BO := Lib.hid bo; clear bo
    by_cases hlt : k < n
    · have hkr : k < rows.length := by rw [← HN.out]; exact hlt
      obtain ⟨b1, o1, a1, cap1, rfl, hc1, hx1⟩ := (HA.out.below BO.out) k hkr
      obtain ⟨M, hM⟩ : ∃ M, M = rows.getD k [] := ⟨_, rfl⟩
      have hml : M.length ≤ 1048576 := by rw [hM]; exact HR.out k hkr
      rw [← hM] at hc1 hx1
      have HE := Lib.hid hM
      clear hM hkr
      obtain ⟨m, hm⟩ : ∃ m, m = M.length := ⟨_, rfl⟩
      rw [← hm] at hc1 hml
      have HM := Lib.hid hm; clear hm
      have HX1 := Lib.hid hx1; clear hx1
      have e1 : (k : Int) < n := by omega
      by_cases hmn : m = n
      · subst hmn
        go_wp2
        go_loopw [4] (fun j wr => ∃ l : Nat, l ≤ m ∧ j = .int .i64 l ∧ Hid (∀ i, i < l → badI (M.getD i 0) = false) ∧ wr = wo) (fun j _ => m - (intOf j).toNat)
        case atStart => exact ⟨0, Nat.zero_le _, rfl, fun j hj => absurd hj (Nat.not_lt_zero j), rfl⟩
        case round =>
          obtain ⟨l, hl, rfl, HL, rfl⟩ := hrel
          by_cases hll : l < m
          · obtain ⟨b2, o2, rfl, hc2⟩ := HX1.out l (by rw [← HM.out]; exact hll)
            obtain ⟨y, hy⟩ : ∃ y, y = M.getD l 0 := ⟨_, rfl⟩
            rw [← hy] at hc2
            have HY := Lib.hid hy; clear hy
            have e2 : (l : Int) < m := by omega
            obtain ⟨q, hq⟩ : ∃ q, inB y (-1) 1 = q := ⟨_, rfl⟩
            have HQ := Lib.hid hq
            cases q
            · go_wp2_with (go_at_call 18; refine (l1In_any _ _ _ _).mono ?_; rintro e w1 ⟨rfl, rfl⟩; rw [hq])
              go_ret
              refine ⟨ret_bool ?_, BO.out⟩
              have h1 : rowBad M = true := rowBad_hit (show l < M.length by rw [← HM.out]; exact hll) (by unfold badI; rw [← HY.out, HQ.out]; rfl)
              have : rowOk rows k = false := by unfold rowOk; rw [← HE.out, h1]; simp
              unfold matB
              rw [rowsOk_no (show k < rows.length by rw [← HN.out]; exact hlt) this]
              simp
            · go_wp2_with (go_at_call 18; refine (l1In_any _ _ _ _).mono ?_; rintro e w1 ⟨rfl, rfl⟩; rw [hq])
              go_roundw
              case rel =>
                refine ⟨l + 1, by omega, by go_num, (show Hid _ from fun i hi => ?_), (by trivial)⟩
                by_cases e : i = l
                · subst e; unfold badI; rw [← HY.out, HQ.out]; rfl
                · exact HL.out i (by omega)
              case measure => simp [intOf]; omega
          · obtain rfl : l = m := by omega
            go_wp2
            go_roundw
            case rel =>
              refine ⟨k + 1, by omega, by go_num, (show Hid _ from rowsOk_succ HB.out ?_), BO.out⟩
              unfold rowOk
              rw [← HE.out, rowBad_miss (fun i hi => HL.out i (by rw [HM.out]; exact hi)), ← HM.out, ← HN.out]
              simp
            case measure => simp [intOf]; omega
      · have hmi : ¬ (m : Int) = n := by omega
        go_wp2
        go_ret
        refine ⟨ret_bool ?_, BO.out⟩
        have : rowOk rows k = false := by unfold rowOk; rw [← HE.out, ← HM.out, ← HN.out]; simp [hmn]
        unfold matB
        rw [rowsOk_no (show k < rows.length by rw [← HN.out]; exact hlt) this]
        simp
    · obtain rfl : k = n := by omega
      go_wp2
      go_ret
      refine ⟨ret_bool ?_, BO.out⟩
      unfold matB
      rw [← HN.out, HB.out]
      simp
      try omega
end Go.Proofs.Ytngececngelohaa
