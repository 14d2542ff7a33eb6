/- The law FnExactMatrixValid: its walk. -/
import Derived.Test.YtkmejdapkidjiaaMatS
import Derived.Test.YtkmejdapkidjiaaMatW
namespace Go.Proofs.Ytkmejdapkidjiaa
open Go.RowKit
set_option linter.unusedVariables false
set_option maxRecDepth 100000
set_option linter.unusedSimpArgs false

set_option maxHeartbeats 2000000 in
theorem lawMatrixValid_walk (a : Option Addr) (n cap : Nat) (rows : List (List Int)) (w : World) (hn : n = rows.length) (hn' : n ≤ maxLen) (hr : ∀ i, i < rows.length → (rows.getD i []).length ≤ maxLen) (ha : RowsAt w a rows) :
    Calls Try.prog 4 #[.slice a n cap] w fun e w' => e = .returned (.bool true) ∧ Below w.heap.size w w' := by
  have HN := Lib.hid hn; clear hn
  have HA := Lib.hid ha; clear ha
  have HR := Lib.hid hr; clear hr
  obtain ⟨B, hB⟩ : ∃ B, matB rows = B := ⟨_, rfl⟩
  go_enter Try.func4, Try.ntmps4
  go_wp2_with fail
  refine (szIntSS_any _ _ _ rows _ HN.out hn' HR.out HA.out).mono ?_; rintro e w1 ⟨r, rfl, hs, hb1⟩
  rcases hs with hneg | ⟨h0, hsm, hall⟩
  · go_wp2
    go_ret
    exact ⟨rfl, hb1⟩
  · have HR2 := Lib.hid hall
    clear hall
    have A1 := Lib.hid (HA.out.below hb1)
    go_wp2_with fail
    refine (toIntSS_any _ _ _ rows _ HN.out hsm HR2.out A1.out).mono ?_; rintro e w2 ⟨g2, rfl, hx2, hb2⟩
    have b2 := below_seq hb1 hb2
    have A2 := Lib.hid (A1.out.below hb2)
    have X2 := Lib.hid hx2
    clear hx2
    go_wp2_with fail
    refine (sMatrixValid_any _ _ _ rows _ HN.out hsm HR2.out X2.out).mono ?_; rintro e w3 ⟨rfl, hb3⟩
    rw [hB]
    have b3 := below_seq b2 hb3
    have A3 := Lib.hid (A2.out.below hb3)
    go_wp2_with fail
    refine (toIntSS_any _ _ _ rows _ HN.out hsm HR2.out A3.out).mono ?_; rintro e w4 ⟨g4, rfl, hx4, hb4⟩
    have b4 := below_seq b3 hb4
    have A4 := Lib.hid (A3.out.below hb4)
    have X4 := Lib.hid hx4
    clear hx4
    go_wp2_with fail
    refine (iMatrixValid_any _ _ _ rows _ HN.out hsm HR2.out X4.out).mono ?_; rintro e w5 ⟨rfl, hb5⟩
    rw [hB]
    have b5 := below_seq b4 hb5
    have A5 := Lib.hid (A4.out.below hb5)
    have X5 := Lib.hid (X4.out.below hb5)
    clear hB
    have hbn : (B != B) = false := by simp
    cases B
    all_goals
      clear hbn
      go_wp2_with fail
      refine (toIntSS_any _ _ _ rows _ HN.out hsm HR2.out A5.out).mono ?_; rintro e w6 ⟨g6, rfl, hx6, hb6⟩
      have b6 := below_seq b5 hb6
      have X6 := Lib.hid (X5.out.below hb6)
      have Y6 := Lib.hid hx6
      clear hx6
      go_wp2_with fail
      refine (eqIntSS_below _ _ _ _ _ rows _ HN.out hsm HR2.out X6.out Y6.out).mono ?_; rintro e w7 ⟨rfl, hb7⟩
      have b7 := below_seq b6 hb7
      go_wp2
      go_ret
      exact ⟨rfl, b7⟩
end Go.Proofs.Ytkmejdapkidjiaa
