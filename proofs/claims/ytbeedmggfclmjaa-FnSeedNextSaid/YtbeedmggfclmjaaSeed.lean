/- Contracts of both functions SeedNext. -/
import Derived.Test.YtbeedmggfclmjaaValid
namespace Go.Proofs.Ytbeedmggfclmjaa
open Go.RowKit
set_option linter.unusedVariables false
set_option maxRecDepth 100000
set_option linter.unusedSimpArgs false

/-- The seed behind a seed. -/
def seedF (s : Int) : Int := if 0 ≤ s ∧ s ≤ 2147483647 then (s * 1103515245 + 12345) % 2147483648 else -1
theorem seedF_lt (s : Int) : -1 ≤ seedF s ∧ seedF s ≤ 2147483647 := by unfold seedF; split <;> omega
theorem seedF_in {s : Int} (h0 : 0 ≤ s) (h1 : s ≤ 2147483647) : seedF s = (s * 1103515245 + 12345) % 2147483648 ∧ 0 ≤ seedF s := by
  unfold seedF; rw [if_pos ⟨h0, h1⟩]; exact ⟨rfl, by omega⟩
theorem seedF_out {s : Int} (h : s < 0 ∨ 2147483647 < s) : seedF s = -1 := by unfold seedF; rw [if_neg (by omega)]
theorem seedOk_any (s : Int) (w : World) : Calls Try.prog 14 #[.int .i64 s] w fun e w' => e = .returned (.bool (inB s 0 2147483647)) ∧ w = w' := by
  by_cases h0 : s < 0
  · have hi : inB s 0 2147483647 = false := by simp [inB]; omega
    rw [hi]; clear hi
    go_enter Try.func14, Try.ntmps14
    go_wp2
    go_ret
    exact ⟨rfl, rfl⟩
  · by_cases h1 : 2147483647 < s
    · have hi : inB s 0 2147483647 = false := by simp [inB]; omega
      have h2 : ¬ s < 2147483648 := by omega
      have h3 : 0 ≤ s := by omega
      rw [hi]; clear hi
      go_enter Try.func14, Try.ntmps14
      go_wp2
      go_ret
      exact ⟨rfl, rfl⟩
    · have hi : inB s 0 2147483647 = true := by simp [inB]; omega
      have h2 : s < 2147483648 := by omega
      have h3 : 0 ≤ s := by omega
      rw [hi]; clear hi
      go_enter Try.func14, Try.ntmps14
      go_wp2
      go_ret
      exact ⟨rfl, rfl⟩

theorem iSeedNext_any (s : Int) (w : World) : Calls Try.prog 7 #[.int .i64 s] w fun e w' => e = .returned (.int .i64 (seedF s)) ∧ w = w' := by
  by_cases h : s < 0 ∨ 2147483647 < s
  · rw [seedF_out h]
    have HI : Hid (inB s 0 2147483647 = false) := by show _ = _; simp [inB]; omega
    clear h
    go_enter Try.func7, Try.ntmps7
    go_wp2_with fail
    refine (seedOk_any _ _).mono ?_; rintro e w1 ⟨rfl, rfl⟩
    rw [HI.out]
    go_wp2
    go_ret
    exact ⟨rfl, rfl⟩
  · have h0 : 0 ≤ s := by omega
    have h1 : s ≤ 2147483647 := by omega
    have HE := Lib.hid (seedF_in h0 h1).1
    have HI : Hid (inB s 0 2147483647 = true) := by show _ = _; simp [inB]; omega
    rw [HE.out]
    clear h
    go_enter Try.func7, Try.ntmps7
    go_wp2_with fail
    refine (seedOk_any _ _).mono ?_; rintro e w1 ⟨rfl, rfl⟩
    rw [HI.out]
    go_wp2
    go_ret
    exact ⟨rfl, rfl⟩

theorem sSeedNext_any (s : Int) (w : World) : Calls Try.prog 6 #[.int .i64 s] w fun e w' => e = .returned (.int .i64 (seedF s)) ∧ w = w' := by
  by_cases h : s < 0 ∨ 2147483647 < s
  · rw [seedF_out h]
    have HI : Hid (inB s 0 2147483647 = false) := by show _ = _; simp [inB]; omega
    clear h
    go_enter Try.func6, Try.ntmps6
    go_wp2_with fail
    refine (l1In_any _ _ _ _).mono ?_; rintro e w1 ⟨rfl, rfl⟩
    rw [HI.out]
    go_wp2
    go_ret
    exact ⟨rfl, rfl⟩
  · have h0 : 0 ≤ s := by omega
    have h1 : s ≤ 2147483647 := by omega
    have HE := Lib.hid (seedF_in h0 h1).1
    have HI : Hid (inB s 0 2147483647 = true) := by show _ = _; simp [inB]; omega
    rw [HE.out]
    clear h
    go_enter Try.func6, Try.ntmps6
    go_wp2_with fail
    refine (l1In_any _ _ _ _).mono ?_; rintro e w1 ⟨rfl, rfl⟩
    rw [HI.out]
    go_wp2
    go_ret
    exact ⟨rfl, rfl⟩
end Go.Proofs.Ytbeedmggfclmjaa
