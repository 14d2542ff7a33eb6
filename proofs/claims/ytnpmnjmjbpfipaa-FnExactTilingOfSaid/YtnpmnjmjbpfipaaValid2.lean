/- Contracts of the two functions RegionValid. -/
import Derived.Test.YtnpmnjmjbpfipaaValid
namespace Go.Proofs.Ytnpmnjmjbpfipaa
open Go.RowKit
set_option linter.unusedVariables false
set_option maxRecDepth 100000
set_option linter.unusedSimpArgs false

def rv (W T : Int) (xs : List Bool) : Bool := decide (1 ≤ W ∧ W ≤ 6 ∧ 1 ≤ T ∧ T ≤ 6 ∧ (xs.length : Int) = W * T ∧ cnt xs ≤ 24)

theorem mul_bd {W T : Int} (h1 : 1 ≤ W) (h2 : W ≤ 6) (h3 : 1 ≤ T) (h4 : T ≤ 6) : 1 ≤ W * T ∧ W * T ≤ 36 := by
  obtain rfl | rfl | rfl | rfl | rfl | rfl : W = 1 ∨ W = 2 ∨ W = 3 ∨ W = 4 ∨ W = 5 ∨ W = 6 := by omega
  all_goals omega

theorem rv_last {W T : Int} {xs : List Bool} (h1 : 1 ≤ W) (h2 : W ≤ 6) (h3 : 1 ≤ T) (h4 : T ≤ 6) (h5 : (xs.length : Int) = W * T) : decide ((cnt xs : Int) ≤ 24) = rv W T xs := by
  rw [Bool.eq_iff_iff]
  simp only [rv, decide_eq_true_eq]
  constructor
  · intro h; exact ⟨h1, h2, h3, h4, h5, by omega⟩
  · intro h; omega

set_option maxHeartbeats 1000000 in
theorem sRegionValid_any (W T : Int) (a : Option Addr) (n cap : Nat) (xs : List Bool) (w : World) (hn : n = xs.length) (hn' : n ≤ 1048576) (ha : BoolsAt w a xs) :
    Calls Try.prog 59 #[.agg #[.int .i64 W, .int .i64 T, .slice a n cap]] w fun e w' => e = .returned (.bool (rv W T xs)) ∧ Below w.heap.size w w' := by
  have HN := Lib.hid hn; clear hn
  have HA := Lib.hid ha; clear ha
  by_cases h1 : inB W 1 6 = true
  · by_cases h2 : inB T 1 6 = true
    · have ⟨h1a, h1b⟩ : 1 ≤ W ∧ W ≤ 6 := by simpa [inB] using h1
      have ⟨h2a, h2b⟩ : 1 ≤ T ∧ T ≤ 6 := by simpa [inB] using h2
      have ⟨hm1, hm2⟩ := mul_bd h1a h1b h2a h2b
      by_cases h3 : ((n : Int) == W * T) = true
      · go_enter Try.func59, Try.ntmps59
        go_wp2_with (first
          | (go_at_call 52; refine (l1In_any _ _ _ _).mono ?_; rintro e w1 ⟨rfl, rfl⟩)
          | (go_at_call 90; refine (l1Count_any _ _ _ xs _ HN.out hn' (HA.out.one _)).mono ?_; rintro e w1 ⟨rfl, rfl⟩))
        go_ret
        exact ⟨ret_bool (rv_last h1a h1b h2a h2b (by rw [← HN.out]; simpa using h3)), below1 _ _⟩
      · rw [Bool.not_eq_true] at h3
        go_enter Try.func59, Try.ntmps59
        go_wp2_with (first
          | (go_at_call 52; refine (l1In_any _ _ _ _).mono ?_; rintro e w1 ⟨rfl, rfl⟩))
        go_ret
        exact ⟨ret_bool (by simp at h3; simp [rv]; rw [← HN.out]; omega), below1 _ _⟩
    · rw [Bool.not_eq_true] at h2
      go_enter Try.func59, Try.ntmps59
      go_wp2_with (first
          | (go_at_call 52; refine (l1In_any _ _ _ _).mono ?_; rintro e w1 ⟨rfl, rfl⟩))
      go_ret
      exact ⟨ret_bool (by simp [inB] at h2; simp [rv]; omega), below1 _ _⟩
  · rw [Bool.not_eq_true] at h1
    go_enter Try.func59, Try.ntmps59
    go_wp2_with (first
          | (go_at_call 52; refine (l1In_any _ _ _ _).mono ?_; rintro e w1 ⟨rfl, rfl⟩))
    go_ret
    exact ⟨ret_bool (by simp [inB] at h1; simp [rv]; omega), below1 _ _⟩

set_option maxHeartbeats 1000000 in
theorem iRegionValid_any (W T : Int) (a : Option Addr) (n cap : Nat) (xs : List Bool) (w : World) (hn : n = xs.length) (hn' : n ≤ 1048576) (ha : BoolsAt w a xs) :
    Calls Try.prog 62 #[.agg #[.int .i64 W, .int .i64 T, .slice a n cap]] w fun e w' => e = .returned (.bool (rv W T xs)) ∧ Below w.heap.size w w' := by
  have HN := Lib.hid hn; clear hn
  have HA := Lib.hid ha; clear ha
  by_cases h1 : sidesB W T = true
  · have ⟨h1a, h1b, h2a, h2b⟩ : 1 ≤ W ∧ W ≤ 6 ∧ 1 ≤ T ∧ T ≤ 6 := by simpa [sidesB] using h1
    have ⟨hm1, hm2⟩ := mul_bd h1a h1b h2a h2b
    by_cases h3 : ((n : Int) != W * T) = true
    · go_enter Try.func62, Try.ntmps62
      go_wp2_with (first
          | (go_at_call 91; refine (sidesOk_any _ _ _).mono ?_; rintro e w1 ⟨rfl, rfl⟩))
      go_ret
      exact ⟨ret_bool (by simp at h3; simp [rv]; rw [← HN.out]; omega), below1 _ _⟩
    · rw [Bool.not_eq_true] at h3
      go_enter Try.func62, Try.ntmps62
      go_wp2_with (first
          | (go_at_call 91; refine (sidesOk_any _ _ _).mono ?_; rintro e w1 ⟨rfl, rfl⟩)
          | (go_at_call 92; refine (cellsIn_any _ _ _ _ _ xs _ HN.out hn' (HA.out.one _)).mono ?_; rintro e w1 ⟨rfl, hb⟩))
      go_ret
      exact ⟨ret_bool (rv_last h1a h1b h2a h2b (by rw [← HN.out]; simpa using h3)), below_seq (below1 _ _) hb⟩
  · rw [Bool.not_eq_true] at h1
    go_enter Try.func62, Try.ntmps62
    go_wp2_with (first
          | (go_at_call 91; refine (sidesOk_any _ _ _).mono ?_; rintro e w1 ⟨rfl, rfl⟩))
    go_ret
    exact ⟨ret_bool (by simp [sidesB] at h1; simp [rv]; omega), below1 _ _⟩

end Go.Proofs.Ytnpmnjmjbpfipaa
