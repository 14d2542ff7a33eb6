/- Contracts of the functions TwoRows and ThreeRows. -/
import Derived.Test.YtppfiacellebkaaValid
namespace Go.Proofs.Ytppfiacellebkaa
open Go.RowKit
set_option linter.unusedVariables false
set_option maxRecDepth 100000
set_option linter.unusedSimpArgs false

def fibN : Nat → Nat
  | 0 => 1
  | 1 => 1
  | n + 2 => fibN n + fibN (n + 1)
theorem fibN_le : ∀ n : Nat, fibN n ≤ 2 ^ n ∧ fibN (n + 1) ≤ 2 ^ (n + 1)
  | 0 => by decide
  | n + 1 => by
    obtain ⟨h1, h2⟩ := fibN_le n
    refine ⟨h2, ?_⟩
    have e : fibN (n + 1 + 1) = fibN n + fibN (n + 1) := rfl
    have e2 : 2 ^ (n + 1 + 1) = 2 * 2 ^ (n + 1) := by rw [Nat.pow_succ, Nat.mul_comm]
    have e3 : 2 ^ (n + 1) = 2 * 2 ^ n := by rw [Nat.pow_succ, Nat.mul_comm]
    omega
theorem fibN_small {n : Nat} (h : n ≤ 61) : fibN n ≤ 2305843009213693952 := by
  have h1 := (fibN_le n).1
  have h2 : (2 : Nat) ^ n ≤ 2 ^ 61 := Nat.pow_le_pow_right (by decide) h
  have h3 : (2 : Nat) ^ 61 = 2305843009213693952 := by decide
  omega
/-- How many tilings a field of two rows has. -/
def twoR (c : Int) : Int := if 0 ≤ c ∧ c ≤ 60 then fibN c.toNat else -1

def thrN : Nat → Int
  | 0 => 1
  | 1 => 3
  | n + 2 => 4 * thrN (n + 1) - thrN n
theorem thrN_le : ∀ n : Nat, 0 ≤ thrN n ∧ thrN n ≤ thrN (n + 1) ∧ thrN (n + 1) ≤ 4 ^ (n + 1)
  | 0 => by decide
  | n + 1 => by
    obtain ⟨h1, h2, h3⟩ := thrN_le n
    have e : thrN (n + 1 + 1) = 4 * thrN (n + 1) - thrN n := rfl
    have e2 : (4 : Int) ^ (n + 1 + 1) = 4 * 4 ^ (n + 1) := by rw [Int.pow_succ, Int.mul_comm]
    omega
theorem thrN_small {n : Nat} (h : n ≤ 21) : 0 ≤ thrN n ∧ thrN n ≤ 4398046511104 := by
  obtain ⟨h1, h2, h3⟩ := thrN_le n
  refine ⟨h1, ?_⟩
  cases n with
  | zero => decide
  | succ n =>
    obtain ⟨_, _, g⟩ := thrN_le n
    have h2 : (4 : Nat) ^ (n + 1) ≤ 4 ^ 21 := Nat.pow_le_pow_right (by decide) h
    have h3 : (4 : Nat) ^ 21 = 4398046511104 := by decide
    have h4 : ((4 : Nat) ^ (n + 1) : Int) = (4 : Int) ^ (n + 1) := by simp
    have h5 : (((4 : Nat) ^ (n + 1) : Nat) : Int) ≤ ((4398046511104 : Nat) : Int) := Int.ofNat_le.2 (by omega)
    simp only [Int.natCast_pow] at h5
    have : (4 : Int) ^ (n + 1) ≤ 4398046511104 := h5
    omega
/-- .. of three rows. -/
def threeR (c : Int) : Int := if 0 ≤ c ∧ c ≤ 40 then (if c % 2 = 0 then thrN (c.toNat / 2) else 0) else -1

set_option maxHeartbeats 1000000 in
theorem iTwoRows_any (c : Int) (w : World) : Calls Try.prog 6 #[.int .i64 c] w fun e w' => e = .returned (.int .i64 (twoR c)) ∧ w' = w := by
  by_cases h0 : c < 0
  · go_enter Try.func6, Try.ntmps6
    go_wp2
    go_ret
    exact ⟨ret_int (by unfold twoR; rw [if_neg (by omega)]), rfl⟩
  by_cases h1 : 60 < c
  · go_enter Try.func6, Try.ntmps6
    go_wp2
    go_ret
    exact ⟨ret_int (by unfold twoR; rw [if_neg (by omega)]), rfl⟩
  obtain ⟨n, rfl⟩ : ∃ n : Nat, c = n := ⟨c.toNat, by omega⟩
  go_enter Try.func6, Try.ntmps6
  go_wp2
  go_loop [3, 4, 12] (fun a b i => ∃ k : Nat, k ≤ n ∧ i = .int .i64 k ∧ a = .int .i64 (fibN k) ∧ b = .int .i64 (fibN (k + 1))) (fun _ _ i => n - (intOf i).toNat)
  case atStart => exact ⟨0, Nat.zero_le _, rfl, rfl, rfl⟩
  case round =>
    obtain ⟨k, hk, rfl, rfl, rfl⟩ := hrel
    by_cases hlt : k < n
    · have b1 := fibN_small (n := k) (by omega)
      have b2 := fibN_small (n := k + 1) (by omega)
      have e : (fibN (k + 2) : Int) = (fibN k : Int) + fibN (k + 1) := by have : fibN (k + 2) = fibN k + fibN (k + 1) := rfl; omega
      go_wp2
      go_round
      case rel => exact ⟨k + 1, by omega, by go_num, rfl, by rw [e]⟩
      case measure => simp [intOf]; omega
    · obtain rfl : k = n := by omega
      go_wp2
      go_ret
      exact ⟨ret_int (by unfold twoR; rw [if_pos (by omega)]; simp), rfl⟩

set_option maxHeartbeats 1000000 in
theorem sTwoRows_any (c : Int) (w : World) : Calls Try.prog 7 #[.int .i64 c] w fun e w' => e = .returned (.int .i64 (twoR c)) ∧ w' = w := by
  by_cases h0 : 0 ≤ c ∧ c ≤ 60
  · have hin : inB c 0 60 = true := by unfold inB; exact decide_eq_true h0
    obtain ⟨h0, h1⟩ := h0
    obtain ⟨n, rfl⟩ : ∃ n : Nat, c = n := ⟨c.toNat, by omega⟩
    go_enter Try.func7, Try.ntmps7
    go_wp2_with fail
    refine (l1In_any _ _ _ _).mono ?_; rintro e w1 ⟨rfl, rfl⟩
    rw [hin]
    clear hin
    go_wp2
    go_loop [3, 4, 5, 6] (fun a b i _ => ∃ k : Nat, (k + 1 ≤ n ∨ k = 0) ∧ i = .int .i64 ((k : Int) + 1) ∧ a = .int .i64 (fibN k) ∧ b = .int .i64 (fibN (k + 1))) (fun _ _ i _ => n - (intOf i).toNat)
    case atStart => exact ⟨0, Or.inr rfl, rfl, rfl, rfl⟩
    case round =>
      obtain ⟨k, hk, rfl, rfl, rfl⟩ := hrel
      by_cases hlt : k + 1 < n
      · have b1 := fibN_small (n := k) (by omega)
        have b2 := fibN_small (n := k + 1) (by omega)
        have e : (fibN (k + 2) : Int) = (fibN k : Int) + fibN (k + 1) := by have : fibN (k + 2) = fibN k + fibN (k + 1) := rfl; omega
        go_wp2
        go_round
        case rel => exact ⟨k + 1, by omega, by go_num, rfl, by rw [e]⟩
        case measure => simp [intOf]; omega
      · go_wp2
        go_ret
        refine ⟨ret_int ?_, rfl⟩
        unfold twoR
        rw [if_pos (by omega)]
        rcases hk with hk | rfl
        · obtain rfl : k + 1 = n := by omega
          simp
        · have : n = 0 ∨ n = 1 := by omega
          rcases this with rfl | rfl <;> rfl
  · have hin : inB c 0 60 = false := by unfold inB; exact decide_eq_false h0
    go_enter Try.func7, Try.ntmps7
    go_wp2_with fail
    refine (l1In_any _ _ _ _).mono ?_; rintro e w1 ⟨rfl, rfl⟩
    rw [hin]
    go_wp2
    go_ret
    exact ⟨ret_int (by unfold twoR; rw [if_neg h0]), rfl⟩

set_option maxHeartbeats 1000000 in
theorem iThreeRows_any (c : Int) (w : World) : Calls Try.prog 12 #[.int .i64 c] w fun e w' => e = .returned (.int .i64 (threeR c)) ∧ w' = w := by
  by_cases h0 : c < 0
  · go_enter Try.func12, Try.ntmps12
    go_wp2
    go_ret
    exact ⟨ret_int (by unfold threeR; rw [if_neg (by omega)]), rfl⟩
  by_cases h1 : 40 < c
  · go_enter Try.func12, Try.ntmps12
    go_wp2
    go_ret
    exact ⟨ret_int (by unfold threeR; rw [if_neg (by omega)]), rfl⟩
  have e1 : c.tmod 2 = c % 2 := Int.tmod_eq_emod_of_nonneg (by omega)
  have e2 : c.tdiv 2 = c / 2 := Int.tdiv_eq_ediv_of_nonneg (by omega)
  by_cases h2 : c % 2 = 0
  · obtain ⟨n, rfl⟩ : ∃ n : Nat, c = 2 * (n : Int) := ⟨c.toNat / 2, by omega⟩
    have e3 : (2 * (n : Int)).tdiv 2 = n := by rw [e2]; omega
    have e4 : (2 * (n : Int)).tmod 2 = 0 := by rw [e1]; omega
    clear e1 e2 h2
    go_enter Try.func12, Try.ntmps12
    go_wp2
    go_loop [3, 4, 16] (fun a b i => ∃ k : Nat, k ≤ n ∧ i = .int .i64 k ∧ a = .int .i64 (thrN k) ∧ b = .int .i64 (thrN (k + 1))) (fun _ _ i => n - (intOf i).toNat)
    case atStart => exact ⟨0, Nat.zero_le _, rfl, rfl, rfl⟩
    case round =>
      obtain ⟨k, hk, rfl, rfl, rfl⟩ := hrel
      by_cases hlt : k < n
      · have b1 := thrN_small (n := k) (by omega)
        have b2 := thrN_small (n := k + 1) (by omega)
        have e : thrN (k + 2) = 4 * thrN (k + 1) - thrN k := rfl
        go_wp2
        go_round
        case rel => exact ⟨k + 1, by omega, by go_num, rfl, by rw [e]⟩
        case measure => simp [intOf]; omega
      · obtain rfl : k = n := by omega
        go_wp2
        go_ret
        exact ⟨ret_int (by unfold threeR; rw [if_pos (by omega), if_pos (by omega)]; congr 1; omega), rfl⟩
  · have e3 : c.tmod 2 = 1 := by omega
    clear e1 e2
    go_enter Try.func12, Try.ntmps12
    go_wp2
    go_ret
    exact ⟨ret_int (by unfold threeR; rw [if_pos (by omega), if_neg h2]), rfl⟩

set_option maxHeartbeats 1000000 in
theorem sThreeRows_any (c : Int) (w : World) : Calls Try.prog 13 #[.int .i64 c] w fun e w' => e = .returned (.int .i64 (threeR c)) ∧ w' = w := by
  by_cases h0 : 0 ≤ c ∧ c ≤ 40
  · have hin : inB c 0 40 = true := by unfold inB; exact decide_eq_true h0
    obtain ⟨h0, h1⟩ := h0
    have e1 : c.tmod 2 = c % 2 := Int.tmod_eq_emod_of_nonneg (by omega)
    by_cases h2 : c % 2 = 0
    · obtain ⟨n, rfl⟩ : ∃ n : Nat, c = 2 * (n : Int) := ⟨c.toNat / 2, by omega⟩
      have e4 : (2 * (n : Int)).tmod 2 = 0 := by rw [e1]; omega
      clear e1 h2
      go_enter Try.func13, Try.ntmps13
      go_wp2_with fail
      refine (l1In_any _ _ _ _).mono ?_; rintro e w1 ⟨rfl, rfl⟩
      rw [hin]
      clear hin
      go_wp2
      go_loop [3, 4, 5, 6] (fun a b i _ => ∃ k : Nat, k ≤ n ∧ i = .int .i64 (2 * (k : Int)) ∧ ∃ av : Int, a = .int .i64 av ∧ 0 ≤ av ∧ av ≤ 4398046511104 ∧ thrN (k + 1) = 4 * thrN k - av ∧ b = .int .i64 (thrN k)) (fun _ _ i _ => 2 * n - (intOf i).toNat)
      case atStart => exact ⟨0, Nat.zero_le _, rfl, 1, rfl, by decide, by decide, by decide, rfl⟩
      case round =>
        obtain ⟨k, hk, rfl, av, rfl, ha0, ha1, hav, rfl⟩ := hrel
        by_cases hlt : k < n
        · have b1 := thrN_small (n := k) (by omega)
          have b2 := thrN_small (n := k + 1) (by omega)
          have e : thrN (k + 2) = 4 * thrN (k + 1) - thrN k := rfl
          have HAV := Lib.hid hav; clear hav
          go_wp2
          go_round
          case rel => exact ⟨k + 1, by omega, by go_num, thrN k, rfl, b1.1, b1.2, e, by rw [HAV.out]⟩
          case measure => simp [intOf]; omega
        · obtain rfl : k = n := by omega
          clear hav
          go_wp2
          go_ret
          exact ⟨ret_int (by unfold threeR; rw [if_pos (by omega), if_pos (by omega)]; congr 1; omega), rfl⟩
    · have e3 : c.tmod 2 = 1 := by omega
      clear e1
      go_enter Try.func13, Try.ntmps13
      go_wp2_with fail
      refine (l1In_any _ _ _ _).mono ?_; rintro e w1 ⟨rfl, rfl⟩
      rw [hin]
      clear hin
      go_wp2
      go_ret
      exact ⟨ret_int (by unfold threeR; rw [if_pos (by omega), if_neg h2]), rfl⟩
  · have hin : inB c 0 40 = false := by unfold inB; exact decide_eq_false h0
    go_enter Try.func13, Try.ntmps13
    go_wp2_with fail
    refine (l1In_any _ _ _ _).mono ?_; rintro e w1 ⟨rfl, rfl⟩
    rw [hin]
    go_wp2
    go_ret
    exact ⟨ret_int (by unfold threeR; rw [if_neg h0]), rfl⟩

end Go.Proofs.Ytppfiacellebkaa
