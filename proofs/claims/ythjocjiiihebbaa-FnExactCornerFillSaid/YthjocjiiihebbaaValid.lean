/- Contracts of the two functions RegionValid and of what they call. Merged of: Valid, Valid2, LawValid. -/
import Derived.Test.YthjocjiiihebbaaOwn
namespace Go.Proofs.Ythjocjiiihebbaa
open Go.RowKit
set_option linter.unusedVariables false
set_option maxRecDepth 100000
set_option linter.unusedSimpArgs false

def inB (n lo hi : Int) : Bool := decide (lo ≤ n ∧ n ≤ hi)
theorem l1In_any (n lo hi : Int) (w : World) :
    Calls Try.prog 42 #[.int .i64 n, .int .i64 lo, .int .i64 hi] w fun e w' => e = .returned (.bool (inB n lo hi)) ∧ w = w' := by
  by_cases h1 : lo ≤ n
  · by_cases h2 : n ≤ hi
    all_goals
      go_enter Try.func42, Try.ntmps42
      go_wp2
      go_ret
      exact ⟨ret_bool (by simp [inB, h1, h2]), rfl⟩
  · go_enter Try.func42, Try.ntmps42
    go_wp2
    go_ret
    exact ⟨ret_bool (by simp [inB]; omega), rfl⟩

def cnt (xs : List Bool) : Nat := xs.countP id
theorem cnt_le (xs : List Bool) : cnt xs ≤ xs.length := List.countP_le_length
theorem cnt_take (xs : List Bool) (k : Nat) (h : k < xs.length) : cnt (xs.take (k + 1)) = cnt (xs.take k) + if xs.getD k false then 1 else 0 := by
  rw [List.take_succ_eq_append_getElem h]
  simp only [cnt, List.countP_append, List.countP_cons, List.countP_nil, List.getD, id]
  simp [h]

set_option maxHeartbeats 400000 in
theorem l1Count_any (a : Option Addr) (n cap : Nat) (xs : List Bool) (w : World) (hn : n = xs.length) (hn' : n ≤ 1048576) (ha : BoolsAt w a xs) :
    Calls Try.prog 75 #[.slice a n cap] w fun e w' => e = .returned (.int .i64 (cnt xs)) ∧ w = w' := by
  have HN := Lib.hid hn; clear hn
  have HA := Lib.hid ha; clear ha
  go_enter Try.func75, Try.ntmps75
  go_wp2
  go_loop [3, 4] (fun c i => ∃ k : Nat, k ≤ n ∧ i = .int .i64 k ∧ c = .int .i64 (cnt (xs.take k))) (fun _ i => n - (intOf i).toNat)
  case atStart => exact ⟨0, Nat.zero_le _, rfl, rfl⟩
  case round =>
    obtain ⟨k, hk, rfl, rfl⟩ := hrel
    by_cases hlt : k < n
    · obtain ⟨b1, o1, rfl, hc⟩ := HA.out k (by rw [← HN.out]; exact hlt)
      have hs := cnt_take xs k (by rw [← HN.out]; exact hlt)
      have hb : cnt (xs.take k) ≤ k := Nat.le_trans (cnt_le _) (List.length_take_le _ _)
      cases hx : xs.getD k false
      all_goals
        rw [hx] at hc hs
        have HX := Lib.hid hx; clear hx
        have HS := Lib.hid hs; clear hs
        go_wp2
        go_round
        case rel => exact ⟨k + 1, by omega, by go_num, by rw [HS.out]; go_num⟩
        case measure => simp [intOf]; omega
    · obtain rfl : k = n := by omega
      go_wp2
      go_ret
      exact ⟨ret_int (by rw [HN.out, List.take_length]), rfl⟩

set_option maxHeartbeats 400000 in
theorem cellsIn_any (W T : Int) (a : Option Addr) (n cap : Nat) (xs : List Bool) (w : World) (hn : n = xs.length) (hn' : n ≤ 1048576) (ha : BoolsAt w a xs) :
    Calls Try.prog 72 #[.agg #[.int .i64 W, .int .i64 T, .slice a n cap]] w fun e w' => e = .returned (.int .i64 (cnt xs)) ∧ Below w.heap.size w w' := by
  have HN := Lib.hid hn; clear hn
  have HA := Lib.hid ha; clear ha
  go_enter Try.func72, Try.ntmps72
  go_wp2
  go_loop [3, 9] (fun c i => ∃ k : Nat, k ≤ n ∧ i = .int .i64 k ∧ c = .int .i64 (cnt (xs.take k))) (fun _ i => n - (intOf i).toNat)
  case atStart => exact ⟨0, Nat.zero_le _, rfl, rfl⟩
  case round =>
    obtain ⟨k, hk, rfl, rfl⟩ := hrel
    by_cases hlt : k < n
    · obtain ⟨b1, o1, rfl, hc⟩ := HA.out k (by rw [← HN.out]; exact hlt)
      have hb1 := World.block_lt_of_cell? w _ hc
      simp only at hb1
      have hs := cnt_take xs k (by rw [← HN.out]; exact hlt)
      have hb : cnt (xs.take k) ≤ k := Nat.le_trans (cnt_le _) (List.length_take_le _ _)
      cases hx : xs.getD k false
      all_goals
        rw [hx] at hc hs
        have HX := Lib.hid hx; clear hx
        have HS := Lib.hid hs; clear hs
        go_wp2
        go_round
        case rel => exact ⟨k + 1, by omega, by go_num, by rw [HS.out]; go_num⟩
        case measure => simp [intOf]; omega
    · obtain rfl : k = n := by omega
      go_wp2
      go_ret
      exact ⟨ret_int (by rw [HN.out, List.take_length]), below1 _ _⟩

def sidesB (W T : Int) : Bool := decide (1 ≤ W ∧ W ≤ 6 ∧ 1 ≤ T ∧ T ≤ 6)
theorem sidesOk_any (W T : Int) (w : World) :
    Calls Try.prog 73 #[.int .i64 W, .int .i64 T] w fun e w' => e = .returned (.bool (sidesB W T)) ∧ w = w' := by
  by_cases h1 : 1 ≤ W
  · by_cases h2 : W ≤ 6
    · by_cases h3 : 1 ≤ T
      · by_cases h4 : T ≤ 6
        all_goals
          go_enter Try.func73, Try.ntmps73
          go_wp2
          go_ret
          exact ⟨ret_bool (by simp [sidesB]; omega), rfl⟩
      · go_enter Try.func73, Try.ntmps73
        go_wp2
        go_ret
        exact ⟨ret_bool (by simp [sidesB]; omega), rfl⟩
    · go_enter Try.func73, Try.ntmps73
      go_wp2
      go_ret
      exact ⟨ret_bool (by simp [sidesB]; omega), rfl⟩
  · go_enter Try.func73, Try.ntmps73
    go_wp2
    go_ret
    exact ⟨ret_bool (by simp [sidesB]; omega), rfl⟩

end Go.Proofs.Ythjocjiiihebbaa

namespace Go.Proofs.Ythjocjiiihebbaa
open Go.RowKit
set_option linter.unusedVariables false
set_option maxRecDepth 100000
set_option linter.unusedSimpArgs false

def rv (W T : Int) (xs : List Bool) : Bool := decide (1 ≤ W ∧ W ≤ 6 ∧ 1 ≤ T ∧ T ≤ 6 ∧ (xs.length : Int) = W * T ∧ cnt xs ≤ 24)

theorem mul_bd {W T : Int} (h1 : 1 ≤ W) (h2 : W ≤ 6) (h3 : 1 ≤ T) (h4 : T ≤ 6) : 1 ≤ W * T ∧ W * T ≤ 36 := by
  obtain rfl | rfl | rfl | rfl | rfl | rfl : W = 1 ∨ W = 2 ∨ W = 3 ∨ W = 4 ∨ W = 5 ∨ W = 6 := by omega
  all_goals omega

theorem rv_last {W T : Int} {xs : List Bool} (h1 : 1 ≤ W) (h2 : W ≤ 6) (h3 : 1 ≤ T) (h4 : T ≤ 6) (h5 : (xs.length : Int) = W * T) : decide ((cnt xs : Int) ≤ 24) = rv W T xs := by
  rw [Bool.eq_iff_iff]
  simp only [rv, decide_eq_true_eq]
  constructor
  · intro h; exact ⟨h1, h2, h3, h4, h5, by omega⟩
  · intro h; omega

set_option maxHeartbeats 1000000 in
theorem sRegionValid_any (W T : Int) (a : Option Addr) (n cap : Nat) (xs : List Bool) (w : World) (hn : n = xs.length) (hn' : n ≤ 1048576) (ha : BoolsAt w a xs) :
    Calls Try.prog 49 #[.agg #[.int .i64 W, .int .i64 T, .slice a n cap]] w fun e w' => e = .returned (.bool (rv W T xs)) ∧ Below w.heap.size w w' := by
  have HN := Lib.hid hn; clear hn
  have HA := Lib.hid ha; clear ha
  by_cases h1 : inB W 1 6 = true
  · by_cases h2 : inB T 1 6 = true
    · have ⟨h1a, h1b⟩ : 1 ≤ W ∧ W ≤ 6 := by simpa [inB] using h1
      have ⟨h2a, h2b⟩ : 1 ≤ T ∧ T ≤ 6 := by simpa [inB] using h2
      have ⟨hm1, hm2⟩ := mul_bd h1a h1b h2a h2b
      by_cases h3 : ((n : Int) == W * T) = true
      · go_enter Try.func49, Try.ntmps49
        go_wp2_with (first
          | (go_at_call 42; refine (l1In_any _ _ _ _).mono ?_; rintro e w1 ⟨rfl, rfl⟩)
          | (go_at_call 75; refine (l1Count_any _ _ _ xs _ HN.out hn' (HA.out.one _)).mono ?_; rintro e w1 ⟨rfl, rfl⟩))
        go_ret
        exact ⟨ret_bool (rv_last h1a h1b h2a h2b (by rw [← HN.out]; simpa using h3)), below1 _ _⟩
      · rw [Bool.not_eq_true] at h3
        go_enter Try.func49, Try.ntmps49
        go_wp2_with (first
          | (go_at_call 42; refine (l1In_any _ _ _ _).mono ?_; rintro e w1 ⟨rfl, rfl⟩))
        go_ret
        exact ⟨ret_bool (by simp at h3; simp [rv]; rw [← HN.out]; omega), below1 _ _⟩
    · rw [Bool.not_eq_true] at h2
      go_enter Try.func49, Try.ntmps49
      go_wp2_with (first
          | (go_at_call 42; refine (l1In_any _ _ _ _).mono ?_; rintro e w1 ⟨rfl, rfl⟩))
      go_ret
      exact ⟨ret_bool (by simp [inB] at h2; simp [rv]; omega), below1 _ _⟩
  · rw [Bool.not_eq_true] at h1
    go_enter Try.func49, Try.ntmps49
    go_wp2_with (first
          | (go_at_call 42; refine (l1In_any _ _ _ _).mono ?_; rintro e w1 ⟨rfl, rfl⟩))
    go_ret
    exact ⟨ret_bool (by simp [inB] at h1; simp [rv]; omega), below1 _ _⟩

set_option maxHeartbeats 1000000 in
theorem iRegionValid_any (W T : Int) (a : Option Addr) (n cap : Nat) (xs : List Bool) (w : World) (hn : n = xs.length) (hn' : n ≤ 1048576) (ha : BoolsAt w a xs) :
    Calls Try.prog 51 #[.agg #[.int .i64 W, .int .i64 T, .slice a n cap]] w fun e w' => e = .returned (.bool (rv W T xs)) ∧ Below w.heap.size w w' := by
  have HN := Lib.hid hn; clear hn
  have HA := Lib.hid ha; clear ha
  by_cases h1 : sidesB W T = true
  · have ⟨h1a, h1b, h2a, h2b⟩ : 1 ≤ W ∧ W ≤ 6 ∧ 1 ≤ T ∧ T ≤ 6 := by simpa [sidesB] using h1
    have ⟨hm1, hm2⟩ := mul_bd h1a h1b h2a h2b
    by_cases h3 : ((n : Int) != W * T) = true
    · go_enter Try.func51, Try.ntmps51
      go_wp2_with (first
          | (go_at_call 73; refine (sidesOk_any _ _ _).mono ?_; rintro e w1 ⟨rfl, rfl⟩))
      go_ret
      exact ⟨ret_bool (by simp at h3; simp [rv]; rw [← HN.out]; omega), below1 _ _⟩
    · rw [Bool.not_eq_true] at h3
      go_enter Try.func51, Try.ntmps51
      go_wp2_with (first
          | (go_at_call 73; refine (sidesOk_any _ _ _).mono ?_; rintro e w1 ⟨rfl, rfl⟩)
          | (go_at_call 72; refine (cellsIn_any _ _ _ _ _ xs _ HN.out hn' (HA.out.one _)).mono ?_; rintro e w1 ⟨rfl, hb⟩))
      go_ret
      exact ⟨ret_bool (rv_last h1a h1b h2a h2b (by rw [← HN.out]; simpa using h3)), below_seq (below1 _ _) hb⟩
  · rw [Bool.not_eq_true] at h1
    go_enter Try.func51, Try.ntmps51
    go_wp2_with (first
          | (go_at_call 73; refine (sidesOk_any _ _ _).mono ?_; rintro e w1 ⟨rfl, rfl⟩))
    go_ret
    exact ⟨ret_bool (by simp [sidesB] at h1; simp [rv]; omega), below1 _ _⟩

end Go.Proofs.Ythjocjiiihebbaa

namespace Go.Proofs.Ythjocjiiihebbaa
open Go.RowKit
set_option linter.unusedVariables false
set_option maxRecDepth 100000
set_option linter.unusedSimpArgs false

theorem szB_neg {n : Nat} (h : 1048576 < n) : szB n 1048576 = -1 := by unfold szB; rw [if_pos (by omega)]
theorem szB_pos {n : Nat} (h : n ≤ 1048576) : 0 ≤ szB n 1048576 ∧ szB n 1048576 ≤ 1048576 := by unfold szB; rw [if_neg (by omega)]; omega

end Go.Proofs.Ythjocjiiihebbaa
