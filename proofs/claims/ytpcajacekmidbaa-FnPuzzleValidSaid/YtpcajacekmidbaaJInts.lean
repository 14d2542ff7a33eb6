/- Memory predicates and contracts for lists of integers: read, copied, compared, marked and looked at. Merged of: Ints, RetI. -/
import Derived.Test.YtpcajacekmidbaaJTill
import Derived.OwnWalk
namespace Go.Proofs.Ytpcajacekmidbaa
open Go.RowKit
set_option linter.unusedVariables false
set_option maxRecDepth 100000
set_option linter.unusedSimpArgs false

def inB (n lo hi : Int) : Bool := decide (lo ≤ n ∧ n ≤ hi)
theorem l1In_any (n lo hi : Int) (w : World) :
    Calls Try.prog 51 #[.int .i64 n, .int .i64 lo, .int .i64 hi] w fun e w' => e = .returned (.bool (inB n lo hi)) ∧ w = w' := by
  by_cases h1 : lo ≤ n
  · by_cases h2 : n ≤ hi
    all_goals
      go_enter Try.func51, Try.ntmps51
      go_wp2
      go_ret
      exact ⟨ret_bool (by simp [inB, h1, h2]), rfl⟩
  · go_enter Try.func51, Try.ntmps51
    go_wp2
    go_ret
    exact ⟨ret_bool (by simp [inB]; omega), rfl⟩

def cnt (xs : List Bool) : Nat := xs.countP id
theorem cnt_le (xs : List Bool) : cnt xs ≤ xs.length := List.countP_le_length
theorem cnt_take (xs : List Bool) (k : Nat) (h : k < xs.length) : cnt (xs.take (k + 1)) = cnt (xs.take k) + if xs.getD k false then 1 else 0 := by
  rw [List.take_succ_eq_append_getElem h]
  simp only [cnt, List.countP_append, List.countP_cons, List.countP_nil, List.getD, id]
  simp [h]

set_option maxHeartbeats 400000 in
theorem l1Count_any (a : Option Addr) (n cap : Nat) (xs : List Bool) (w : World) (hn : n = xs.length) (hn' : n ≤ 1048576) (ha : BoolsAt w a xs) :
    Calls Try.prog 103 #[.slice a n cap] w fun e w' => e = .returned (.int .i64 (cnt xs)) ∧ w = w' := by
  have HN := Lib.hid hn; clear hn
  have HA := Lib.hid ha; clear ha
  go_enter Try.func103, Try.ntmps103
  go_wp2
  go_loop [3, 4] (fun c i => ∃ k : Nat, k ≤ n ∧ i = .int .i64 k ∧ c = .int .i64 (cnt (xs.take k))) (fun _ i => n - (intOf i).toNat)
  case atStart => exact ⟨0, Nat.zero_le _, rfl, rfl⟩
  case round =>
    obtain ⟨k, hk, rfl, rfl⟩ := hrel
    by_cases hlt : k < n
    · obtain ⟨b1, o1, rfl, hc⟩ := HA.out k (by rw [← HN.out]; exact hlt)
      have hs := cnt_take xs k (by rw [← HN.out]; exact hlt)
      have hb : cnt (xs.take k) ≤ k := Nat.le_trans (cnt_le _) (List.length_take_le _ _)
      cases hx : xs.getD k false
      all_goals
        rw [hx] at hc hs
        have HX := Lib.hid hx; clear hx
        have HS := Lib.hid hs; clear hs
        go_wp2
        go_round
        case rel => exact ⟨k + 1, by omega, by go_num, by rw [HS.out]; go_num⟩
        case measure => simp [intOf]; omega
    · obtain rfl : k = n := by omega
      go_wp2
      go_ret
      exact ⟨ret_int (by rw [HN.out, List.take_length]), rfl⟩

set_option maxHeartbeats 400000 in
theorem cellsIn_any (W T : Int) (a : Option Addr) (n cap : Nat) (xs : List Bool) (w : World) (hn : n = xs.length) (hn' : n ≤ 1048576) (ha : BoolsAt w a xs) :
    Calls Try.prog 102 #[.agg #[.int .i64 W, .int .i64 T, .slice a n cap]] w fun e w' => e = .returned (.int .i64 (cnt xs)) ∧ Below w.heap.size w w' := by
  have HN := Lib.hid hn; clear hn
  have HA := Lib.hid ha; clear ha
  go_enter Try.func102, Try.ntmps102
  go_wp2
  go_loop [3, 9] (fun c i => ∃ k : Nat, k ≤ n ∧ i = .int .i64 k ∧ c = .int .i64 (cnt (xs.take k))) (fun _ i => n - (intOf i).toNat)
  case atStart => exact ⟨0, Nat.zero_le _, rfl, rfl⟩
  case round =>
    obtain ⟨k, hk, rfl, rfl⟩ := hrel
    by_cases hlt : k < n
    · obtain ⟨b1, o1, rfl, hc⟩ := HA.out k (by rw [← HN.out]; exact hlt)
      have hb1 := World.block_lt_of_cell? w _ hc
      simp only at hb1
      have hs := cnt_take xs k (by rw [← HN.out]; exact hlt)
      have hb : cnt (xs.take k) ≤ k := Nat.le_trans (cnt_le _) (List.length_take_le _ _)
      cases hx : xs.getD k false
      all_goals
        rw [hx] at hc hs
        have HX := Lib.hid hx; clear hx
        have HS := Lib.hid hs; clear hs
        go_wp2
        go_round
        case rel => exact ⟨k + 1, by omega, by go_num, by rw [HS.out]; go_num⟩
        case measure => simp [intOf]; omega
    · obtain rfl : k = n := by omega
      go_wp2
      go_ret
      exact ⟨ret_int (by rw [HN.out, List.take_length]), below1 _ _⟩

def sidesB (W T : Int) : Bool := decide (1 ≤ W ∧ W ≤ 6 ∧ 1 ≤ T ∧ T ≤ 6)
theorem sidesOk_any (W T : Int) (w : World) :
    Calls Try.prog 101 #[.int .i64 W, .int .i64 T] w fun e w' => e = .returned (.bool (sidesB W T)) ∧ w = w' := by
  by_cases h1 : 1 ≤ W
  · by_cases h2 : W ≤ 6
    · by_cases h3 : 1 ≤ T
      · by_cases h4 : T ≤ 6
        all_goals
          go_enter Try.func101, Try.ntmps101
          go_wp2
          go_ret
          exact ⟨ret_bool (by simp [sidesB]; omega), rfl⟩
      · go_enter Try.func101, Try.ntmps101
        go_wp2
        go_ret
        exact ⟨ret_bool (by simp [sidesB]; omega), rfl⟩
    · go_enter Try.func101, Try.ntmps101
      go_wp2
      go_ret
      exact ⟨ret_bool (by simp [sidesB]; omega), rfl⟩
  · go_enter Try.func101, Try.ntmps101
    go_wp2
    go_ret
    exact ⟨ret_bool (by simp [sidesB]; omega), rfl⟩

end Go.Proofs.Ytpcajacekmidbaa

namespace Go.Proofs.Ytpcajacekmidbaa
open Go.RowKit
set_option linter.unusedVariables false
set_option maxRecDepth 100000
set_option linter.unusedSimpArgs false

def rv (W T : Int) (xs : List Bool) : Bool := decide (1 ≤ W ∧ W ≤ 6 ∧ 1 ≤ T ∧ T ≤ 6 ∧ (xs.length : Int) = W * T ∧ cnt xs ≤ 24)

theorem mul_bd {W T : Int} (h1 : 1 ≤ W) (h2 : W ≤ 6) (h3 : 1 ≤ T) (h4 : T ≤ 6) : 1 ≤ W * T ∧ W * T ≤ 36 := by
  obtain rfl | rfl | rfl | rfl | rfl | rfl : W = 1 ∨ W = 2 ∨ W = 3 ∨ W = 4 ∨ W = 5 ∨ W = 6 := by omega
  all_goals omega

theorem rv_last {W T : Int} {xs : List Bool} (h1 : 1 ≤ W) (h2 : W ≤ 6) (h3 : 1 ≤ T) (h4 : T ≤ 6) (h5 : (xs.length : Int) = W * T) : decide ((cnt xs : Int) ≤ 24) = rv W T xs := by
  rw [Bool.eq_iff_iff]
  simp only [rv, decide_eq_true_eq]
  constructor
  · intro h; exact ⟨h1, h2, h3, h4, h5, by omega⟩
  · intro h; omega

set_option maxHeartbeats 1000000 in
theorem sRegionValid_any (W T : Int) (a : Option Addr) (n cap : Nat) (xs : List Bool) (w : World) (hn : n = xs.length) (hn' : n ≤ 1048576) (ha : BoolsAt w a xs) :
    Calls Try.prog 50 #[.agg #[.int .i64 W, .int .i64 T, .slice a n cap]] w fun e w' => e = .returned (.bool (rv W T xs)) ∧ Below w.heap.size w w' := by
  have HN := Lib.hid hn; clear hn
  have HA := Lib.hid ha; clear ha
  by_cases h1 : inB W 1 6 = true
  · by_cases h2 : inB T 1 6 = true
    · have ⟨h1a, h1b⟩ : 1 ≤ W ∧ W ≤ 6 := by simpa [inB] using h1
      have ⟨h2a, h2b⟩ : 1 ≤ T ∧ T ≤ 6 := by simpa [inB] using h2
      have ⟨hm1, hm2⟩ := mul_bd h1a h1b h2a h2b
      by_cases h3 : ((n : Int) == W * T) = true
      · go_enter Try.func50, Try.ntmps50
        go_wp2_with (first
          | (go_at_call 51; refine (l1In_any _ _ _ _).mono ?_; rintro e w1 ⟨rfl, rfl⟩)
          | (go_at_call 103; refine (l1Count_any _ _ _ xs _ HN.out hn' (HA.out.one _)).mono ?_; rintro e w1 ⟨rfl, rfl⟩))
        go_ret
        exact ⟨ret_bool (rv_last h1a h1b h2a h2b (by rw [← HN.out]; simpa using h3)), below1 _ _⟩
      · rw [Bool.not_eq_true] at h3
        go_enter Try.func50, Try.ntmps50
        go_wp2_with (first
          | (go_at_call 51; refine (l1In_any _ _ _ _).mono ?_; rintro e w1 ⟨rfl, rfl⟩))
        go_ret
        exact ⟨ret_bool (by simp at h3; simp [rv]; rw [← HN.out]; omega), below1 _ _⟩
    · rw [Bool.not_eq_true] at h2
      go_enter Try.func50, Try.ntmps50
      go_wp2_with (first
          | (go_at_call 51; refine (l1In_any _ _ _ _).mono ?_; rintro e w1 ⟨rfl, rfl⟩))
      go_ret
      exact ⟨ret_bool (by simp [inB] at h2; simp [rv]; omega), below1 _ _⟩
  · rw [Bool.not_eq_true] at h1
    go_enter Try.func50, Try.ntmps50
    go_wp2_with (first
          | (go_at_call 51; refine (l1In_any _ _ _ _).mono ?_; rintro e w1 ⟨rfl, rfl⟩))
    go_ret
    exact ⟨ret_bool (by simp [inB] at h1; simp [rv]; omega), below1 _ _⟩

set_option maxHeartbeats 1000000 in
theorem iRegionValid_any (W T : Int) (a : Option Addr) (n cap : Nat) (xs : List Bool) (w : World) (hn : n = xs.length) (hn' : n ≤ 1048576) (ha : BoolsAt w a xs) :
    Calls Try.prog 48 #[.agg #[.int .i64 W, .int .i64 T, .slice a n cap]] w fun e w' => e = .returned (.bool (rv W T xs)) ∧ Below w.heap.size w w' := by
  have HN := Lib.hid hn; clear hn
  have HA := Lib.hid ha; clear ha
  by_cases h1 : sidesB W T = true
  · have ⟨h1a, h1b, h2a, h2b⟩ : 1 ≤ W ∧ W ≤ 6 ∧ 1 ≤ T ∧ T ≤ 6 := by simpa [sidesB] using h1
    have ⟨hm1, hm2⟩ := mul_bd h1a h1b h2a h2b
    by_cases h3 : ((n : Int) != W * T) = true
    · go_enter Try.func48, Try.ntmps48
      go_wp2_with (first
          | (go_at_call 101; refine (sidesOk_any _ _ _).mono ?_; rintro e w1 ⟨rfl, rfl⟩))
      go_ret
      exact ⟨ret_bool (by simp at h3; simp [rv]; rw [← HN.out]; omega), below1 _ _⟩
    · rw [Bool.not_eq_true] at h3
      go_enter Try.func48, Try.ntmps48
      go_wp2_with (first
          | (go_at_call 101; refine (sidesOk_any _ _ _).mono ?_; rintro e w1 ⟨rfl, rfl⟩)
          | (go_at_call 102; refine (cellsIn_any _ _ _ _ _ xs _ HN.out hn' (HA.out.one _)).mono ?_; rintro e w1 ⟨rfl, hb⟩))
      go_ret
      exact ⟨ret_bool (rv_last h1a h1b h2a h2b (by rw [← HN.out]; simpa using h3)), below_seq (below1 _ _) hb⟩
  · rw [Bool.not_eq_true] at h1
    go_enter Try.func48, Try.ntmps48
    go_wp2_with (first
          | (go_at_call 101; refine (sidesOk_any _ _ _).mono ?_; rintro e w1 ⟨rfl, rfl⟩))
    go_ret
    exact ⟨ret_bool (by simp [sidesB] at h1; simp [rv]; omega), below1 _ _⟩

end Go.Proofs.Ytpcajacekmidbaa

namespace Go.Proofs.Ytpcajacekmidbaa
open Go.RowKit
set_option linter.unusedVariables false
set_option maxRecDepth 100000
set_option linter.unusedSimpArgs false

end Go.Proofs.Ytpcajacekmidbaa

namespace Go.Proofs.Ytpcajacekmidbaa
open Go.RowKit
set_option linter.unusedVariables false
set_option maxRecDepth 100000
set_option linter.unusedSimpArgs false

theorem prod_bd {W T : Int} (h0 : 0 ≤ W) (h1 : W ≤ 100) (h2 : 0 ≤ T) (h3 : T ≤ 100) : 0 ≤ W * T ∧ W * T ≤ 10000 := by
  have a : 0 ≤ W * T := Int.mul_nonneg h0 h2
  have b : W * T ≤ 100 * T := Int.mul_le_mul_of_nonneg_right h1 h2
  omega

theorem rv_true {W T : Int} {xs : List Bool} (h : rv W T xs = true) : 1 ≤ W ∧ W ≤ 6 ∧ 1 ≤ T ∧ T ≤ 6 ∧ (xs.length : Int) = W * T ∧ cnt xs ≤ 24 := by simpa [rv] using h

end Go.Proofs.Ytpcajacekmidbaa

namespace Go.Proofs.Ytpcajacekmidbaa
open Go.RowKit
set_option linter.unusedVariables false
set_option maxRecDepth 100000
set_option linter.unusedSimpArgs false

def okOf (way : Int) : Bool := decide (1 ≤ way ∧ way ≤ 4)
/-- The cell beside a cell of a field. -/
def stepI (W T k way : Int) : Int :=
  if way = 1 ∧ k % W < W - 1 then k + 1
  else if way = 2 ∧ k / W < T - 1 then k + W
  else if way = 3 ∧ 0 < k % W then k - 1
  else if way = 4 ∧ 0 < k / W then k - W else -1

theorem cell_split {W T k : Int} (hW : 1 ≤ W) (hk : 0 ≤ k) (hk1 : k < W * T) : 0 ≤ k % W ∧ k % W < W ∧ 0 ≤ k / W ∧ k / W < T ∧ k / W * W + k % W = k := by
  refine ⟨Int.emod_nonneg _ (by omega), Int.emod_lt_of_pos _ (by omega), Int.ediv_nonneg hk (by omega), ?_, ?_⟩
  · exact Int.ediv_lt_of_lt_mul (by omega) (by rw [Int.mul_comm]; exact hk1)
  · rw [Int.mul_comm]; exact Int.mul_ediv_add_emod k W

theorem step_bad {W T k way : Int} (ho : okOf way = false) : stepI W T k way = -1 := by
  simp only [okOf, decide_eq_false_iff_not] at ho
  unfold stepI
  rw [if_neg (by omega), if_neg (by omega), if_neg (by omega), if_neg (by omega)]

theorem step_bd {W T k way : Int} (hW : 1 ≤ W) (hk : 0 ≤ k) (hk1 : k < W * T) : stepI W T k way = -1 ∨ (0 ≤ stepI W T k way ∧ stepI W T k way < W * T) := by
  obtain ⟨m1, m2, m3, m4, m5⟩ := cell_split hW hk hk1
  unfold stepI
  have r1 : k / W ≤ T - 1 → (k / W) * W ≤ (T - 1) * W := fun h => Int.mul_le_mul_of_nonneg_right h (by omega)
  have r2 : k / W + 1 ≤ T - 1 → (k / W + 1) * W ≤ (T - 1) * W := fun h => Int.mul_le_mul_of_nonneg_right h (by omega)
  have r3 : 1 ≤ k / W → 1 * W ≤ (k / W) * W := fun h => Int.mul_le_mul_of_nonneg_right h (by omega)
  have r0 : 0 ≤ k / W * W := Int.mul_nonneg m3 (by omega)
  have e1 : (T - 1) * W = W * T - W := by rw [Int.sub_mul, Int.mul_comm T W]; omega
  have e2 : (k / W + 1) * W = k / W * W + W := by rw [Int.add_mul]; omega
  split
  · right; omega
  · split
    · right
      have := r2 (by omega)
      omega
    · split
      · right; omega
      · split
        · right
          have := r3 (by omega)
          omega
        · left; rfl

/-- The opposite direction. -/
def backI (way : Int) : Int := (way + 1) % 4 + 1

end Go.Proofs.Ytpcajacekmidbaa

namespace Go.Proofs.Ytpcajacekmidbaa
open Go.RowKit
set_option linter.unusedVariables false
set_option maxRecDepth 100000
set_option linter.unusedSimpArgs false

theorem l2Back_any (way : Int) (w : World) (h0 : 0 ≤ way) (h1 : way ≤ 1000) :
    Calls Try.prog 61 #[.int .i64 way] w fun e w' => e = .returned (.int .i64 (backI way)) ∧ w = w' := by
  go_enter Try.func61, Try.ntmps61
  go_wp2
  go_ret
  exact ⟨rfl, rfl⟩

/-- The cell beside one that may not be there. -/
def cellB (W T : Int) (n : Nat) (k way : Int) : Int := if 0 ≤ k ∧ k < n then stepI W T k way else -1
theorem stepI_edge {W T k way : Int} (h : stepI W T k way ≠ -1) : okOf way = true := by
  cases ho : okOf way
  · exact absurd (step_bad ho) h
  · rfl

/-- The cell beside one, or -1, in any region. -/
def stepTo (W T : Int) (xs : List Bool) (k way : Int) : Int := if rv W T xs then cellB W T xs.length k way else -1

end Go.Proofs.Ytpcajacekmidbaa

namespace Go.Proofs.Ytpcajacekmidbaa
open Go.RowKit
set_option linter.unusedVariables false
set_option maxRecDepth 100000
set_option linter.unusedSimpArgs false

set_option maxHeartbeats 1000000 in
theorem l2Step_any (W T : Int) (a : Option Addr) (n cap : Nat) (k way : Int) (w : World) (hW0 : 1 ≤ W) (hW1 : W ≤ 6) (hT0 : 1 ≤ T) (hT1 : T ≤ 6) (h0 : 0 ≤ k) (h1 : k < W * T) :
    Calls Try.prog 60 #[.agg #[.int .i64 W, .int .i64 T, .slice a n cap], .int .i64 k, .int .i64 way] w fun e w' => e = .returned (.int .i64 (stepI W T k way)) ∧ Below w.heap.size w w' := by
  have pb := (prod_bd (W := W) (T := T) (by omega) (by omega) (by omega) (by omega)).2
  obtain ⟨m1, m2, m3, m4, m5⟩ := cell_split (W := W) (T := T) hW0 h0 h1
  have e9 : k ≤ 10000 := by omega
  clear m5 h1
  have hW0' : W ≠ 0 := by omega
  by_cases hw1 : way = 1
  · subst hw1
    by_cases hc : k % W < W - 1
    · have hv : stepI W T k 1 = k + 1 := by simp [stepI, hc]
      rw [hv]; clear hv
      go_enter Try.func60, Try.ntmps60
      go_wp2
      go_quiet (fail)
      go_wp2
      go_ret
      first | exact ⟨rfl, below_seq (below1 _ _) (drewN_below _ _)⟩ | exact ⟨rfl, below_seq (below1 _ _) (below_seq (drewN_below _ _) (drewN_below _ _))⟩
    · have hv : stepI W T k 1 = -1 := by simp [stepI]; omega
      rw [hv]; clear hv
      go_enter Try.func60, Try.ntmps60
      go_wp2
      go_quiet (fail)
      go_wp2
      go_quiet (fail)
      go_wp2
      go_ret
      first | exact ⟨rfl, below_seq (below1 _ _) (drewN_below _ _)⟩ | exact ⟨rfl, below_seq (below1 _ _) (below_seq (drewN_below _ _) (drewN_below _ _))⟩
  by_cases hw2 : way = 2
  · subst hw2
    by_cases hc : k / W < T - 1
    · have hv : stepI W T k 2 = k + W := by simp [stepI, hc]
      rw [hv]; clear hv
      go_enter Try.func60, Try.ntmps60
      go_wp2
      go_quiet (fail)
      go_wp2
      go_quiet (fail)
      go_wp2
      go_ret
      first | exact ⟨rfl, below_seq (below1 _ _) (drewN_below _ _)⟩ | exact ⟨rfl, below_seq (below1 _ _) (below_seq (drewN_below _ _) (drewN_below _ _))⟩
    · have hv : stepI W T k 2 = -1 := by simp [stepI]; omega
      rw [hv]; clear hv
      go_enter Try.func60, Try.ntmps60
      go_wp2
      go_quiet (fail)
      go_wp2
      go_quiet (fail)
      go_wp2
      go_ret
      first | exact ⟨rfl, below_seq (below1 _ _) (drewN_below _ _)⟩ | exact ⟨rfl, below_seq (below1 _ _) (below_seq (drewN_below _ _) (drewN_below _ _))⟩
  by_cases hw3 : way = 3
  · subst hw3
    by_cases hc : 0 < k % W
    · have hv : stepI W T k 3 = k - 1 := by simp [stepI, hc]
      rw [hv]; clear hv
      go_enter Try.func60, Try.ntmps60
      go_wp2
      go_quiet (fail)
      go_wp2
      go_quiet (fail)
      go_wp2
      go_ret
      first | exact ⟨rfl, below_seq (below1 _ _) (drewN_below _ _)⟩ | exact ⟨rfl, below_seq (below1 _ _) (below_seq (drewN_below _ _) (drewN_below _ _))⟩
    · have hv : stepI W T k 3 = -1 := by simp [stepI]; omega
      rw [hv]; clear hv
      go_enter Try.func60, Try.ntmps60
      go_wp2
      go_quiet (fail)
      go_wp2
      go_quiet (fail)
      go_wp2
      go_ret
      first | exact ⟨rfl, below_seq (below1 _ _) (drewN_below _ _)⟩ | exact ⟨rfl, below_seq (below1 _ _) (below_seq (drewN_below _ _) (drewN_below _ _))⟩
  by_cases hw4 : way = 4
  · subst hw4
    by_cases hc : 0 < k / W
    · have hv : stepI W T k 4 = k - W := by simp [stepI, hc]
      rw [hv]; clear hv
      go_enter Try.func60, Try.ntmps60
      go_wp2
      go_quiet (fail)
      go_wp2
      go_quiet (fail)
      go_wp2
      go_ret
      first | exact ⟨rfl, below_seq (below1 _ _) (drewN_below _ _)⟩ | exact ⟨rfl, below_seq (below1 _ _) (below_seq (drewN_below _ _) (drewN_below _ _))⟩
    · have hv : stepI W T k 4 = -1 := by simp [stepI]; omega
      rw [hv]; clear hv
      go_enter Try.func60, Try.ntmps60
      go_wp2
      go_quiet (fail)
      go_wp2
      go_quiet (fail)
      go_wp2
      go_ret
      first | exact ⟨rfl, below_seq (below1 _ _) (drewN_below _ _)⟩ | exact ⟨rfl, below_seq (below1 _ _) (below_seq (drewN_below _ _) (drewN_below _ _))⟩
  have hv : stepI W T k way = -1 := by unfold stepI; rw [if_neg (by omega), if_neg (by omega), if_neg (by omega), if_neg (by omega)]
  rw [hv]; clear hv
  have b1 : (way == 1) = false := by simpa using hw1
  have b2 : (way == 2) = false := by simpa using hw2
  have b3 : (way == 3) = false := by simpa using hw3
  have b4 : (way == 4) = false := by simpa using hw4
  go_enter Try.func60, Try.ntmps60
  go_wp2
  go_quiet (fail)
  go_wp2
  go_quiet (fail)
  go_wp2
  go_ret
  first | exact ⟨rfl, below_seq (below1 _ _) (drewN_below _ _)⟩ | exact ⟨rfl, below_seq (below1 _ _) (below_seq (drewN_below _ _) (drewN_below _ _))⟩

end Go.Proofs.Ytpcajacekmidbaa

namespace Go.Proofs.Ytpcajacekmidbaa
open Go.RowKit
set_option linter.unusedVariables false
set_option maxRecDepth 100000
set_option linter.unusedSimpArgs false

def IntsAt (w : World) (a : Option Addr) (xs : List Int) : Prop :=
  ∀ i, i < xs.length → ∃ b off, a = some ⟨b, off, none⟩ ∧ w.cell? ⟨b, off + i, none⟩ = some (.int .i64 (xs.getD i 0))

theorem IntsAt.later {w w' : World} {B : Nat} {a : Option Addr} {xs : List Int} (h : IntsAt w a xs) (hb : Below B w w') (hB : w.heap.size ≤ B) : IntsAt w' a xs := by
  intro i hi
  obtain ⟨b, off, rfl, hc⟩ := h i hi
  refine ⟨b, off, rfl, ?_⟩
  have hbl := World.block_lt_of_cell? w _ hc
  exact (hb.cell (p := ⟨b, off + i, none⟩) (Nat.lt_of_lt_of_le hbl hB)).trans hc

theorem IntsAt.one {w : World} {a : Option Addr} {xs : List Int} (h : IntsAt w a xs) (o1 : Obj) : IntsAt (w.alloc o1) a xs := h.later (below1 w o1) (Nat.le_refl _)

theorem IntsAt.two {w : World} {a : Option Addr} {xs : List Int} (h : IntsAt w a xs) (o1 o2 : Obj) : IntsAt ((w.alloc o1).alloc o2) a xs := h.later (below2 w o1 o2) (Nat.le_refl _)

theorem IntsAt.below {w w' : World} {a : Option Addr} {xs : List Int} (h : IntsAt w a xs) (hb : Below w.heap.size w w') : IntsAt w' a xs := h.later hb (Nat.le_refl _)

def OwnsI (w : World) (B : Nat) (v : Value) (xs : List Int) : Prop := w.ownsRow B 3 1 v xs.length (xs.map (Value.int .i64))

theorem infoInt : (Try.prog.info? 3).map (fun i => (i.zero, i.size, i.bytes)) = some (some (.int .i64 0), 1, 8) := by kernel_rfl

theorem OwnsI.lower {w : World} {B B' : Nat} {v : Value} {xs : List Int} (h : OwnsI w B v xs) (hB : B' ≤ B) : OwnsI w B' v xs :=
  ⟨h.1, h.2.elim Or.inl (fun ⟨g, cap, cur, hv, hg, r⟩ => Or.inr ⟨g, cap, cur, hv, Nat.le_trans hB hg, r⟩)⟩

theorem OwnsI.setBelow {w : World} {B : Nat} {v : Value} {xs : List Int} (h : OwnsI w B v xs) {p : Addr} (hp : p.block < B) (u : Value) : OwnsI (w.setCell p u) B v xs :=
  ownsRow_setCell_below h hp u

theorem OwnsI.at {w : World} {B : Nat} {a : Option Addr} {n cap : Nat} {xs : List Int} (h : OwnsI w B (.slice a n cap) xs) : IntsAt w a xs := by
  intro i hi
  rcases h.2 with ⟨_, h0⟩ | ⟨g, cap', cur, hv, _⟩
  · omega
  · simp only [Value.slice.injEq] at hv
    obtain ⟨rfl, rfl, rfl⟩ := hv
    refine ⟨g, 0, rfl, ?_⟩
    rw [Nat.zero_add, World.ownsRow.cellAt (xs := xs.map (Value.int .i64)) h i (by omega)]
    simp [hi]

theorem OwnsI.nil (w : World) (B : Nat) : OwnsI w B (.slice none 0 0) [] := World.ownsRow_nil _ _ _ _

theorem OwnsI.below {w w' : World} {B : Nat} {v : Value} {xs : List Int} (h : OwnsI w B v xs) (hb : Below w.heap.size w w') : OwnsI w' B v xs := by
  refine ⟨h.1, ?_⟩
  rcases h.2 with h2 | ⟨g, cap, cur, hv, hg, hh, r⟩
  · exact Or.inl h2
  · exact Or.inr ⟨g, cap, cur, hv, hg, heap_later hh hb, r⟩

theorem OwnsI.forms {w : World} {B : Nat} {v : Value} {xs : List Int} (h : OwnsI w B v xs) : (v = .slice none 0 0 ∧ xs = []) ∨ ∃ g cap, v = .slice (some ⟨g, 0, none⟩) xs.length cap ∧ B ≤ g ∧ g < w.heap.size := by
  rcases h.2 with ⟨h1, h2⟩ | ⟨g, cap, cur, hv, hg, hh, _⟩
  · exact Or.inl ⟨h1, List.length_eq_zero_iff.1 h2⟩
  · exact Or.inr ⟨g, cap, hv, hg, heap_lt hh⟩

/-- Behind writes to one row, another owned slice is as it was. -/
theorem OwnsI.keptBy {w w' : World} {B : Nat} {v : Value} {xs : List Int} {row : Option Nat} (h : OwnsI w B v xs) (hg : w.grownBy w' row) (hr : ∀ k, row = some k → k < B) : OwnsI w' B v xs := by
  refine ⟨h.1, ?_⟩
  rcases h.2 with h2 | ⟨g, cap, cur, hv, hgB, hh, r⟩
  · exact Or.inl h2
  · refine Or.inr ⟨g, cap, cur, hv, hgB, ?_, r⟩
    rw [hg.block g (heap_lt hh) (fun e => by have := hr g e.symm; omega)]; exact hh

/-- A list by its index. -/
def tabI (N : Nat) (f : Nat → Int) : List Int := (List.range N).map f

theorem tabI_len (N : Nat) (f : Nat → Int) : (tabI N f).length = N := by simp [tabI]

theorem tabI_congr {N : Nat} {f g : Nat → Int} (h : ∀ i, i < N → f i = g i) : tabI N f = tabI N g := by
  unfold tabI; exact List.map_congr_left fun i hi => h i (List.mem_range.1 hi)

theorem tabI_set (N : Nat) (f : Nat → Int) (k : Nat) (v : Int) : (tabI N f).set k v = tabI N fun i => if i = k then v else f i := by
  apply List.ext_getElem
  · simp [tabI]
  · intro i h1 h2
    simp only [tabI, List.getElem_set, List.getElem_map, List.getElem_range]
    by_cases e : k = i
    · subst e; simp
    · simp [e, show ¬ i = k from fun h => e h.symm]

theorem tabI_of (xs : List Int) : tabI xs.length (fun i => xs.getD i 0) = xs := by
  apply List.ext_getElem
  · simp [tabI]
  · intro i h1 h2; simp [tabI, h2]

/-- A row of truths of the call's own in block g, by its index. -/
def RowI (w : World) (B g N cap : Nat) (f : Nat → Int) : Prop := w.ownsRow B 3 1 (.slice (some ⟨g, 0, none⟩) N cap) N ((tabI N f).map (Value.int .i64))

theorem RowI.of {w : World} {B g N cap : Nat} {xs : List Int} (h : OwnsI w B (.slice (some ⟨g, 0, none⟩) N cap) xs) (hN : N = xs.length) : RowI w B g N cap (fun i => xs.getD i 0) := by
  unfold RowI; subst hN; rw [tabI_of]; exact h

theorem RowI.owns {w : World} {B g N cap : Nat} {f : Nat → Int} (h : RowI w B g N cap f) : OwnsI w B (.slice (some ⟨g, 0, none⟩) N cap) (tabI N f) := by
  unfold OwnsI; rw [tabI_len]; exact h

theorem RowI.cell {w : World} {B g N cap : Nat} {f : Nat → Int} (h : RowI w B g N cap f) {k : Nat} (hk : k < N) : w.cell? ⟨g, k, none⟩ = some (.int .i64 (f k)) := by
  rw [World.ownsRow.cellAt h k (by omega)]; simp [tabI, hk]

theorem RowI.free {w : World} {B g N cap : Nat} {f : Nat → Int} (h : RowI w B g N cap f) (k : Nat) : w.frozen? ⟨g, k, none⟩ = false := World.ownsRow.frozenAt h k

theorem RowI.set {w : World} {B g N cap : Nat} {f : Nat → Int} (h : RowI w B g N cap f) (k : Nat) (v : Int) :
    RowI (w.setCell ⟨g, k, none⟩ (.int .i64 v)) B g N cap (fun i => if i = k then v else f i) ∧ w.grownBy (w.setCell ⟨g, k, none⟩ (.int .i64 v)) (some g) := by
  have := World.ownsRow.stored h k (.int .i64 v)
  rw [← List.map_set, tabI_set] at this
  exact this

theorem RowI.congr {w : World} {B g N cap : Nat} {f f' : Nat → Int} (h : RowI w B g N cap f) (e : ∀ i, i < N → f i = f' i) : RowI w B g N cap f' := by
  unfold RowI; rw [← tabI_congr e]; exact h

theorem RowI.keptBy {w w' : World} {B g N cap : Nat} {f : Nat → Int} {row : Option Nat} (h : RowI w B g N cap f) (hg : w.grownBy w' row) (hr : row ≠ some g) : RowI w' B g N cap f :=
  World.ownsRow.kept h hg (Or.inr (fun e => hr e.symm))

theorem RowI.below {w w' : World} {B g N cap : Nat} {f : Nat → Int} (h : RowI w B g N cap f) (hb : Below w.heap.size w w') : RowI w' B g N cap f := by
  have := (RowI.owns h).below hb
  unfold OwnsI at this; rw [tabI_len] at this; exact this

theorem RowI.base {w : World} {B g N cap : Nat} {f : Nat → Int} (h : RowI w B g N cap f) : B ≤ g ∧ g < w.heap.size := World.ownsRow.lt h g rfl

theorem OwnsI.row {w : World} {B : Nat} {v : Value} {xs : List Int} (h : OwnsI w B v xs) {n : Nat} (hn : xs.length = n) : w.ownsRow B 3 1 v n (xs.map (Value.int .i64)) := by subst hn; exact h

theorem OwnsI.ofRow {w : World} {B : Nat} {v : Value} {xs : List Int} {n : Nat} {cs : List Value} (h : w.ownsRow B 3 1 v n cs) (hc : cs = xs.map (Value.int .i64)) (hn : xs.length = n) : OwnsI w B v xs := by subst hn; subst hc; exact h

theorem OwnsI.alloc {w : World} {B : Nat} {v : Value} {xs : List Int} (h : OwnsI w B v xs) (o : Obj) : OwnsI (w.alloc o) B v xs := h.below (below1 _ _)

theorem OwnsI.ownBlock {w : World} {B : Nat} {v : Value} {xs : List Int} (h : OwnsI w B v xs) {b : Nat} (hb : b < B) : v.ownBlock ≠ some b := fun e => by
  have := World.ownsRow.lt h b e; omega

theorem OwnsI.ownAt {w : World} {B : Nat} {v : Value} {xs : List Int} (h : OwnsI w B v xs) {B' : Nat} (hB : B' ≤ B) : ∀ k, v.ownBlock = some k → B' ≤ k := fun k e => Nat.le_trans hB (World.ownsRow.lt h k e).1

/-- What lay there before a row was made is as it was behind writes to that row. -/
theorem IntsAt.grown {w0 w w' : World} {a : Option Addr} {xs : List Int} {row : Option Nat} (h : IntsAt w a xs) (h0 : IntsAt w0 a xs) (hg : w.grownBy w' row) (hr : ∀ k, row = some k → w0.heap.size ≤ k) : IntsAt w' a xs := by
  intro i hi
  obtain ⟨b, off, rfl, hc⟩ := h i hi
  obtain ⟨b', off', he, hc'⟩ := h0 i hi
  simp only [Option.some.injEq, Addr.mk.injEq, and_true] at he
  obtain ⟨rfl, rfl⟩ := he
  have hb' := World.block_lt_of_cell? w0 _ hc'
  simp only at hb'
  exact ⟨b, off, rfl, hg.cell hc (fun e => by have := hr b e.symm; omega)⟩

theorem OwnsI.blkLt {w : World} {B : Nat} {v : Value} {xs : List Int} (h : OwnsI w B v xs) : ∀ k, v.ownBlock = some k → k < w.heap.size := fun k e => (World.ownsRow.lt h k e).2

theorem new_int (w : World) (b : Int) : ∀ j u, [Value.int .i64 b][j]? = some u → (w.alloc (.cells #[.int .i64 b] 3)).cell? ((⟨w.heap.size, 0, none⟩ : Addr).add j) = some u := cell_one_new _ _ _
theorem one_int (b : Int) : ∀ u ∈ [Value.int .i64 b], u.oneCell' = true := by intro u hu; simp at hu; subst hu; rfl


theorem OwnsI.form2 {w : World} {B : Nat} {v : Value} {zs : List Int} (h : OwnsI w B v zs) : ∃ (a : Option Addr) (cap : Nat), v = .slice a zs.length cap := by
  rcases h.2 with ⟨h1, h2⟩ | ⟨g, cap, cur, hv, _⟩
  · exact ⟨none, 0, by rw [h1, h2]⟩
  · exact ⟨_, cap, hv⟩

end Go.Proofs.Ytpcajacekmidbaa

namespace Go.Proofs.Ytpcajacekmidbaa
open Go.RowKit
set_option linter.unusedVariables false
set_option maxRecDepth 100000

/-- The call returns a list of its own, with n entries. -/
def RetL (w : World) (n : Nat) (ys : List Int) (e : Ending) (w' : World) : Prop :=
  ∃ a cap, e = .returned (.slice a n cap) ∧ OwnsI w' w.heap.size (.slice a n cap) ys ∧ Below w.heap.size w w'
def RetLT (w : World) (n : Nat) (ys : List Int) (ok : Bool) (e : Ending) (w' : World) : Prop :=
  ∃ a cap, e = .returned (.tuple #[.slice a n cap, .bool ok]) ∧ OwnsI w' w.heap.size (.slice a n cap) ys ∧ Below w.heap.size w w'
end Go.Proofs.Ytpcajacekmidbaa
