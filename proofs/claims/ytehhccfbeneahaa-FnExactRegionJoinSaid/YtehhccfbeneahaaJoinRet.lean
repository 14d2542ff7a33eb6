/- RegionJoin, both sides, said by one function; the law's walk for every pair of regions. -/
import Derived.Test.YtehhccfbeneahaaLawRegionJoin
import Derived.Test.YtehhccfbeneahaaMeetRet
import Derived.Test.YtehhccfbeneahaaJoinS
namespace Go.Proofs.Ytehhccfbeneahaa
open Go.RowKit
set_option linter.unusedVariables false
set_option linter.unusedSimpArgs false

def joinF (W T W' T' : Int) (xs ys : List Bool) : Int × Int × List Bool × Bool :=
  if sameF W T W' T' xs ys && rv W T (joinB xs ys) then (W, T, joinB xs ys, true) else (0, 0, [], false)
theorem joinF_len (W T W' T' : Int) (xs ys : List Bool) : (joinF W T W' T' xs ys).2.2.1.length ≤ xs.length := by
  unfold joinF
  split
  · simp [joinB, tab_len]
  · simp

theorem iRegionJoin_ret (W T W' T' : Int) (a a' : Option Addr) (n n' cap cap' : Nat) (xs ys : List Bool) (w : World) (hn : n = xs.length) (hn1 : n ≤ 1048576) (hm : n' = ys.length) (hm1 : n' ≤ 1048576) (ha : BoolsAt w a xs) (hb : BoolsAt w a' ys) :
    Calls Try.prog 39 #[.agg #[.int .i64 W, .int .i64 T, .slice a n cap], .agg #[.int .i64 W', .int .i64 T', .slice a' n' cap']] w (RetRegT w (joinF W T W' T' xs ys).1 (joinF W T W' T' xs ys).2.1 (joinF W T W' T' xs ys).2.2.1.length (joinF W T W' T' xs ys).2.2.1 (joinF W T W' T' xs ys).2.2.2) := by
  cases h : sameF W T W' T' xs ys
  · refine (iRegionJoin_no W T W' T' a a' n n' cap cap' xs ys w hn hn1 hm hm1 ha hb h).mono ?_
    rintro e w' ⟨rfl, hb⟩
    unfold joinF; rw [h]
    exact ⟨_, _, rfl, OwnsB.nil _ _, hb⟩
  · cases hj : rv W T (joinB xs ys)
    · refine (iRegionJoin_big W T W' T' a a' n n' cap cap' xs ys w hn hn1 hm hm1 ha hb h hj).mono ?_
      rintro e w' ⟨rfl, hb⟩
      unfold joinF; rw [h, hj]
      exact ⟨_, _, rfl, OwnsB.nil _ _, hb⟩
    · refine (iRegionJoin_yes W T W' T' a a' n n' cap cap' xs ys w hn hn1 hm hm1 ha hb h hj).mono ?_
      rintro e w' ⟨g, rfl, ho, hb⟩
      unfold joinF; rw [h, hj]
      have hl : (joinB xs ys).length = n := by rw [hn]; simp [joinB, tab_len]
      refine ⟨some ⟨g, 0, none⟩, n, ?_, ?_, hb⟩
      · simp only [Bool.and_self, if_true]; rw [hl]
      · simp only [Bool.and_self, if_true]; rw [hl]; exact ho.lower (by omega)

theorem sRegionJoin_ret (W T W' T' : Int) (a a' : Option Addr) (n n' cap cap' : Nat) (xs ys : List Bool) (w : World) (hn : n = xs.length) (hn1 : n ≤ 1048576) (hm : n' = ys.length) (hm1 : n' ≤ 1048576) (ha : BoolsAt w a xs) (hb : BoolsAt w a' ys) :
    Calls Try.prog 38 #[.agg #[.int .i64 W, .int .i64 T, .slice a n cap], .agg #[.int .i64 W', .int .i64 T', .slice a' n' cap']] w (RetRegT w (joinF W T W' T' xs ys).1 (joinF W T W' T' xs ys).2.1 (joinF W T W' T' xs ys).2.2.1.length (joinF W T W' T' xs ys).2.2.1 (joinF W T W' T' xs ys).2.2.2) := by
  cases h : sameF W T W' T' xs ys
  · refine (sRegionJoin_no W T W' T' a a' n n' cap cap' xs ys w hn hn1 hm hm1 ha hb h).mono ?_
    rintro e w' ⟨rfl, hb⟩
    unfold joinF; rw [h]
    exact ⟨_, _, rfl, OwnsB.nil _ _, hb⟩
  · cases hj : rv W T (joinB xs ys)
    · refine (sRegionJoin_big W T W' T' a a' n n' cap cap' xs ys w hn hn1 hm hm1 ha hb h hj).mono ?_
      rintro e w' ⟨rfl, hb⟩
      unfold joinF; rw [h, hj]
      exact ⟨_, _, rfl, OwnsB.nil _ _, hb⟩
    · refine (sRegionJoin_yes W T W' T' a a' n n' cap cap' xs ys w hn hn1 hm hm1 ha hb h hj).mono ?_
      rintro e w' ⟨g, c, rfl, ho, hb⟩
      unfold joinF; rw [h, hj]
      have hl : (joinB xs ys).length = n := by rw [hn]; simp [joinB, tab_len]
      refine ⟨some ⟨g, 0, none⟩, c, ?_, ?_, hb⟩
      · simp only [Bool.and_self, if_true]; rw [hl]
      · simp only [Bool.and_self, if_true]; rw [hl]; exact ho.lower (by omega)

set_option maxHeartbeats 1000000 in
theorem lawJoin_walk (W T : Int) (a : Option Addr) (n cap : Nat) (xs : List Bool) (W' T' : Int) (a' : Option Addr) (n' cap' : Nat) (ys : List Bool) (w : World) (hn : n = xs.length) (hn' : n ≤ maxLen) (ha : BoolsAt w a xs) (hm : n' = ys.length) (hm' : n' ≤ maxLen) (hb : BoolsAt w a' ys) :
    Calls Try.prog 12 #[.agg #[.int .i64 W, .int .i64 T, .slice a n cap], .agg #[.int .i64 W', .int .i64 T', .slice a' n' cap']] w fun e w' => e = .returned (.bool true) ∧ Below w.heap.size w w' := by
  by_cases h1 : n ≤ 1048576
  · have hz := szB_pos h1
    by_cases h2 : 0 ≤ szB n' (szB n 1048576)
    · have h3 := szB_lt hz.2 h2
      exact lawJoin_main W T a n cap xs W' T' a' n' cap' ys w hn hn' ha hm hm' hb h1 h2 h3 _ _ _ _ _ (Nat.le_trans (joinF_len W T W' T' xs ys) (by rw [← hn]; exact h1)) rfl
        (Lib.hid fun a a' cap cap' w ha hb => sRegionJoin_ret W T W' T' a a' n n' cap cap' xs ys w hn h1 hm h3 ha hb)
        (Lib.hid fun a a' cap cap' w ha hb => iRegionJoin_ret W T W' T' a a' n n' cap cap' xs ys w hn h1 hm h3 ha hb)
    · clear hn ha hm hb
      go_enter Try.func12, Try.ntmps12
      go_wp2_with fail
      refine (szRegion_any _ _ _ _ _ _ _ (by omega) (by omega) hn').mono ?_; rintro e w1 ⟨rfl, hb1⟩
      have p1 := heap_later (heap_new2 w _ _) hb1
      obtain ⟨c0, c1, c2⟩ := cells3 p1
      go_wp2_with fail
      refine (szRegion_any _ _ _ _ _ _ _ (by omega) (by omega) hm').mono ?_; rintro e w2 ⟨rfl, hb2⟩
      go_wp2
      go_ret
      exact ⟨rfl, below_seq (below_seq (below2 _ _ _) hb1) hb2⟩
  · have hz := szB_neg (show 1048576 < n by omega)
    clear hn ha hm hb
    go_enter Try.func12, Try.ntmps12
    go_wp2_with fail
    refine (szRegion_any _ _ _ _ _ _ _ (by omega) (by omega) hn').mono ?_; rintro e w1 ⟨rfl, hb1⟩
    go_wp2
    go_ret
    exact ⟨rfl, below_seq (below2 _ _ _) hb1⟩
end Go.Proofs.Ytehhccfbeneahaa
