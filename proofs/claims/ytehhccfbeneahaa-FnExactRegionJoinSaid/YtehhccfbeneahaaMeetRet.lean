/- RegionMeet, both sides, said by one function; the law's walk for every pair of regions. -/
import Derived.Test.YtehhccfbeneahaaLawRegionMeet
import Derived.Test.YtehhccfbeneahaaMeetS
namespace Go.Proofs.Ytehhccfbeneahaa
open Go.RowKit
set_option linter.unusedVariables false
set_option linter.unusedSimpArgs false

def meetF (W T W' T' : Int) (xs ys : List Bool) : Int × Int × List Bool × Bool :=
  if sameF W T W' T' xs ys then (W, T, meetB xs ys, true) else (0, 0, [], false)
theorem meetF_len (W T W' T' : Int) (xs ys : List Bool) : (meetF W T W' T' xs ys).2.2.1.length ≤ xs.length := by
  unfold meetF
  split
  · simp [meetB, tab_len]
  · simp

theorem iRegionMeet_ret (W T W' T' : Int) (a a' : Option Addr) (n n' cap cap' : Nat) (xs ys : List Bool) (w : World) (hn : n = xs.length) (hn1 : n ≤ 1048576) (hm : n' = ys.length) (hm1 : n' ≤ 1048576) (ha : BoolsAt w a xs) (hb : BoolsAt w a' ys) :
    Calls Try.prog 41 #[.agg #[.int .i64 W, .int .i64 T, .slice a n cap], .agg #[.int .i64 W', .int .i64 T', .slice a' n' cap']] w (RetRegT w (meetF W T W' T' xs ys).1 (meetF W T W' T' xs ys).2.1 (meetF W T W' T' xs ys).2.2.1.length (meetF W T W' T' xs ys).2.2.1 (meetF W T W' T' xs ys).2.2.2) := by
  cases h : sameF W T W' T' xs ys
  · refine (iRegionMeet_no W T W' T' a a' n n' cap cap' xs ys w hn hn1 hm hm1 ha hb h).mono ?_
    rintro e w' ⟨rfl, hb⟩
    unfold meetF; rw [h]
    exact ⟨_, _, rfl, OwnsB.nil _ _, hb⟩
  · refine (iRegionMeet_yes W T W' T' a a' n n' cap cap' xs ys w hn hn1 hm hm1 ha hb h).mono ?_
    rintro e w' ⟨g, rfl, ho, hb⟩
    unfold meetF; rw [h]
    have hl : (meetB xs ys).length = n := by rw [hn]; simp [meetB, tab_len]
    refine ⟨some ⟨g, 0, none⟩, n, ?_, ?_, hb⟩
    · simp only [if_true]; rw [hl]
    · simp only [if_true]; rw [hl]; exact ho.lower (by omega)

theorem sRegionMeet_ret (W T W' T' : Int) (a a' : Option Addr) (n n' cap cap' : Nat) (xs ys : List Bool) (w : World) (hn : n = xs.length) (hn1 : n ≤ 1048576) (hm : n' = ys.length) (hm1 : n' ≤ 1048576) (ha : BoolsAt w a xs) (hb : BoolsAt w a' ys) :
    Calls Try.prog 40 #[.agg #[.int .i64 W, .int .i64 T, .slice a n cap], .agg #[.int .i64 W', .int .i64 T', .slice a' n' cap']] w (RetRegT w (meetF W T W' T' xs ys).1 (meetF W T W' T' xs ys).2.1 (meetF W T W' T' xs ys).2.2.1.length (meetF W T W' T' xs ys).2.2.1 (meetF W T W' T' xs ys).2.2.2) := by
  cases h : sameF W T W' T' xs ys
  · refine (sRegionMeet_no W T W' T' a a' n n' cap cap' xs ys w hn hn1 hm hm1 ha hb h).mono ?_
    rintro e w' ⟨rfl, hb⟩
    unfold meetF; rw [h]
    exact ⟨_, _, rfl, OwnsB.nil _ _, hb⟩
  · refine (sRegionMeet_yes W T W' T' a a' n n' cap cap' xs ys w hn hn1 hm hm1 ha hb h).mono ?_
    rintro e w' ⟨g, c, rfl, ho, hb⟩
    unfold meetF; rw [h]
    have hl : (meetB xs ys).length = n := by rw [hn]; simp [meetB, tab_len]
    refine ⟨some ⟨g, 0, none⟩, c, ?_, ?_, hb⟩
    · simp only [if_true]; rw [hl]
    · simp only [if_true]; rw [hl]; exact ho.lower (by omega)

theorem szB_lt {n : Nat} {L : Int} (hL : L ≤ 1048576) (h : 0 ≤ szB n L) : n ≤ 1048576 := by
  unfold szB at h
  split at h <;> omega

set_option maxHeartbeats 1000000 in
theorem lawMeet_walk (W T : Int) (a : Option Addr) (n cap : Nat) (xs : List Bool) (W' T' : Int) (a' : Option Addr) (n' cap' : Nat) (ys : List Bool) (w : World) (hn : n = xs.length) (hn' : n ≤ maxLen) (ha : BoolsAt w a xs) (hm : n' = ys.length) (hm' : n' ≤ maxLen) (hb : BoolsAt w a' ys) :
    Calls Try.prog 13 #[.agg #[.int .i64 W, .int .i64 T, .slice a n cap], .agg #[.int .i64 W', .int .i64 T', .slice a' n' cap']] w fun e w' => e = .returned (.bool true) ∧ Below w.heap.size w w' := by
  by_cases h1 : n ≤ 1048576
  · have hz := szB_pos h1
    by_cases h2 : 0 ≤ szB n' (szB n 1048576)
    · have h3 := szB_lt hz.2 h2
      exact lawMeet_main W T a n cap xs W' T' a' n' cap' ys w hn hn' ha hm hm' hb h1 h2 h3 _ _ _ _ _ (Nat.le_trans (meetF_len W T W' T' xs ys) (by rw [← hn]; exact h1)) rfl
        (Lib.hid fun a a' cap cap' w ha hb => sRegionMeet_ret W T W' T' a a' n n' cap cap' xs ys w hn h1 hm h3 ha hb)
        (Lib.hid fun a a' cap cap' w ha hb => iRegionMeet_ret W T W' T' a a' n n' cap cap' xs ys w hn h1 hm h3 ha hb)
    · clear hn ha hm hb
      go_enter Try.func13, Try.ntmps13
      go_wp2_with fail
      refine (szRegion_any _ _ _ _ _ _ _ (by omega) (by omega) hn').mono ?_; rintro e w1 ⟨rfl, hb1⟩
      have p1 := heap_later (heap_new2 w _ _) hb1
      obtain ⟨c0, c1, c2⟩ := cells3 p1
      go_wp2_with fail
      refine (szRegion_any _ _ _ _ _ _ _ (by omega) (by omega) hm').mono ?_; rintro e w2 ⟨rfl, hb2⟩
      go_wp2
      go_ret
      exact ⟨rfl, below_seq (below_seq (below2 _ _ _) hb1) hb2⟩
  · have hz := szB_neg (show 1048576 < n by omega)
    clear hn ha hm hb
    go_enter Try.func13, Try.ntmps13
    go_wp2_with fail
    refine (szRegion_any _ _ _ _ _ _ _ (by omega) (by omega) hn').mono ?_; rintro e w1 ⟨rfl, hb1⟩
    go_wp2
    go_ret
    exact ⟨rfl, below_seq (below2 _ _ _) hb1⟩
end Go.Proofs.Ytehhccfbeneahaa
