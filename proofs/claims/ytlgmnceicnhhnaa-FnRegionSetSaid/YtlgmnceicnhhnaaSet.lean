/- Contracts of impl.RegionSet. -/
import Derived.Test.YtlgmnceicnhhnaaCopy
namespace Go.Proofs.Ytlgmnceicnhhnaa
open Go.RowKit
set_option linter.unusedVariables false
set_option maxRecDepth 100000
set_option linter.unusedSimpArgs false

def setB (xs : List Bool) (c : Nat) (has : Bool) : List Bool := tab xs.length fun i => if i = c then has else xs.getD i false
def setIn (W T : Int) (xs : List Bool) (cell : Int) : Bool := rv W T xs && decide (0 ≤ cell ∧ cell < xs.length)

set_option maxHeartbeats 1000000 in
theorem iRegionSet_no (W T cell : Int) (has : Bool) (a : Option Addr) (n cap : Nat) (xs : List Bool) (w : World) (hn : n = xs.length) (hn' : n ≤ 1048576) (ha : BoolsAt w a xs) (h : setIn W T xs cell = false) :
    Calls Try.prog 23 #[.agg #[.int .i64 W, .int .i64 T, .slice a n cap], .int .i64 cell, .bool has] w fun e w' => e = .returned (.tuple #[.agg #[.int .i64 0, .int .i64 0, .slice none 0 0], .bool false]) ∧ Below w.heap.size w w' := by
  have HN := Lib.hid hn; clear hn
  have A2 := Lib.hid (ha.two (.cells #[.int .i64 W, .int .i64 T, .slice a n cap] 25) (.cells #[.int .i64 0, .int .i64 0, .slice none 0 0] 25)); clear ha
  cases hr : rv W T xs
  · clear h
    go_enter Try.func23, Try.ntmps23
    go_wp2_with fail
    refine (iRegionValid_any _ _ _ _ _ xs _ HN.out hn' A2.out).mono ?_; rintro e w1 ⟨rfl, hb1⟩
    have b1 := below_seq (below2 w _ _) hb1
    have q1 := heap_later (heap_new2 w _ _) hb1
    obtain ⟨d0, d1, d2⟩ := cells3 q1
    have e0 := free3 q1 0
    have e1 := free3 q1 1
    have e2 := free3 q1 2
    go_wp2
    exact bodyPost_ret (v := .tuple #[.agg #[.int .i64 0, .int .i64 0, .slice none 0 0], .bool false]) (by simp [results, Try.results23, go_sem, d0, d1, d2]) rfl ⟨rfl, below_set3 b1 (by omega) _ _ _⟩
  · have hin : ¬ (0 ≤ cell ∧ cell < n) := by
      intro hh; rw [HN.out] at hh; simp [setIn, hr, hh] at h
    clear h
    by_cases hc : cell < 0
    all_goals
      try have hc2 : ¬ cell < n := by omega
      go_enter Try.func23, Try.ntmps23
      go_wp2_with fail
      refine (iRegionValid_any _ _ _ _ _ xs _ HN.out hn' A2.out).mono ?_; rintro e w1 ⟨rfl, hb1⟩
      have b1 := below_seq (below2 w _ _) hb1
      have p1 := heap_later (heap_later (heap_new w _) (below1 _ _)) hb1
      have q1 := heap_later (heap_new2 w _ _) hb1
      obtain ⟨c0, c1, c2⟩ := cells3 p1
      obtain ⟨d0, d1, d2⟩ := cells3 q1
      have e0 := free3 q1 0
      have e1 := free3 q1 1
      have e2 := free3 q1 2
      go_wp2
      exact bodyPost_ret (v := .tuple #[.agg #[.int .i64 0, .int .i64 0, .slice none 0 0], .bool false]) (by simp [results, Try.results23, go_sem, d0, d1, d2]) rfl ⟨rfl, below_set3 b1 (by omega) _ _ _⟩

set_option maxHeartbeats 2000000 in
theorem iRegionSet_in (W T cell : Int) (has : Bool) (a : Option Addr) (n cap : Nat) (xs : List Bool) (w : World) (hn : n = xs.length) (hn' : n ≤ 1048576) (ha : BoolsAt w a xs) (h : setIn W T xs cell = true) :
    Calls Try.prog 23 #[.agg #[.int .i64 W, .int .i64 T, .slice a n cap], .int .i64 cell, .bool has] w fun e w' => ∃ g,
      e = .returned (.tuple #[if rv W T (setB xs cell.toNat has) then .agg #[.int .i64 W, .int .i64 T, .slice (some ⟨g, 0, none⟩) n n] else .agg #[.int .i64 0, .int .i64 0, .slice none 0 0], .bool (rv W T (setB xs cell.toNat has))]) ∧
      OwnsB w' (w.heap.size + 2) (.slice (some ⟨g, 0, none⟩) n n) (setB xs cell.toNat has) ∧ Below w.heap.size w w' := by
  have h0 : rv W T xs = true ∧ 0 ≤ cell ∧ cell < xs.length := by simpa [setIn] using h
  obtain ⟨hr, hc0, hc1⟩ := h0
  obtain ⟨v1, v2, v3, v4, v5, _⟩ := rv_true hr
  have hwt := mul_bd v1 v2 v3 v4
  have hnW : (n : Int) = W * T := by rw [hn]; exact v5
  have hp : 0 < n := by omega
  rw [← hn] at hc1
  have HNW := Lib.hid hnW; clear hnW v5 h
  have HN := Lib.hid hn; clear hn
  have HA := Lib.hid ha; clear ha
  have A2 := Lib.hid (HA.out.two (.cells #[.int .i64 W, .int .i64 T, .slice a n cap] 25) (.cells #[.int .i64 0, .int .i64 0, .slice none 0 0] 25))
  obtain ⟨c, hcc⟩ : ∃ c : Nat, cell = c := ⟨cell.toNat, by omega⟩
  subst hcc
  rw [Int.toNat_natCast]
  have hcn : c < n := by omega
  cases hv : rv W T (setB xs c has)
  all_goals
    go_enter Try.func23, Try.ntmps23
    go_wp2_with fail
    refine (iRegionValid_any _ _ _ _ _ xs _ HN.out hn' A2.out).mono ?_; rintro e w1 ⟨rfl, hb1⟩
    have b1 := below_seq (below2 w _ _) hb1
    have p1 := heap_later (heap_later (heap_new w _) (below1 _ _)) hb1
    have q1 := heap_later (heap_new2 w _ _) hb1
    obtain ⟨c0, c1, c2⟩ := cells3 p1
    go_wp2_with fail
    refine (copyField_any W T a n cap xs _ HN.out (by omega) (by omega) (by omega) (by omega) HNW.out hp (HA.out.below b1)).mono ?_; rintro e w2 ⟨g, rfl, ho, hb2⟩
    have b2 := below_seq b1 hb2
    have q2 := heap_later q1 hb2
    have R2 : RowB w2 (w.heap.size + 2) g n n (fun i => xs.getD i false) := RowB.of (ho.lower (by have := heap_lt q1; omega)) HN.out
    have lg := R2.base
    have lq := heap_lt q2
    clear ho hb2 hb1 p1 q1 c0 c1 c2
    have hcell := R2.cell hcn
    have hfree := R2.free c
    have RR := Lib.hid R2; clear R2
    go_wp2_with fail
    have hlj : Hid (n = (setB xs c has).length) := by show n = _; rw [HN.out]; simp [setB, tab_len]
    obtain ⟨wB, hwB⟩ : ∃ wB, wB = (w2.setCell ⟨g, c, none⟩ (.bool has)).alloc (.cells #[.int .i64 W, .int .i64 T, .slice (some ⟨g, 0, none⟩) n n] 25) := ⟨_, rfl⟩
    have OB : OwnsB wB (w.heap.size + 2) (.slice (some ⟨g, 0, none⟩) n n) (setB xs c has) := by
      rw [hwB]
      have h := (((RR.out.set c has).1).below (below1 _ (.cells #[.int .i64 W, .int .i64 T, .slice (some ⟨g, 0, none⟩) n n] 25))).owns
      rw [show tab n (fun i => if i = c then has else xs.getD i false) = setB xs c has by rw [HN.out]; rfl] at h
      exact h
    have qB := heap_later (heap_set_other q2 (p := ⟨g, c, none⟩) (by simp; omega) (.bool has)) (below1 _ (.cells #[.int .i64 W, .int .i64 T, .slice (some ⟨g, 0, none⟩) n n] 25))
    have sB : wB.heap[w2.heap.size]? = some (.cells #[.int .i64 W, .int .i64 T, .slice (some ⟨g, 0, none⟩) n n] 25 (0, 0)) := by
      rw [hwB]
      have h := heap_new (w2.setCell ⟨g, c, none⟩ (.bool has)) (.cells #[.int .i64 W, .int .i64 T, .slice (some ⟨g, 0, none⟩) n n] 25)
      simpa using h
    have bB : Below w.heap.size w wB := by rw [hwB]; exact below_seq (b2.setCell (p := ⟨g, c, none⟩) (by simp; omega) _) (below1 _ _)
    rw [← hwB] at qB ⊢
    have OBH := Lib.hid OB; clear OB hwB hcell hfree RR
    refine (iRegionValid_any _ _ _ _ _ (setB xs c has) _ hlj.out hn' (OwnsB.at OBH.out)).mono ?_; rintro e w6 ⟨rfl, hb6⟩
    have q6 := heap_later qB hb6
    have s6 := heap_later sB hb6
    have b6 := below_seq bB hb6
    have HO6 := Lib.hid (OBH.out.below hb6); clear OBH qB sB bB
    obtain ⟨t0, t1, t2⟩ := cells3 s6
    obtain ⟨d0, d1, d2⟩ := cells3 q6
    have e0 := free3 q6 0
    have e1 := free3 q6 1
    have e2 := free3 q6 2
    go_wp2
  · refine bodyPost_ret (v := .tuple #[.agg #[.int .i64 0, .int .i64 0, .slice none 0 0], .bool false]) (by simp [results, Try.results23, go_sem, d0, d1, d2]) rfl ⟨rfl, ⟨g, ?_⟩, ?_⟩
    · exact HO6.out.set3 (by omega) _ _ _
    · exact below_set3 b6 (by omega) _ _ _
  · refine bodyPost_ret (v := .tuple #[.agg #[.int .i64 W, .int .i64 T, .slice (some ⟨g, 0, none⟩) n n], .bool true]) (by simp [results, Try.results23, go_sem, d0, d1, d2]) rfl ⟨g, rfl, ?_, ?_⟩
    · exact HO6.out.set3 (by omega) _ _ _
    · exact below_set3 b6 (by omega) _ _ _
end Go.Proofs.Ytlgmnceicnhhnaa
