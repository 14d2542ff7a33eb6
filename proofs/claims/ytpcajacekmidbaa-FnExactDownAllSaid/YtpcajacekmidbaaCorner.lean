/- Contracts of both functions CornerMany. -/
import Derived.Test.YtpcajacekmidbaaAt
namespace Go.Proofs.Ytpcajacekmidbaa
open Go.RowKit
set_option linter.unusedVariables false
set_option maxRecDepth 100000
set_option linter.unusedSimpArgs false

/-- How many corners there are. -/
def cornN (W T : Int) (xs : List Bool) : Int := if rv W T xs then (W + 1) * (T + 1) else -1
theorem corn_bd {W T : Int} (h1 : 1 ≤ W) (h2 : W ≤ 6) (h3 : 1 ≤ T) (h4 : T ≤ 6) : 4 ≤ (W + 1) * (T + 1) ∧ (W + 1) * (T + 1) ≤ 49 := by
  have a : (W + 1) * (T + 1) ≤ 7 * 7 := Int.mul_le_mul (by omega) (by omega) (by omega) (by omega)
  have b : 2 * 2 ≤ (W + 1) * (T + 1) := Int.mul_le_mul (by omega) (by omega) (by omega) (by omega)
  omega

theorem sCornerMany_any (W T : Int) (a : Option Addr) (n cap : Nat) (xs : List Bool) (w : World) (hn : n = xs.length) (hn' : n ≤ 1048576) (ha : BoolsAt w a xs) :
    Calls Try.prog 130 #[.agg #[.int .i64 W, .int .i64 T, .slice a n cap]] w fun e w' => e = .returned (.int .i64 (cornN W T xs)) ∧ Below w.heap.size w w' := by
  have HN := Lib.hid hn; clear hn
  have HA := Lib.hid ha; clear ha
  cases h : rv W T xs
  · have e : cornN W T xs = -1 := by unfold cornN; rw [h]; rfl
    rw [e]
    have H := Lib.hid h; clear h e
    go_enter Try.func130, Try.ntmps130
    go_wp2_with fail
    refine (sRegionValid_any _ _ _ _ _ xs _ HN.out hn' (HA.out.one _)).mono ?_; rintro e w1 ⟨rfl, hb1⟩
    rw [H.out]
    go_wp2
    go_ret
    exact ⟨rfl, below_seq (below1 _ _) hb1⟩
  · obtain ⟨v1, v2, v3, v4, v5, _⟩ := rv_true h
    have e : cornN W T xs = (W + 1) * (T + 1) := by unfold cornN; rw [h, if_pos rfl]
    rw [e]
    have H := Lib.hid h; clear h e v5
    have hb := corn_bd v1 v2 v3 v4
    go_enter Try.func130, Try.ntmps130
    go_wp2_with fail
    refine (sRegionValid_any _ _ _ _ _ xs _ HN.out hn' (HA.out.one _)).mono ?_; rintro e w1 ⟨rfl, hb1⟩
    rw [H.out]
    obtain ⟨c0, c1, c2⟩ := cells3 (heap_later (heap_new w (.cells #[.int .i64 W, .int .i64 T, .slice a n cap] 25)) hb1)
    go_wp2
    go_ret
    exact ⟨rfl, below_seq (below1 _ _) hb1⟩

theorem iCornerMany_any (W T : Int) (a : Option Addr) (n cap : Nat) (xs : List Bool) (w : World) (hn : n = xs.length) (hn' : n ≤ 1048576) (ha : BoolsAt w a xs) :
    Calls Try.prog 137 #[.agg #[.int .i64 W, .int .i64 T, .slice a n cap]] w fun e w' => e = .returned (.int .i64 (cornN W T xs)) ∧ Below w.heap.size w w' := by
  have HN := Lib.hid hn; clear hn
  have HA := Lib.hid ha; clear ha
  cases h : rv W T xs
  · have e : cornN W T xs = -1 := by unfold cornN; rw [h]; rfl
    rw [e]
    have H := Lib.hid h; clear h e
    go_enter Try.func137, Try.ntmps137
    go_wp2_with fail
    refine (iRegionValid_any _ _ _ _ _ xs _ HN.out hn' (HA.out.one _)).mono ?_; rintro e w1 ⟨rfl, hb1⟩
    rw [H.out]
    go_wp2
    go_ret
    exact ⟨rfl, below_seq (below1 _ _) hb1⟩
  · obtain ⟨v1, v2, v3, v4, v5, _⟩ := rv_true h
    have e : cornN W T xs = (W + 1) * (T + 1) := by unfold cornN; rw [h, if_pos rfl]
    rw [e]
    have H := Lib.hid h; clear h e v5
    have hb := corn_bd v1 v2 v3 v4
    go_enter Try.func137, Try.ntmps137
    go_wp2_with fail
    refine (iRegionValid_any _ _ _ _ _ xs _ HN.out hn' (HA.out.one _)).mono ?_; rintro e w1 ⟨rfl, hb1⟩
    rw [H.out]
    obtain ⟨c0, c1, c2⟩ := cells3 (heap_later (heap_new w (.cells #[.int .i64 W, .int .i64 T, .slice a n cap] 25)) hb1)
    go_wp2
    go_ret
    exact ⟨rfl, below_seq (below1 _ _) hb1⟩
end Go.Proofs.Ytpcajacekmidbaa
