/- Contracts of the two functions Balanced. -/
import Derived.Test.YtlnnoeojgdeagaaDark
namespace Go.Proofs.Ytlnnoeojgdeagaa
open Go.RowKit
set_option linter.unusedVariables false
set_option maxRecDepth 100000
set_option linter.unusedSimpArgs false

def bal (W T : Int) (xs : List Bool) : Bool := rv W T xs && (2 * dark W T xs == (cnt xs : Int))

theorem dark_bd (W T : Int) (xs : List Bool) : -1 ≤ dark W T xs ∧ dark W T xs ≤ xs.length := by
  unfold dark
  split
  · have := dkN_le W xs xs.length; omega
  · omega

set_option maxHeartbeats 1000000 in
theorem iBalanced_any (W T : Int) (a : Option Addr) (n cap : Nat) (xs : List Bool) (w : World) (hn : n = xs.length) (hn' : n ≤ 1048576) (ha : BoolsAt w a xs) :
    Calls Try.prog 37 #[.agg #[.int .i64 W, .int .i64 T, .slice a n cap]] w fun e w' => e = .returned (.bool (bal W T xs)) ∧ Below w.heap.size w w' := by
  have HN := Lib.hid hn; clear hn
  have HA := Lib.hid ha; clear ha
  have hdb := dark_bd W T xs
  rw [← HN.out] at hdb
  obtain ⟨hdb1, hdb2⟩ := hdb
  have hcn : cnt xs ≤ n := by rw [HN.out]; exact cnt_le xs
  by_cases h : rv W T xs = true
  all_goals
    try rw [Bool.not_eq_true] at h
    go_enter Try.func37, Try.ntmps37
    go_wp2_with fail
    obtain ⟨wA, hwA⟩ : ∃ wA, wA = w.alloc (.cells #[.int .i64 W, .int .i64 T, .slice a n cap] 28) := ⟨_, rfl⟩
    have pA : wA.heap[w.heap.size]? = some (.cells #[.int .i64 W, .int .i64 T, .slice a n cap] 28 (0, 0)) := by rw [hwA]; exact heap_new _ _
    have bA : Below w.heap.size w wA := by rw [hwA]; exact below1 _ _
    have AA := Lib.hid (show BoolsAt wA.drew a xs from HA.out.below bA.drew)
    rw [← hwA]
    clear hwA
    obtain ⟨d0, d1, d2⟩ := cells3 pA
    have lA := heap_lt pA
    have PA : wA.drew.heap[w.heap.size]? = some _ := pA
  · go_region_held3 (fun w' => w'.cell? ⟨w.heap.size, 0, none⟩ = some (.int .i64 W) ∧ w'.cell? ⟨w.heap.size, 1, none⟩ = some (.int .i64 T) ∧ w'.cell? ⟨w.heap.size, 2, none⟩ = some (.slice a n cap))
      (go_keep)
      (first
        | (go_at_call 69; refine (iRegionValid_any _ _ _ _ _ xs _ HN.out hn' AA.out).mono ?_; rintro e w6 ⟨rfl, hb6⟩; have p6 := heap_later PA hb6; obtain ⟨c60, c61, c62⟩ := cells3 p6)
        | (go_at_call 80; refine (iDarkMany_any _ _ _ _ _ xs _ HN.out hn' (AA.out.below hb6)).mono ?_; rintro e w7 ⟨rfl, hb7⟩; have p7 := heap_later p6 hb7; obtain ⟨c70, c71, c72⟩ := cells3 p7)
        | (go_at_call 81; refine (cellsIn_any _ _ _ _ _ xs _ HN.out hn' ((AA.out.below hb6).below hb7)).mono ?_; rintro e w8 ⟨rfl, hb8⟩; have p8 := heap_later p7 hb8; obtain ⟨c80, c81, c82⟩ := cells3 p8))
    go_wp2
    go_ret
    exact ⟨ret_bool (by unfold bal; rw [h, IntWalk.i64_in _ (by omega)]; rfl), below_seq bA (below_seq (below_seq (below_seq (drew_below _) hb6) hb7) hb8)⟩
  · go_region_with (go_at_call 69; refine (iRegionValid_any _ _ _ _ _ xs _ HN.out hn' AA.out).mono ?_; rintro e w6 ⟨rfl, hb6⟩)
    all_goals
      go_wp2
      go_ret
      exact ⟨ret_bool (by unfold bal; rw [h]; rfl), below_seq bA (below_seq (drew_below _) hb6)⟩

end Go.Proofs.Ytlnnoeojgdeagaa
