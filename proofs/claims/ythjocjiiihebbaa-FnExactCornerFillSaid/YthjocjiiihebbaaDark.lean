/- Contracts of the two functions CellsMany. Merged of: Many, Dark. -/
import Derived.Test.YthjocjiiihebbaaAt
namespace Go.Proofs.Ythjocjiiihebbaa
open Go.RowKit
set_option linter.unusedVariables false
set_option maxRecDepth 100000
set_option linter.unusedSimpArgs false

def many (W T : Int) (xs : List Bool) : Int := if rv W T xs then cnt xs else -1

set_option maxHeartbeats 1000000 in
theorem iCellsMany_any (W T : Int) (a : Option Addr) (n cap : Nat) (xs : List Bool) (w : World) (hn : n = xs.length) (hn' : n ≤ 1048576) (ha : BoolsAt w a xs) :
    Calls Try.prog 46 #[.agg #[.int .i64 W, .int .i64 T, .slice a n cap]] w fun e w' => e = .returned (.int .i64 (many W T xs)) ∧ Below w.heap.size w w' := by
  have HN := Lib.hid hn; clear hn
  have HA := Lib.hid ha; clear ha
  by_cases h : rv W T xs = true
  · go_enter Try.func46, Try.ntmps46
    go_wp2_with fail
    refine (iRegionValid_any _ _ _ _ _ xs _ HN.out hn' (HA.out.one _)).mono ?_; rintro e w1 ⟨rfl, hb1⟩
    have p1 := heap_later (heap_new w _) hb1
    have b1 := below_seq (below1 _ _) hb1
    obtain ⟨c0, c1, c2⟩ := cells3 p1
    go_wp2_with fail
    refine (cellsIn_any _ _ _ _ _ xs _ HN.out hn' (HA.out.below b1)).mono ?_; rintro e w2 ⟨rfl, hb2⟩
    go_wp2
    go_ret
    exact ⟨ret_int (by unfold many; rw [if_pos h]), below_seq b1 hb2⟩
  · rw [Bool.not_eq_true] at h
    go_enter Try.func46, Try.ntmps46
    go_wp2_with fail
    refine (iRegionValid_any _ _ _ _ _ xs _ HN.out hn' (HA.out.one _)).mono ?_; rintro e w1 ⟨rfl, hb1⟩
    go_wp2
    go_ret
    exact ⟨ret_int (by unfold many; rw [h]; rfl), below_seq (below1 _ _) hb1⟩

end Go.Proofs.Ythjocjiiihebbaa

namespace Go.Proofs.Ythjocjiiihebbaa
open Go.RowKit
set_option linter.unusedVariables false
set_option maxRecDepth 100000
set_option linter.unusedSimpArgs false

/-- Whether the k-th cell is dark, in a field that is W cells wide. -/
def dkAt (W : Int) (k : Nat) : Bool := ((k : Int) % W + (k : Int) / W) % 2 == 0
def dkN (W : Int) (xs : List Bool) (k : Nat) : Nat := (List.range k).countP fun i => xs.getD i false && dkAt W i
theorem dkN_succ (W : Int) (xs : List Bool) (k : Nat) : dkN W xs (k + 1) = dkN W xs k + if xs.getD k false && dkAt W k then 1 else 0 := by
  unfold dkN
  rw [List.range_succ, List.countP_append]
  simp [List.countP_cons]
theorem dkN_le (W : Int) (xs : List Bool) (k : Nat) : dkN W xs k ≤ k := by
  have := List.countP_le_length (p := fun i => xs.getD i false && dkAt W i) (l := List.range k)
  rw [List.length_range] at this; exact this
def dark (W T : Int) (xs : List Bool) : Int := if rv W T xs then dkN W xs xs.length else -1

theorem divmod_bd {W : Int} {k : Nat} (h : 1 ≤ W) : 0 ≤ (k : Int) % W ∧ (k : Int) % W < W ∧ 0 ≤ (k : Int) / W ∧ (k : Int) / W ≤ k :=
  ⟨Int.emod_nonneg _ (by omega), Int.emod_lt_of_pos _ (by omega), Int.ediv_nonneg (by omega) (by omega), Int.ediv_le_self _ (by omega)⟩

end Go.Proofs.Ythjocjiiihebbaa
