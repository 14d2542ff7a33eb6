/- Contract of impl.RegionFlip. -/
import Derived.Test.YtbbinbgepbkihaaTurnMath
import Derived.Test.YtbbinbgepbkihaaDark
import Derived.Test.YtbbinbgepbkihaaMore
import Derived.Test.YtbbinbgepbkihaaBox
namespace Go.Proofs.Ytbbinbgepbkihaa
open Go.RowKit
set_option linter.unusedVariables false
set_option maxRecDepth 100000
set_option linter.unusedSimpArgs false

theorem fIdx_int {W k : Nat} (hW : 0 < W) : (((k : Int) / W) * W + ((W : Int) - 1 - (k : Int) % W)).toNat = fIdx W k := by
  have h1 := Nat.mod_lt k hW
  have : (((k : Int) / W) * W + ((W : Int) - 1 - (k : Int) % W)) = ((fIdx W k : Nat) : Int) := by
    unfold fIdx
    have e : ((W - 1 - k % W : Nat) : Int) = (W : Int) - 1 - ((k % W : Nat) : Int) := by omega
    push_cast
    rw [e]; simp
  rw [this]; simp

set_option maxHeartbeats 1000000 in
theorem flippedCell_any (W T : Nat) (a : Option Addr) (n cap k : Nat) (w : World) (hW : 0 < W) (hW6 : W ≤ 6) (hT : 0 < T) (hT6 : T ≤ 6) (hk : k < W * T) :
    Calls Try.prog 67 #[.agg #[.int .i64 W, .int .i64 T, .slice a n cap], .int .i64 k] w fun e w' => e = .returned (.int .i64 ((fIdx W k : Nat) : Int)) ∧ Below w.heap.size w w' := by
  have v1 : (1 : Int) ≤ W := by omega
  obtain ⟨m1, m2, m3, m4⟩ := divmod_bd (W := W) (k := k) v1
  have hdv := div_lt_of hW hk
  have hdv' : (k : Int) / W < T := by
    have : (((k / W : Nat)) : Int) < T := by omega
    simpa using this
  have h36 : W * T ≤ 6 * 6 := Nat.mul_le_mul hW6 hT6
  have hti := fIdx_int (k := k) hW
  obtain ⟨i0, i1, i2⟩ := idx_bd (W := (W : Int)) (T := (T : Int)) (x := (W : Int) - 1 - (k : Int) % W) (y := (k : Int) / W) (by omega) (by omega) (by omega) (by omega)
  have i3 : (W : Int) * T ≤ 36 := by exact_mod_cast h36
  have hv : (k : Int) / W * W + ((W : Int) - 1 - (k : Int) % W) = ((fIdx W k : Nat) : Int) := by omega
  have HV := Lib.hid hv
  have e0 : (0 : Int) ≤ k := by omega
  have e1 : (k : Int) ≤ 1000 := by omega
  have hW0 : (W : Int) ≠ 0 := by omega
  have j1 : 0 ≤ (W : Int) - 1 - (k : Int) % W := by omega
  have j2 : (W : Int) - 1 - (k : Int) % W ≤ 1000 := by omega
  have j4 : (k : Int) / W * W ≤ 100000 := by omega
  clear hv hti i1 i2 i3 h36
  go_enter Try.func67, Try.ntmps67
  go_wp2
  go_quiet (fail)
  obtain ⟨wA, hwA⟩ : ∃ wA, wA = (w.alloc (.cells #[.int .i64 W, .int .i64 T, .slice a n cap] 27)).drewN nq := ⟨_, rfl⟩
  have pA : wA.heap[w.heap.size]? = some (.cells #[.int .i64 W, .int .i64 T, .slice a n cap] 27 (0, 0)) := by rw [hwA]; exact heap_new _ _
  have bA : Below w.heap.size w wA := by rw [hwA]; exact below_seq (below1 _ _) (drewN_below _ _)
  rw [← hwA]
  clear hwA
  obtain ⟨d0, d1, d2⟩ := cells3 pA
  have lA := heap_lt pA
  go_wp2_with fail
  refine (cellAt_any _ _ _ _ (.bool false) _ _ _ _ j1 j2 i0 j4).mono ?_; rintro e w6 ⟨rfl, hb6⟩
  go_wp2
  go_ret
  exact ⟨ret_int HV.out, below_seq bA hb6⟩

end Go.Proofs.Ytbbinbgepbkihaa
