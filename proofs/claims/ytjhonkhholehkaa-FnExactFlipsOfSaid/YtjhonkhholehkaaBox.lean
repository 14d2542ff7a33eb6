/- Contracts of impl.bareField and of the two functions RegionBox. Merged of: Box, BoxS, LawBox. -/
import Derived.Test.YtjhonkhholehkaaOwn
import Derived.Test.YtjhonkhholehkaaValid
namespace Go.Proofs.Ytjhonkhholehkaa
open Go.RowKit
set_option linter.unusedVariables false
set_option maxRecDepth 100000
set_option linter.unusedSimpArgs false

theorem made_bools (N : Nat) : (madeCells (Value.bool false).cells (N * 1)).toList = (List.replicate N false).map Value.bool := by
  rw [show (Value.bool false).cells = #[.bool false] from rfl, toList_madeCells_one]; simp

def boxB (W T : Int) : Bool := sidesB W T && decide (W * T ≤ 24)

theorem boxB_yes {W T : Int} (h : boxB W T = true) : sidesB W T = true ∧ (decide (24 < W * T)) = false ∧ 1 ≤ W ∧ W ≤ 6 ∧ 1 ≤ T ∧ T ≤ 6 ∧ 1 ≤ W * T ∧ W * T ≤ 24 := by
  simp only [boxB, Bool.and_eq_true, decide_eq_true_eq] at h
  have ⟨h1, h2⟩ := h
  simp only [sidesB, decide_eq_true_eq] at h1
  have := mul_bd h1.1 h1.2.1 h1.2.2.1 h1.2.2.2
  exact ⟨h.1, by simp; omega, h1.1, h1.2.1, h1.2.2.1, h1.2.2.2, this.1, h2⟩

end Go.Proofs.Ytjhonkhholehkaa

namespace Go.Proofs.Ytjhonkhholehkaa
open Go.RowKit
set_option linter.unusedVariables false
set_option maxRecDepth 100000
set_option linter.unusedSimpArgs false

theorem boxB_ins {W T : Int} (h : boxB W T = true) : inB W 1 6 = true ∧ inB T 1 6 = true := by
  obtain ⟨_, _, a, b, c, d, _, _⟩ := boxB_yes h
  simp [inB]; omega

end Go.Proofs.Ytjhonkhholehkaa

namespace Go.Proofs.Ytjhonkhholehkaa
open Go.RowKit
set_option linter.unusedVariables false
set_option maxRecDepth 100000
set_option linter.unusedSimpArgs false

def RetReg (w : World) (W T : Int) (n : Nat) (xs : List Bool) (e : Ending) (w' : World) : Prop :=
  ∃ (a : Option Addr) (cap : Nat), e = .returned (.agg #[.int .i64 W, .int .i64 T, .slice a n cap]) ∧ OwnsB w' w.heap.size (.slice a n cap) xs ∧ Below w.heap.size w w'

def boxF (W T : Int) : Int × Int × List Bool := if boxB W T then (W, T, List.replicate (W * T).toNat true) else (0, 0, [])
theorem boxF_len (W T : Int) : (boxF W T).2.2.length ≤ 24 := by
  unfold boxF
  split
  · next h => have := boxB_yes h; simp; omega
  · simp

theorem okq {n : Nat} (h : n ≤ 1048576) : ((1 : Int) + n < 0) = False ∧ ((1 : Int) + n != 1 + n) = false := ⟨by simp; omega, by simp⟩

end Go.Proofs.Ytjhonkhholehkaa
