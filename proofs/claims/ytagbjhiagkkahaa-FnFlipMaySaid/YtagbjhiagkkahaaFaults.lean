/- Contracts of impl.laidAcross and impl.FaultsOf. -/
import Derived.Test.YtagbjhiagkkahaaTurnI
namespace Go.Proofs.Ytagbjhiagkkahaa
open Go.RowKit
set_option linter.unusedVariables false
set_option maxRecDepth 100000
set_option linter.unusedSimpArgs false

/-- Whether a domino lies across the line in the west of column x, in one of the first y rows. -/
def acrossN (W : Nat) (L : List Int) (x y : Nat) : Bool := (List.range y).any fun j => L.getD (j * W + x) 0 == 3
def faultsTo (W T : Nat) (L : List Int) (k : Nat) : List Int := ((List.range k).filter fun x => decide (1 ≤ x) && !acrossN W L x T).map fun x : Nat => (x : Int)
def faultsF (W T : Int) (xs : List Bool) (L : List Int) : List Int := if lok W T xs L then faultsTo W.toNat T.toNat L W.toNat else []
theorem acrossN_succ (W : Nat) (L : List Int) (x y : Nat) : acrossN W L x (y + 1) = (acrossN W L x y || L.getD (y * W + x) 0 == 3) := by
  unfold acrossN; rw [List.range_succ, List.any_append]; simp
theorem acrossN_hit {W : Nat} {L : List Int} {x y T : Nat} (hy : y < T) (h : L.getD (y * W + x) 0 = 3) : acrossN W L x T = true := by
  unfold acrossN; rw [List.any_eq_true]; exact ⟨y, List.mem_range.2 hy, by simpa using h⟩
theorem faultsTo_one (W T : Nat) (L : List Int) : faultsTo W T L 1 = [] := by unfold faultsTo; simp
theorem faultsTo_add {W T : Nat} {L : List Int} {k : Nat} (hk : 1 ≤ k) (h : acrossN W L k T = false) : faultsTo W T L (k + 1) = faultsTo W T L k ++ [(k : Int)] := by
  unfold faultsTo; rw [List.range_succ, List.filter_append, List.map_append]; simp [h, hk]
theorem faultsTo_keep {W T : Nat} {L : List Int} {k : Nat} (h : acrossN W L k T = true) : faultsTo W T L (k + 1) = faultsTo W T L k := by
  unfold faultsTo; rw [List.range_succ, List.filter_append, List.map_append]; simp [h]
theorem faultsTo_le (W T : Nat) (L : List Int) (k : Nat) : (faultsTo W T L k).length ≤ k := by
  unfold faultsTo
  rw [List.length_map]
  have := List.length_filter_le (fun x => decide (1 ≤ x) && !acrossN W L x T) (List.range k)
  rw [List.length_range] at this; exact this
theorem faultsF_len (W T : Int) (xs : List Bool) (L : List Int) : (faultsF W T xs L).length ≤ 6 := by
  unfold faultsF
  by_cases h : lok W T xs L = true
  · obtain ⟨v1, v2, v3, v4, v5, _⟩ := rv_true (lok_rv h).1
    rw [if_pos h]
    have := faultsTo_le W.toNat T.toNat L W.toNat
    omega
  · rw [if_neg h]; simp
theorem row_lt {W T x y : Nat} (hx : x < W) (hy : y < T) : y * W + x < W * T := by
  rw [Nat.mul_comm W T]; exact comb_lt hy hx

theorem idx_toNat (y W x : Nat) : ((y : Int) * W + x).toNat = y * W + x := by
  rw [show ((y : Int) * W + x) = ((y * W + x : Nat) : Int) by push_cast; rfl]
  exact Int.toNat_natCast _

end Go.Proofs.Ytagbjhiagkkahaa
