/- The law FnColourMany: its walk. -/
import Derived.Test.YtngececngelohaaDraw7
import Derived.Test.YtngececngelohaaColr
namespace Go.Proofs.Ytngececngelohaa
open Go.RowKit
set_option linter.unusedVariables false
set_option maxRecDepth 100000
set_option linter.unusedSimpArgs false

/-- The cells of the first k colours together. -/
def colSum (W : Int) (xs : List Bool) (r : Int) (n k : Nat) : Nat := ((List.range k).map fun s : Nat => colN W xs r s n).sum
theorem colSum_succ (W : Int) (xs : List Bool) (r : Int) (n k : Nat) : colSum W xs r n (k + 1) = colSum W xs r n k + colN W xs r k n := by
  unfold colSum; rw [List.range_succ, List.map_append, List.sum_append]; simp
theorem colSum_one (W : Int) (xs : List Bool) (r : Nat) (h1 : 1 ≤ r) (h4 : r ≤ 4) (n : Nat) : colSum W xs r (n + 1) r = colSum W xs r n r + if xs.getD n false then 1 else 0 := by
  obtain ⟨v, hv⟩ : ∃ v : Nat, (v : Int) = ((n : Int) % W + (n : Int) / W) % (r : Int) := ⟨(((n : Int) % W + (n : Int) / W) % (r : Int)).toNat, Int.toNat_of_nonneg (Int.emod_nonneg _ (by omega))⟩
  have hvr : v < r := by have := Int.emod_lt_of_pos ((n : Int) % W + (n : Int) / W) (show (0 : Int) < r by omega); omega
  have hc : ∀ s : Nat, clAt W r s n = decide (v = s) := by
    intro s; unfold clAt; rw [← hv]; apply Bool.eq_iff_iff.2; simp; omega
  have hr : r = 1 ∨ r = 2 ∨ r = 3 ∨ r = 4 := by omega
  cases hx : xs.getD n false
  · have h : ∀ s : Nat, colN W xs r s (n + 1) = colN W xs r s n := fun s => by rw [colN_succ, hx]; simp
    unfold colSum
    simp only [h]; simp
  · have h : ∀ s : Nat, colN W xs r s (n + 1) = colN W xs r s n + if v = s then 1 else 0 := fun s => by rw [colN_succ, hx, hc]; simp
    unfold colSum
    simp only [h, if_pos]
    rcases hr with rfl | rfl | rfl | rfl
    · have : v = 0 := by omega
      subst this; simp [List.range_succ]
    · have : v = 0 ∨ v = 1 := by omega
      rcases this with rfl | rfl <;> simp [List.range_succ] <;> omega
    · have : v = 0 ∨ v = 1 ∨ v = 2 := by omega
      rcases this with rfl | rfl | rfl <;> simp [List.range_succ] <;> omega
    · have : v = 0 ∨ v = 1 ∨ v = 2 ∨ v = 3 := by omega
      rcases this with rfl | rfl | rfl | rfl <;> simp [List.range_succ] <;> omega
theorem colSum_cnt (W : Int) (xs : List Bool) (r : Nat) (h1 : 1 ≤ r) (h4 : r ≤ 4) : ∀ n, n ≤ xs.length → colSum W xs r n r = cnt (xs.take n) := by
  intro n
  induction n with
  | zero =>
    intro _
    have h : ∀ l : List Nat, (l.map fun _ => 0).sum = 0 := fun l => by induction l with | nil => rfl | cons _ _ ih => simpa using ih
    unfold colSum colN cnt
    simpa using h (List.range r)
  | succ n ih => intro h; rw [colSum_one W xs r h1 h4, ih (by omega), cnt_take xs n (by omega)]
theorem colSum_all (W : Int) (xs : List Bool) (r : Nat) (h1 : 1 ≤ r) (h4 : r ≤ 4) : colSum W xs r xs.length r = cnt xs := by
  rw [colSum_cnt W xs r h1 h4 _ (Nat.le_refl _), List.take_length]

end Go.Proofs.Ytngececngelohaa
