/- Border and the pairs of neighbours: each open side is no pair's, each pair has two sides. -/
import Derived.Test.YtlgmnceicnhhnaaBorderS
import Derived.Test.YtlgmnceicnhhnaaFlipM
namespace Go.Proofs.Ytlgmnceicnhhnaa
open Go.RowKit
set_option linter.unusedVariables false
set_option maxRecDepth 100000
set_option linter.unusedSimpArgs false

theorem sumN_split (a b : Nat) (f : Nat → Nat) : sumN (a + b) f = sumN a f + sumN b fun i => f (a + i) := by
  induction b with
  | zero => simp [sumN_zero]
  | succ b ih => rw [← Nat.add_assoc, sumN_succ, ih, sumN_succ]; omega
theorem sumN_flat (T W : Nat) (f : Nat → Nat) : sumN (T * W) f = sumN T fun y => sumN W fun x => f (y * W + x) := by
  induction T with
  | zero => rw [Nat.zero_mul]; rfl
  | succ T ih => rw [Nat.succ_mul, sumN_split, ih, sumN_succ]
theorem sumN_shift (F : Int → Nat) (N : Nat) : sumN N (fun x => F ((x : Int) - 1)) + F ((N : Int) - 1) = F (-1) + sumN N fun x => F (x : Int) := by
  induction N with
  | zero => simp [sumN_zero]
  | succ N ih =>
    rw [sumN_succ, sumN_succ, show (((N + 1 : Nat) : Int) - 1) = (N : Int) by push_cast; omega]
    omega
theorem sumN_mul (N k : Nat) (f : Nat → Nat) : sumN N (fun i => k * f i) = k * sumN N f := by
  induction N with
  | zero => simp [sumN_zero]
  | succ N ih => rw [sumN_succ, ih, sumN_succ, Nat.mul_add]

/-- The pair to the right of a cell, and the pair below it. -/
def prR (W T : Int) (xs : List Bool) (x y : Int) : Nat := tn (atB W T xs x y && atB W T xs (x + 1) y)
def prD (W T : Int) (xs : List Bool) (x y : Int) : Nat := tn (atB W T xs x y && atB W T xs x (y + 1))
def prRow (W T : Int) (xs : List Bool) (y : Int) (k : Nat) : Nat := sumN k fun x => prR W T xs x y + prD W T xs x y
def prAll (W T : Int) (xs : List Bool) (N k : Nat) : Nat := sumN k fun y => prRow W T xs y N

theorem atB_out {W T : Int} {xs : List Bool} {x y : Int} (h : ¬ (0 ≤ x ∧ x < W ∧ 0 ≤ y ∧ y < T)) : atB W T xs x y = false := by
  unfold atB
  rw [show inF W T x y = false by simp only [inF, decide_eq_false_iff_not]; exact h]
  rfl
theorem atB_in {W T : Nat} {xs : List Bool} {x y : Nat} (hx : x < W) (hy : y < T) : atB W T xs x y = xs.getD (y * W + x) false := by
  unfold atB
  rw [show inF (W : Int) T x y = true by simp only [inF, decide_eq_true_eq]; omega, Bool.true_and]
  rw [show (((y : Int) * W + x)).toNat = y * W + x by rw [show ((y : Int) * W + x) = ((y * W + x : Nat) : Int) by push_cast; rfl]; exact Int.toNat_natCast _]

theorem bdAt_pairs {W T : Nat} {xs : List Bool} {x y : Nat} (hx : x < W) (hy : y < T) :
    bdAt W T xs (y * W + x) + prR W T xs x y + prR W T xs ((x : Int) - 1) y + prD W T xs x y + prD W T xs x ((y : Int) - 1) = 4 * b2n (xs.getD (y * W + x) false) := by
  unfold bdAt
  rw [show (((y * W + x : Nat) : Int) % (W : Int)) = (x : Int) by rw [show (((y * W + x : Nat) : Int) % (W : Int)) = (((y * W + x) % W : Nat) : Int) from rfl, comb_mod hx], show (((y * W + x : Nat) : Int) / (W : Int)) = (y : Int) by rw [show (((y * W + x : Nat) : Int) / (W : Int)) = (((y * W + x) / W : Nat) : Int) from rfl, comb_div hx]]
  rw [ar4]
  have e := atB_in (xs := xs) hx hy
  unfold prR prD
  rw [show (x : Int) - 1 + 1 = x by omega, show (y : Int) - 1 + 1 = y by omega, ← e]
  cases atB (W : Int) T xs x y <;> cases atB (W : Int) T xs x ((y : Int) - 1) <;> cases atB (W : Int) T xs ((x : Int) - 1) y <;> cases atB (W : Int) T xs ((x : Int) + 1) y <;> cases atB (W : Int) T xs x ((y : Int) + 1) <;> rfl

theorem row_pairs {W T : Nat} {xs : List Bool} (y : Int) : sumN W (fun x => prR W T xs ((x : Int) - 1) y) = sumN W fun x => prR W T xs x y := by
  have h := sumN_shift (fun x => prR W T xs x y) W
  have h1 : prR W T xs (-1) y = 0 := by unfold prR; rw [atB_out (by omega)]; rfl
  have h2 : prR W T xs ((W : Int) - 1) y = 0 := by unfold prR; rw [atB_out (x := (W : Int) - 1 + 1) (by omega), Bool.and_false]; rfl
  simp only [h1, h2] at h
  omega
theorem col_pairs {W T : Nat} {xs : List Bool} (x : Int) : sumN T (fun y => prD W T xs x ((y : Int) - 1)) = sumN T fun y => prD W T xs x y := by
  have h := sumN_shift (fun y => prD W T xs x y) T
  have h1 : prD W T xs x (-1) = 0 := by unfold prD; rw [atB_out (by omega)]; rfl
  have h2 : prD W T xs x ((T : Int) - 1) = 0 := by unfold prD; rw [atB_out (y := (T : Int) - 1 + 1) (by omega), Bool.and_false]; rfl
  simp only [h1, h2] at h
  omega

theorem bdN_sum (W T : Int) (xs : List Bool) (k : Nat) : bdN W T xs k = sumN k (bdAt W T xs) := rfl

theorem bord_pairs {W T : Nat} {xs : List Bool} (hl : xs.length = T * W) : bdN W T xs xs.length + 2 * prAll W T xs W T = 4 * cnt xs := by
  rw [cnt_sum, ← sumN_mul, bdN_sum, hl, sumN_flat, sumN_flat]
  have h : (sumN T fun y => sumN W fun x => bdAt W T xs (y * W + x) + prR W T xs x y + prR W T xs ((x : Int) - 1) y + prD W T xs x y + prD W T xs x ((y : Int) - 1))
      = sumN T fun y => sumN W fun x => 4 * b2n (xs.getD (y * W + x) false) :=
    sumN_congr fun y hy => sumN_congr fun x hx => bdAt_pairs hx hy
  rw [← h]
  have e1 : (sumN T fun y => sumN W fun x => bdAt W T xs (y * W + x) + prR W T xs x y + prR W T xs ((x : Int) - 1) y + prD W T xs x y + prD W T xs x ((y : Int) - 1))
      = (sumN T fun y => sumN W fun x => bdAt W T xs (y * W + x)) + (sumN T fun y => sumN W fun x => prR W T xs x y) + (sumN T fun y => sumN W fun x => prR W T xs ((x : Int) - 1) y) + (sumN T fun y => sumN W fun x => prD W T xs x y) + (sumN T fun y => sumN W fun x => prD W T xs x ((y : Int) - 1)) := by
    rw [← sumN_add, ← sumN_add, ← sumN_add, ← sumN_add]
    refine sumN_congr fun y _ => ?_
    rw [← sumN_add, ← sumN_add, ← sumN_add, ← sumN_add]
  have e2 : (sumN T fun y => sumN W fun x => prR W T xs ((x : Int) - 1) y) = sumN T fun y => sumN W fun x => prR W T xs x y := sumN_congr fun y _ => row_pairs (y : Int)
  have e3 : (sumN T fun y => sumN W fun x => prD W T xs x ((y : Int) - 1)) = sumN T fun y => sumN W fun x => prD W T xs x y := by
    rw [sumN_swap, sumN_swap T W fun y x => prD W T xs x y]
    exact sumN_congr fun x _ => col_pairs (x : Int)
  have e4 : prAll W T xs W T = (sumN T fun y => sumN W fun x => prR W T xs x y) + sumN T fun y => sumN W fun x => prD W T xs x y := by
    unfold prAll prRow
    rw [← sumN_add]
    exact sumN_congr fun y _ => sumN_add _ _ _
  rw [e1, e2, e3, e4]
  omega
end Go.Proofs.Ytlgmnceicnhhnaa
