/- How many cells of the field with a rim do not belong to a region: all but its cells. -/
import Derived.Test.YtpcajacekmidbaaOutsideM
namespace Go.Proofs.Ytpcajacekmidbaa
open Go.RowKit
set_option linter.unusedVariables false
set_option maxRecDepth 100000
set_option linter.unusedSimpArgs false

def sumR (f : Nat → Nat) : Nat → Nat
  | 0 => 0
  | n + 1 => sumR f n + f n
theorem sumR_congr {f g : Nat → Nat} : ∀ {n : Nat}, (∀ i, i < n → f i = g i) → sumR f n = sumR g n
  | 0, _ => rfl
  | n + 1, h => by unfold sumR; rw [sumR_congr (fun i hi => h i (by omega)), h n (by omega)]
theorem sumR_shift (f : Nat → Nat) : ∀ n, sumR f (n + 1) = f 0 + sumR (fun i => f (i + 1)) n
  | 0 => by simp [sumR]
  | n + 1 => by
    rw [show sumR f (n + 1 + 1) = sumR f (n + 1) + f (n + 1) from rfl, sumR_shift f n]
    show f 0 + sumR (fun i => f (i + 1)) n + f (n + 1) = f 0 + (sumR (fun i => f (i + 1)) n + f (n + 1))
    omega
theorem sumR_rim (f : Nat → Nat) (n : Nat) (h0 : f 0 = 0) (h1 : f (n + 1) = 0) : sumR f (n + 2) = sumR (fun i => f (i + 1)) n := by
  rw [show sumR f (n + 2) = sumR f (n + 1) + f (n + 1) from rfl, sumR_shift, h0, h1]; omega
theorem countP_sumR (p : Nat → Bool) : ∀ n, (List.range n).countP p = sumR (fun i => if p i then 1 else 0) n
  | 0 => rfl
  | n + 1 => by
    rw [List.range_succ, List.countP_append, countP_sumR p n]
    simp [sumR, List.countP_cons]
theorem sumR_add (f : Nat → Nat) (n : Nat) : ∀ m, sumR f (n + m) = sumR f n + sumR (fun i => f (n + i)) m
  | 0 => by simp [sumR]
  | m + 1 => by
    rw [show n + (m + 1) = (n + m) + 1 by omega]
    show sumR f (n + m) + f (n + m) = sumR f n + (sumR (fun i => f (n + i)) m + f (n + m))
    rw [sumR_add f n m]; omega
theorem sumR_rows (f : Nat → Nat) (V : Nat) : ∀ H, sumR f (H * V) = sumR (fun y => sumR (fun x => f (y * V + x)) V) H
  | 0 => by simp [sumR]
  | H + 1 => by
    rw [Nat.add_mul, Nat.one_mul, sumR_add, sumR_rows f V H]; rfl
theorem outB_at {W T : Nat} {xs : List Bool} {x y : Nat} (hx : x < W + 2) : outB W T xs (y * (W + 2) + x) = !atB W T xs ((x : Int) - 1) ((y : Int) - 1) := by
  unfold outB
  have ew : ((W + 2 : Nat) : Int) = (W : Int) + 2 := by omega
  have e : ((y * (W + 2) + x : Nat) : Int) = (x : Int) + (y : Int) * ((W : Int) + 2) := by
    rw [Int.natCast_add, Int.natCast_mul, ew, Int.add_comm]
  have e1 : ((y * (W + 2) + x : Nat) : Int) % ((W : Int) + 2) = x := by
    rw [e, Int.add_mul_emod_self_right, Int.emod_eq_of_lt (by omega) (by omega)]
  have e2 : ((y * (W + 2) + x : Nat) : Int) / ((W : Int) + 2) = y := by
    rw [e, Int.add_mul_ediv_right _ _ (by omega), Int.ediv_eq_zero_of_lt (by omega) (by omega)]; omega
  rw [e1, e2]
theorem in_count {W T : Nat} {xs : List Bool} (hl : xs.length = W * T) : (List.range ((W + 2) * (T + 2))).countP (fun i => !outB W T xs i) = cnt xs := by
  have hc : cnt xs = (List.range (T * W)).countP fun i => xs.getD i false := by
    unfold cnt
    rw [Nat.mul_comm, ← hl]
    have key : ∀ k, k ≤ xs.length → (xs.take k).countP id = (List.range k).countP fun i => xs.getD i false := by
      intro k
      induction k with
      | zero => intro _; simp
      | succ k ih =>
        intro hk
        rw [List.range_succ, List.countP_append, ← ih (by omega), List.take_succ_eq_append_getElem (by omega), List.countP_append]
        have : k < xs.length := by omega
        simp [List.countP_cons, this]
    have := key xs.length (Nat.le_refl _)
    rwa [List.take_length] at this
  rw [hc, countP_sumR, countP_sumR, Nat.mul_comm (W + 2), sumR_rows, sumR_rows]
  have row : ∀ y, y < T + 2 → sumR (fun x => if (!outB W T xs (y * (W + 2) + x)) = true then 1 else 0) (W + 2) = sumR (fun x => if atB W T xs (x : Int) ((y : Int) - 1) = true then 1 else 0) W := by
    intro y hy
    rw [sumR_rim]
    · refine sumR_congr fun x hx => ?_
      rw [outB_at (by omega)]
      have : ((x + 1 : Nat) : Int) - 1 = x := by omega
      rw [this]; simp
    · rw [outB_at (by omega)]
      have : atB W T xs (((0 : Nat) : Int) - 1) ((y : Int) - 1) = false := by
        unfold atB inF
        rw [decide_eq_false (by omega)]; rfl
      rw [this]; rfl
    · rw [outB_at (by omega)]
      have : atB W T xs (((W + 1 : Nat) : Int) - 1) ((y : Int) - 1) = false := by
        unfold atB inF
        rw [decide_eq_false (by omega)]; rfl
      rw [this]; rfl
  rw [sumR_congr row, sumR_rim]
  · refine sumR_congr fun y hy => sumR_congr fun x hx => ?_
    have e : ((y + 1 : Nat) : Int) - 1 = y := by omega
    rw [e]
    unfold atB inF
    rw [decide_eq_true (by omega)]
    have : ((y : Int) * (W : Int) + (x : Int)).toNat = y * W + x := by
      have : (y : Int) * (W : Int) + (x : Int) = ((y * W + x : Nat) : Int) := by rw [Int.natCast_add, Int.natCast_mul]
      rw [this, Int.toNat_natCast]
    rw [this]; simp
  · have z : ∀ x, x < W → (if atB W T xs (x : Int) (((0 : Nat) : Int) - 1) = true then 1 else 0 : Nat) = 0 := by
      intro x hx
      unfold atB inF
      rw [decide_eq_false (by omega)]; rfl
    rw [sumR_congr (g := fun _ => 0) z]
    have : ∀ n, sumR (fun _ => 0) n = 0 := by intro n; induction n with | zero => rfl | succ n ih => unfold sumR; rw [ih]
    exact this W
  · have z : ∀ x, x < W → (if atB W T xs (x : Int) (((T + 1 : Nat) : Int) - 1) = true then 1 else 0 : Nat) = 0 := by
      intro x hx
      unfold atB inF
      rw [decide_eq_false (by omega)]; rfl
    rw [sumR_congr (g := fun _ => 0) z]
    have : ∀ n, sumR (fun _ => 0) n = 0 := by intro n; induction n with | zero => rfl | succ n ih => unfold sumR; rw [ih]
    exact this W
theorem out_count {W T : Nat} {xs : List Bool} (hl : xs.length = W * T) : (List.range ((W + 2) * (T + 2))).countP (outB W T xs) + cnt xs = (W + 2) * (T + 2) := by
  rw [← in_count hl]
  have key : ∀ n, (List.range n).countP (outB W T xs) + (List.range n).countP (fun i => !outB W T xs i) = n := by
    intro n
    induction n with
    | zero => rfl
    | succ n ih =>
      rw [List.range_succ, List.countP_append, List.countP_append]
      cases h : outB W T xs n <;> simp [List.countP_cons, h] <;> omega
  exact key _
end Go.Proofs.Ytpcajacekmidbaa
