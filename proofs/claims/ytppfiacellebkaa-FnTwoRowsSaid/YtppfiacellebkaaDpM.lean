/- Plain facts on counting tilings cell by cell: the sets of covered later cells, how many ways lead from one to the end; no statement is proved here. -/
import Derived.Test.YtppfiacellebkaaStep
namespace Go.Proofs.Ytppfiacellebkaa
open Go.RowKit
set_option linter.unusedVariables false
set_option maxRecDepth 100000
set_option linter.unusedSimpArgs false

/-- Where a domino from a cell in a direction leads, as far as the other cell belongs to the region and is not covered: the set of what is covered then. -/
def optW (W T : Int) (xs : List Bool) (k s : Nat) (way : Int) : List Nat :=
  if 0 ≤ stepI W T k way ∧ xs.getD (stepI W T k way).toNat false = true ∧ s / 2 ^ ((stepI W T k way).toNat - k) % 2 = 0 then [(s + 2 ^ ((stepI W T k way).toNat - k)) / 2] else []
def optsTo (W T : Int) (xs : List Bool) (k s : Nat) : Nat → List Nat
  | 0 => []
  | j + 1 => optsTo W T xs k s j ++ optW W T xs k s ((j : Int) + 1)
def dpOpts (W T : Int) (xs : List Bool) (k s : Nat) : List Nat :=
  if xs.getD k false = false ∨ s % 2 = 1 then [s / 2] else optsTo W T xs k s 2

def dpN (W T : Int) (xs : List Bool) : Nat → Nat → Nat → Nat
  | 0, _, s => if s = 0 then 1 else 0
  | m + 1, k, s => ((dpOpts W T xs k s).map (dpN W T xs m (k + 1))).sum
/-- How many tilings a region has. -/
def dpT (W T : Int) (xs : List Bool) : Nat := dpN W T xs xs.length 0 0

theorem optW_le (W T : Int) (xs : List Bool) (k s : Nat) (way : Int) : (optW W T xs k s way).length ≤ 1 := by
  unfold optW; split <;> simp
theorem optsTo_le (W T : Int) (xs : List Bool) (k s j : Nat) : (optsTo W T xs k s j).length ≤ j := by
  induction j with
  | zero => simp [optsTo]
  | succ j ih => have := optW_le W T xs k s ((j : Int) + 1); simp only [optsTo, List.length_append]; omega
theorem dpOpts_le (W T : Int) (xs : List Bool) (k s : Nat) : (dpOpts W T xs k s).length ≤ 2 := by
  unfold dpOpts
  split
  · simp
  · exact optsTo_le W T xs k s 2

theorem sum_le_len {f : Nat → Nat} {B : Nat} : ∀ {l : List Nat}, (∀ x ∈ l, f x ≤ B) → (l.map f).sum ≤ l.length * B
  | [], _ => by simp
  | x :: r, h => by
    have h1 := h x (by simp)
    have h2 := sum_le_len (l := r) (fun y hy => h y (by simp [hy]))
    simp only [List.map_cons, List.sum_cons, List.length_cons, Nat.add_mul, Nat.one_mul]
    omega

theorem dpN_le (W T : Int) (xs : List Bool) : ∀ (m k s : Nat), dpN W T xs m k s ≤ 2 ^ m
  | 0, k, s => by unfold dpN; split <;> simp
  | m + 1, k, s => by
    unfold dpN
    have h1 := sum_le_len (f := dpN W T xs m (k + 1)) (B := 2 ^ m) (l := dpOpts W T xs k s) (fun x _ => dpN_le W T xs m (k + 1) x)
    have h2 := Nat.mul_le_mul_right (2 ^ m) (dpOpts_le W T xs k s)
    have h3 : 2 ^ (m + 1) = 2 * 2 ^ m := by rw [Nat.pow_succ, Nat.mul_comm]
    omega

theorem dpT_le {W T : Int} {xs : List Bool} (h : xs.length ≤ 36) : dpT W T xs ≤ 68719476736 := by
  have h1 := dpN_le W T xs xs.length 0 0
  have h2 : (2 : Nat) ^ xs.length ≤ 2 ^ 36 := Nat.pow_le_pow_right (by decide) h
  have h3 : (2 : Nat) ^ 36 = 68719476736 := by decide
  unfold dpT; omega

/-- A step to the east or to the north leads to a later cell. -/
theorem step_up {W T : Int} {k : Nat} {way : Int} (hw : way = 1 ∨ way = 2) (hW : 1 ≤ W) (h : 0 ≤ stepI W T k way) : (way = 1 ∧ stepI W T k way = k + 1 ∧ 1 < W) ∨ (way = 2 ∧ stepI W T k way = k + W) := by
  rcases hw with rfl | rfl
  · left
    unfold stepI at h ⊢
    split at h
    · rename_i h1
      refine ⟨rfl, by rw [if_pos h1], ?_⟩
      have := Int.emod_nonneg (k : Int) (b := W) (by omega)
      omega
    · simp at h
  · right
    unfold stepI at h ⊢
    simp at h ⊢
    split at h
    · rename_i h1
      intro h2; omega
    · simp at h

/-- .. and a set of covered cells stays among as many later cells as the field is wide. -/
theorem optW_lt {W T : Int} {xs : List Bool} {k s : Nat} {way : Int} (hw : way = 1 ∨ way = 2) (hW : 1 ≤ W) (hW6 : W ≤ 6) (hs : s < 2 ^ W.toNat) : ∀ o ∈ optW W T xs k s way, o < 2 ^ W.toNat := by
  intro o ho
  unfold optW at ho
  split at ho
  · rename_i h
    obtain ⟨h0, _, _⟩ := h
    simp only [List.mem_singleton] at ho
    subst ho
    have hw' : W = 1 ∨ W = 2 ∨ W = 3 ∨ W = 4 ∨ W = 5 ∨ W = 6 := by omega
    rcases step_up hw hW h0 with ⟨_, e, h1⟩ | ⟨_, e⟩
    · have e2 : (stepI W T k way).toNat - k = 1 := by omega
      rw [e2]
      rcases hw' with rfl | rfl | rfl | rfl | rfl | rfl <;> simp at hs ⊢ <;> omega
    · have e2 : (stepI W T k way).toNat - k = W.toNat := by omega
      rw [e2]
      rcases hw' with rfl | rfl | rfl | rfl | rfl | rfl <;> simp at hs ⊢ <;> omega
  · simp at ho

theorem dpOpts_lt {W T : Int} {xs : List Bool} {k s : Nat} (hW : 1 ≤ W) (hW6 : W ≤ 6) (hs : s < 2 ^ W.toNat) : ∀ o ∈ dpOpts W T xs k s, o < 2 ^ W.toNat := by
  intro o ho
  unfold dpOpts at ho
  split at ho
  · simp only [List.mem_singleton] at ho
    subst ho
    exact Nat.lt_of_le_of_lt (Nat.div_le_self _ _) hs
  · simp only [optsTo, List.mem_append, List.nil_append] at ho
    rcases ho with ho | ho
    · exact optW_lt (Or.inl rfl) hW hW6 hs o ho
    · exact optW_lt (Or.inr rfl) hW hW6 hs o ho

/-- A step to the east or to the north, in cases. -/
theorem step_cases {W T : Int} {xs : List Bool} {k s : Nat} {way : Int} (hw : way = 1 ∨ way = 2) (hW : 1 ≤ W) (hW6 : W ≤ 6) (hWT : (xs.length : Int) = W * T) (hk : k < xs.length) :
    (stepI W T k way = -1 ∧ optW W T xs k s way = []) ∨ ∃ d : Nat, 1 ≤ d ∧ d ≤ 6 ∧ stepI W T k way = ((k + d : Nat) : Int) ∧ k + d < xs.length ∧
      (xs.getD (k + d) false = false ∧ optW W T xs k s way = [] ∨ xs.getD (k + d) false = true ∧ s / 2 ^ d % 2 ≠ 0 ∧ optW W T xs k s way = [] ∨ xs.getD (k + d) false = true ∧ s / 2 ^ d % 2 = 0 ∧ optW W T xs k s way = [(s + 2 ^ d) / 2]) := by
  rcases step_bd (W := W) (T := T) (k := (k : Int)) (way := way) hW (by omega) (by omega) with h | ⟨h0, h1⟩
  · left
    exact ⟨h, by unfold optW; rw [h, if_neg (by omega)]⟩
  · right
    obtain ⟨d, hd1, hd6, hd⟩ : ∃ d : Nat, 1 ≤ d ∧ d ≤ 6 ∧ stepI W T k way = ((k + d : Nat) : Int) := by
      rcases step_up hw hW h0 with ⟨_, e, _⟩ | ⟨_, e⟩
      · exact ⟨1, by omega, by omega, by omega⟩
      · exact ⟨W.toNat, by omega, by omega, by omega⟩
    refine ⟨d, hd1, hd6, hd, by omega, ?_⟩
    have e1 : (stepI W T k way).toNat = k + d := by omega
    have e2 : k + d - k = d := by omega
    unfold optW
    rw [e1, e2]
    cases hc : xs.getD (k + d) false
    · left
      exact ⟨rfl, by rw [if_neg (by intro h; exact absurd h.2.1 (by simp))]⟩
    · right
      by_cases hb : s / 2 ^ d % 2 = 0
      · right
        exact ⟨rfl, hb, by rw [if_pos ⟨h0, rfl, hb⟩]⟩
      · left
        exact ⟨rfl, hb, by rw [if_neg (by intro h; exact hb h.2.2)]⟩

theorem pow_le64 {W : Int} (hW : 1 ≤ W) (hW6 : W ≤ 6) : 2 ≤ 2 ^ W.toNat ∧ 2 ^ W.toNat ≤ 64 := by
  have hw' : W = 1 ∨ W = 2 ∨ W = 3 ∨ W = 4 ∨ W = 5 ∨ W = 6 := by omega
  rcases hw' with rfl | rfl | rfl | rfl | rfl | rfl <;> decide

/-- Alike but for multiples of 2^64. -/
def Eqv (a b : Int) : Prop := ∃ z : Int, a = b + z * 18446744073709551616
theorem Eqv.refl (a : Int) : Eqv a a := ⟨0, by omega⟩
theorem Eqv.of {a b : Int} (h : a = b) : Eqv a b := ⟨0, by omega⟩
theorem Eqv.symm {a b : Int} (h : Eqv a b) : Eqv b a := by obtain ⟨z, rfl⟩ := h; exact ⟨-z, by omega⟩
theorem Eqv.trans {a b c : Int} (h : Eqv a b) (k : Eqv b c) : Eqv a c := by obtain ⟨z, rfl⟩ := h; obtain ⟨y, rfl⟩ := k; exact ⟨y + z, by omega⟩
theorem Eqv.add {a b c d : Int} (h : Eqv a b) (k : Eqv c d) : Eqv (a + c) (b + d) := by obtain ⟨z, rfl⟩ := h; obtain ⟨y, rfl⟩ := k; exact ⟨y + z, by omega⟩
theorem Eqv.mul {a b : Int} (h : Eqv a b) (c : Int) : Eqv (a * c) (b * c) := by
  obtain ⟨z, rfl⟩ := h
  exact ⟨z * c, by rw [Int.add_mul, Int.mul_assoc, Int.mul_assoc, Int.mul_comm 18446744073709551616 c]⟩
theorem wrap_eqv (a : Int) : Eqv (IntKind.i64.wrap a) a := by
  refine ⟨-((a + 9223372036854775808) / 18446744073709551616), ?_⟩
  simp [IntKind.wrap, IntKind.signed, IntKind.bits]
  omega
theorem Eqv.eq {a b : Int} (h : Eqv a b) (ha : -9223372036854775808 ≤ a ∧ a ≤ 9223372036854775807) (hb : -9223372036854775808 ≤ b ∧ b ≤ 9223372036854775807) : a = b := by
  obtain ⟨z, rfl⟩ := h
  omega

end Go.Proofs.Ytppfiacellebkaa
