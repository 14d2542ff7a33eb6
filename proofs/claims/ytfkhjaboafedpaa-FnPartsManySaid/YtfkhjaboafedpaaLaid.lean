/- Plain facts on lists that lay dominoes. Merged of: LaidM, Laid, LaidI, LaidS, Free, TilingS, First, StepT. -/
import Derived.Test.YtfkhjaboafedpaaStep
import Derived.Test.YtfkhjaboafedpaaInts
namespace Go.Proofs.Ytfkhjaboafedpaa
open Go.RowKit
set_option linter.unusedVariables false
set_option maxRecDepth 100000
set_option linter.unusedSimpArgs false

/-- Whether the k-th cell has a direction to a cell of the region that has the opposite one. -/
def bothB (W T : Int) (xs : List Bool) (L : List Int) (k : Nat) : Bool :=
  decide (0 ≤ stepI W T k (L.getD k 0)) && xs.getD k false && xs.getD (stepI W T k (L.getD k 0)).toNat false && (L.getD (stepI W T k (L.getD k 0)).toNat 0 == backI (L.getD k 0))
def goodB (W T : Int) (xs : List Bool) (L : List Int) (k : Nat) : Bool := (L.getD k 0 == 0) || bothB W T xs L k
def goodN (W T : Int) (xs : List Bool) (L : List Int) (k : Nat) : Bool := (List.range k).all (goodB W T xs L)
def lok (W T : Int) (xs : List Bool) (L : List Int) : Bool := rv W T xs && (L.length == xs.length) && goodN W T xs L L.length
theorem goodN_zero (W T : Int) (xs : List Bool) (L : List Int) : goodN W T xs L 0 = true := rfl
theorem goodN_succ (W T : Int) (xs : List Bool) (L : List Int) (k : Nat) : goodN W T xs L (k + 1) = (goodN W T xs L k && goodB W T xs L k) := by
  unfold goodN; rw [List.range_succ, List.all_append]; simp
theorem goodN_false {W T : Int} {xs : List Bool} {L : List Int} {k n : Nat} (hk : k < n) (h : goodB W T xs L k = false) : goodN W T xs L n = false := by
  unfold goodN
  rw [List.all_eq_false]
  exact ⟨k, List.mem_range.2 hk, by simp [h]⟩
theorem goodN_at {W T : Int} {xs : List Bool} {L : List Int} {k n : Nat} (hk : k < n) (h : goodN W T xs L n = true) : goodB W T xs L k = true := by
  unfold goodN at h
  exact List.all_eq_true.1 h k (List.mem_range.2 hk)
theorem lok_rv {W T : Int} {xs : List Bool} {L : List Int} (h : lok W T xs L = true) : rv W T xs = true ∧ L.length = xs.length ∧ ∀ k, k < L.length → goodB W T xs L k = true := by
  simp only [lok, Bool.and_eq_true, beq_iff_eq] at h
  exact ⟨h.1.1, h.1.2, fun k hk => goodN_at hk h.2⟩
theorem lok_len' {W T : Int} {xs : List Bool} {L : List Int} (h : lok W T xs L = true) : L.length = xs.length := (lok_rv h).2.1
/-- In a list that is right, a cell has no domino or one of the four directions. -/
theorem lok_way {W T : Int} {xs : List Bool} {L : List Int} (h : lok W T xs L = true) {k : Nat} (hk : k < L.length) : 0 ≤ L.getD k 0 ∧ L.getD k 0 ≤ 4 := by
  have := (lok_rv h).2.2 k hk
  simp only [goodB, bothB, Bool.or_eq_true, beq_iff_eq, Bool.and_eq_true, decide_eq_true_eq] at this
  rcases this with h0 | ⟨⟨⟨h1, _⟩, _⟩, _⟩
  · omega
  · unfold stepI at h1
    split at h1
    · omega
    · split at h1
      · omega
      · split at h1
        · omega
        · split at h1 <;> omega
theorem lok_both {W T : Int} {xs : List Bool} {L : List Int} (h : lok W T xs L = true) {k : Nat} (hk : k < L.length) (h0 : L.getD k 0 ≠ 0) : bothB W T xs L k = true := by
  have := (lok_rv h).2.2 k hk
  simp only [goodB, Bool.or_eq_true, beq_iff_eq] at this
  rcases this with h1 | h1
  · exact absurd h1 h0
  · exact h1

/-- A cell of the region without a domino. -/
def freeB (xs : List Bool) (L : List Int) (k : Nat) : Bool := xs.getD k false && (L.getD k 0 == 0)
/-- The first cell of the region without a domino, from a cell on; -1 if there is none. -/
def firstI (xs : List Bool) (L : List Int) (s n : Nat) : Int :=
  match (List.range' s (n - s)).find? (freeB xs L) with
  | some k => k
  | none => -1
theorem first_none {xs : List Bool} {L : List Int} {s n : Nat} (h : ∀ j, s ≤ j → j < n → freeB xs L j = false) : firstI xs L s n = -1 := by
  unfold firstI
  have : (List.range' s (n - s)).find? (freeB xs L) = none := by
    rw [List.find?_eq_none]
    intro x hx
    rw [List.mem_range'_1] at hx
    simp [h x hx.1 (by omega)]
  rw [this]
theorem first_some {xs : List Bool} {L : List Int} {s n k : Nat} (hs : s ≤ k) (hk : k < n) (h : ∀ j, s ≤ j → j < k → freeB xs L j = false) (hf : freeB xs L k = true) : firstI xs L s n = k := by
  unfold firstI
  have : (List.range' s (n - s)).find? (freeB xs L) = some k := by
    have e : List.range' s (n - s) = List.range' s (k - s) ++ (k :: List.range' (k + 1) (n - k - 1)) := by
      rw [show n - s = (k - s) + (1 + (n - k - 1)) by omega, ← List.range'_append_1, show s + (k - s) = k by omega, ← List.range'_append_1]
      rfl
    rw [e, List.find?_append]
    have : (List.range' s (k - s)).find? (freeB xs L) = none := by
      rw [List.find?_eq_none]
      intro x hx
      rw [List.mem_range'_1] at hx
      simp [h x hx.1 (by omega)]
    rw [this]
    simp [hf]
  rw [this]
theorem first_cases (xs : List Bool) (L : List Int) (s n : Nat) :
    (firstI xs L s n = -1 ∧ ∀ j, s ≤ j → j < n → freeB xs L j = false) ∨ ∃ k, s ≤ k ∧ k < n ∧ firstI xs L s n = k ∧ freeB xs L k = true ∧ ∀ j, s ≤ j → j < k → freeB xs L j = false := by
  by_cases h : ∀ j, s ≤ j → j < n → freeB xs L j = false
  · exact Or.inl ⟨first_none h, h⟩
  · right
    have : ∃ k, s ≤ k ∧ k < n ∧ freeB xs L k = true := by
      apply Classical.byContradiction; intro hc
      exact h fun j h1 h2 => by
        cases hb : freeB xs L j
        · rfl
        · exact absurd ⟨j, h1, h2, hb⟩ hc
    -- the least such one
    have hmin : ∀ m, ∀ k, k ≤ m → s ≤ k → k < n → freeB xs L k = true → ∃ k', s ≤ k' ∧ k' < n ∧ freeB xs L k' = true ∧ ∀ j, s ≤ j → j < k' → freeB xs L j = false := by
      intro m
      induction m with
      | zero => intro k h0 h1 h2 h3; exact ⟨k, h1, h2, h3, fun j _ hj => by omega⟩
      | succ m ih =>
        intro k h0 h1 h2 h3
        by_cases hx : ∃ j, s ≤ j ∧ j < k ∧ freeB xs L j = true
        · obtain ⟨j, j1, j2, j3⟩ := hx
          exact ih j (by omega) j1 (by omega) j3
        · exact ⟨k, h1, h2, h3, fun j j1 j2 => by
            cases hb : freeB xs L j
            · rfl
            · exact absurd ⟨j, j1, j2, hb⟩ hx⟩
    obtain ⟨k, h1, h2, h3⟩ := this
    obtain ⟨k', a, b, c, d⟩ := hmin k k (Nat.le_refl _) h1 h2 h3
    exact ⟨k', a, b, first_some a b d c, c, d⟩

def tok (W T : Int) (xs : List Bool) (L : List Int) : Bool := lok W T xs L && decide (firstI xs L 0 L.length < 0)
/-- How many of the first k entries are a direction. -/
def wayN (L : List Int) (way : Int) (k : Nat) : Nat := (List.range k).countP fun i => L.getD i 0 == way
theorem wayN_succ (L : List Int) (way : Int) (k : Nat) : wayN L way (k + 1) = wayN L way k + if L.getD k 0 == way then 1 else 0 := by
  unfold wayN
  rw [List.range_succ, List.countP_append]
  simp [List.countP_cons]
theorem wayN_le (L : List Int) (way : Int) (k : Nat) : wayN L way k ≤ k := by
  have := List.countP_le_length (p := fun i => L.getD i 0 == way) (l := List.range k)
  rw [List.length_range] at this; exact this
def laidN (W T : Int) (xs : List Bool) (L : List Int) : Int := if lok W T xs L then wayN L 1 L.length + wayN L 2 L.length else -1
def flatN (W T : Int) (xs : List Bool) (L : List Int) : Int := if lok W T xs L then wayN L 1 L.length else -1

end Go.Proofs.Ytfkhjaboafedpaa

namespace Go.Proofs.Ytfkhjaboafedpaa
open Go.RowKit
set_option linter.unusedVariables false
set_option maxRecDepth 100000
set_option linter.unusedSimpArgs false

theorem BoolsAt.cellAt {w : World} {b off : Nat} {xs : List Bool} (h : BoolsAt w (some ⟨b, off, none⟩) xs) {i : Nat} (hi : i < xs.length) : w.cell? ⟨b, off + i, none⟩ = some (.bool (xs.getD i false)) := by
  obtain ⟨b', off', e, hc⟩ := h i hi
  simp only [Option.some.injEq, Addr.mk.injEq, and_true] at e
  obtain ⟨rfl, rfl⟩ := e
  exact hc
theorem IntsAt.cellAt {w : World} {b off : Nat} {xs : List Int} (h : IntsAt w (some ⟨b, off, none⟩) xs) {i : Nat} (hi : i < xs.length) : w.cell? ⟨b, off + i, none⟩ = some (.int .i64 (xs.getD i 0)) := by
  obtain ⟨b', off', e, hc⟩ := h i hi
  simp only [Option.some.injEq, Addr.mk.injEq, and_true] at e
  obtain ⟨rfl, rfl⟩ := e
  exact hc

theorem cellBeside_is (W T : Int) (a : Option Addr) (n cap : Nat) (k way : Int) (w : World) {v : Int} (hW0 : 1 ≤ W) (hW1 : W ≤ 6) (hT0 : 1 ≤ T) (hT1 : T ≤ 6) (hWT : (n : Int) = W * T) (h : cellB W T n k way = v) :
    Calls Try.prog 55 #[.agg #[.int .i64 W, .int .i64 T, .slice a n cap], .int .i64 k, .int .i64 way] w fun e w' => e = .returned (.int .i64 v) ∧ Below w.heap.size w w' := by
  subst h; exact cellBeside_any W T a n cap k way w hW0 hW1 hT0 hT1 hWT

end Go.Proofs.Ytfkhjaboafedpaa

namespace Go.Proofs.Ytfkhjaboafedpaa
open Go.RowKit
set_option linter.unusedVariables false
set_option maxRecDepth 100000
set_option linter.unusedSimpArgs false

theorem good_zero {W T : Int} {xs : List Bool} {L : List Int} {k : Nat} (h : L.getD k 0 = 0) : goodB W T xs L k = true := by unfold goodB; rw [h]; rfl
theorem good_both {W T : Int} {xs : List Bool} {L : List Int} {k : Nat} (h : L.getD k 0 ≠ 0) : goodB W T xs L k = bothB W T xs L k := by
  unfold goodB; rw [show (L.getD k 0 == 0) = false by simpa using h]; rfl
theorem lok_no {W T : Int} {xs : List Bool} {L : List Int} {k : Nat} (hk : k < L.length) (h : goodB W T xs L k = false) : lok W T xs L = false := by
  unfold lok; rw [goodN_false hk h]; simp
theorem lok_yes {W T : Int} {xs : List Bool} {L : List Int} (h : rv W T xs = true) (hl : L.length = xs.length) (hg : goodN W T xs L L.length = true) : lok W T xs L = true := by
  unfold lok; rw [h, hg, hl]; simp

end Go.Proofs.Ytfkhjaboafedpaa

namespace Go.Proofs.Ytfkhjaboafedpaa
open Go.RowKit
set_option linter.unusedVariables false
set_option maxRecDepth 100000
set_option linter.unusedSimpArgs false

theorem inB_way (wy : Int) : inB wy 1 4 = okOf wy := rfl
theorem both_no {W T : Int} {xs : List Bool} {L : List Int} {k : Nat} (h : okOf (L.getD k 0) = false) : bothB W T xs L k = false := by
  unfold bothB; rw [step_bad h]; rfl
theorem both_off {W T : Int} {xs : List Bool} {L : List Int} {k : Nat} (h : xs.getD k false = false) : bothB W T xs L k = false := by
  unfold bothB; rw [h]; simp
theorem l2Step_is (W T : Int) (a : Option Addr) (n cap : Nat) (k way : Int) (w : World) {v : Int} (hW0 : 1 ≤ W) (hW1 : W ≤ 6) (hT0 : 1 ≤ T) (hT1 : T ≤ 6) (h0 : 0 ≤ k) (h1 : k < W * T) (h : stepI W T k way = v) :
    Calls Try.prog 47 #[.agg #[.int .i64 W, .int .i64 T, .slice a n cap], .int .i64 k, .int .i64 way] w fun e w' => e = .returned (.int .i64 v) ∧ Below w.heap.size w w' := by
  subst h; exact l2Step_any W T a n cap k way w hW0 hW1 hT0 hT1 h0 h1

end Go.Proofs.Ytfkhjaboafedpaa

namespace Go.Proofs.Ytfkhjaboafedpaa
open Go.RowKit
set_option linter.unusedVariables false
set_option maxRecDepth 100000
set_option linter.unusedSimpArgs false

/-- No cell from s to k is free. -/
def NoFree (xs : List Bool) (L : List Int) (s k : Nat) : Prop := ∀ j, s ≤ j → j < k → freeB xs L j = false
theorem NoFree.step {xs : List Bool} {L : List Int} {s k : Nat} (h : NoFree xs L s k) (hk : freeB xs L k = false) : NoFree xs L s (k + 1) := fun j h1 h2 => by
  by_cases e : j = k
  · rw [e]; exact hk
  · exact h j h1 (by omega)

end Go.Proofs.Ytfkhjaboafedpaa

namespace Go.Proofs.Ytfkhjaboafedpaa
open Go.RowKit
set_option linter.unusedVariables false
set_option maxRecDepth 100000
set_option linter.unusedSimpArgs false

theorem tok_lok {W T : Int} {xs : List Bool} {L : List Int} (h : lok W T xs L = false) : tok W T xs L = false := by unfold tok; rw [h]; rfl
theorem tok_hit {W T : Int} {xs : List Bool} {L : List Int} {k : Nat} (hk : k < L.length) (hn : NoFree xs L 0 k) (hf : freeB xs L k = true) : tok W T xs L = false := by
  unfold tok; rw [first_some (Nat.zero_le _) hk hn hf]; simp
theorem tok_all {W T : Int} {xs : List Bool} {L : List Int} (h : lok W T xs L = true) (hn : NoFree xs L 0 L.length) : tok W T xs L = true := by
  unfold tok; rw [first_none hn, h]; rfl
theorem free_off {xs : List Bool} {L : List Int} {k : Nat} (h : xs.getD k false = false) : freeB xs L k = false := by unfold freeB; rw [h]; rfl
theorem free_on {xs : List Bool} {L : List Int} {k : Nat} (h : xs.getD k false = true) {v : Int} (hv : v = L.getD k 0) : freeB xs L k = (v == 0) := by unfold freeB; rw [h, ← hv]; rfl

end Go.Proofs.Ytfkhjaboafedpaa

namespace Go.Proofs.Ytfkhjaboafedpaa
open Go.RowKit
set_option linter.unusedVariables false
set_option maxRecDepth 100000
set_option linter.unusedSimpArgs false

end Go.Proofs.Ytfkhjaboafedpaa

namespace Go.Proofs.Ytfkhjaboafedpaa
open Go.RowKit
set_option linter.unusedVariables false
set_option maxRecDepth 100000
set_option linter.unusedSimpArgs false

end Go.Proofs.Ytfkhjaboafedpaa
