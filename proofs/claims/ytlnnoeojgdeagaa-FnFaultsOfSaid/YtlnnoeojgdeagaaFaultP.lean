/- Plain facts on faults: what a tiling covers in the west of a fault; the list of faults ascends. -/
import Derived.Test.YtlnnoeojgdeagaaTokP
import Derived.Test.YtlnnoeojgdeagaaFaults
namespace Go.Proofs.Ytlnnoeojgdeagaa
open Go.RowKit
set_option linter.unusedVariables false
set_option maxRecDepth 100000
set_option linter.unusedSimpArgs false

/-- No domino crosses a fault. -/
theorem fault_side {W T : Nat} {xs : List Bool} {L : List Int} {x : Nat} (h : lok W T xs L = true) (hx : acrossN W L x T = false) {i : Nat} (hi : i < xs.length) (h0 : L.getD i 0 ≠ 0) : decide (prt W T L i % W < x) = decide (i % W < x) := by
  obtain ⟨hr, v1, v2, v3, v4, v5, v6⟩ := lok_parts h
  obtain ⟨hs, ho, hne, hxi, hxo, hb, w1, w4, _⟩ := prt_at h hi h0
  obtain ⟨c1, c3, c2⟩ := step_col v2 v4 (show i < W * T by omega) ⟨w1, w4⟩ hs
  have no : ∀ k, k < W * T → L.getD k 0 = 3 → k % W ≠ x := by
    intro k hk h3 e
    have hrow : k / W < T := Nat.div_lt_of_lt_mul hk
    have : acrossN W L x T = true := acrossN_hit hrow (by
      rw [show k / W * W + x = k by rw [Nat.mul_comm, ← e]; exact Nat.div_add_mod k W]
      exact h3)
    rw [hx] at this; cases this
  have hw : L.getD i 0 = 1 ∨ L.getD i 0 = 2 ∨ L.getD i 0 = 3 ∨ L.getD i 0 = 4 := by omega
  rcases hw with e | e | e | e
  · have e1 := c1 e
    have e2 := no (prt W T L i) (by omega) (by rw [hb, e]; rfl)
    exact decide_eq_decide.2 (by omega)
  · rw [c2 (Or.inl e)]
  · have e1 := c3 e
    have e2 := no i (by omega) e
    exact decide_eq_decide.2 (by omega)
  · rw [c2 (Or.inr e)]

/-- Dark cells less light ones in the west of a line, among the first k cells. -/
def westS (W : Int) (xs : List Bool) (v : Int) (k : Nat) : Int :=
  ((sumN k fun i => b2n (xs.getD i false && decide ((i : Int) % W < v) && dkAt W i) : Nat) : Int) - ((sumN k fun i => b2n (xs.getD i false && decide ((i : Int) % W < v) && !dkAt W i) : Nat) : Int)
theorem westS_none {W : Int} {xs : List Bool} {v : Int} {k : Nat} (h : (xs.getD k false && decide ((k : Int) % W < v)) = false) : westS W xs v (k + 1) = westS W xs v k := by
  unfold westS
  rw [sumN_succ, sumN_succ, h]
  simp [b2n]
theorem westS_dark {W : Int} {xs : List Bool} {v : Int} {k : Nat} (h : (xs.getD k false && decide ((k : Int) % W < v)) = true) (hd : dkAt W k = true) : westS W xs v (k + 1) = westS W xs v k + 1 := by
  unfold westS
  rw [sumN_succ, sumN_succ, h, hd]
  simp only [b2n, Bool.and_self, Bool.not_true, Bool.and_false, if_true, Bool.false_eq_true, if_false]
  omega
theorem westS_light {W : Int} {xs : List Bool} {v : Int} {k : Nat} (h : (xs.getD k false && decide ((k : Int) % W < v)) = true) (hd : dkAt W k = false) : westS W xs v (k + 1) = westS W xs v k - 1 := by
  unfold westS
  rw [sumN_succ, sumN_succ, h, hd]
  simp only [b2n, Bool.and_self, Bool.not_false, Bool.and_false, if_true, Bool.false_eq_true, if_false]
  omega
theorem westS_bd (W : Int) (xs : List Bool) (v : Int) : ∀ k : Nat, -(k : Int) ≤ westS W xs v k ∧ westS W xs v k ≤ k
  | 0 => by unfold westS; simp [sumN_zero]
  | k + 1 => by
    obtain ⟨h1, h2⟩ := westS_bd W xs v k
    cases h : (xs.getD k false && decide ((k : Int) % W < v))
    · rw [westS_none h]; omega
    · cases hd : dkAt W k
      · rw [westS_light h hd]; omega
      · rw [westS_dark h hd]; omega
/-- In the west of a fault a tiling covers as many dark cells as light ones. -/
theorem westS_zero {W T : Nat} {xs : List Bool} {L : List Int} {x : Nat} (h : tok W T xs L = true) (hx : acrossN W L x T = false) : westS W xs x xs.length = 0 := by
  have e : ∀ j : Nat, decide ((j : Int) % (W : Int) < (x : Int)) = decide (j % W < x) := fun j => decide_eq_decide.2 (by omega)
  have h1 := dark_half h (fun i => decide ((i : Int) % (W : Int) < (x : Int))) (fun i hi h0 => by
    show decide (((prt W T L i : Nat) : Int) % (W : Int) < (x : Int)) = decide ((i : Int) % (W : Int) < (x : Int))
    rw [e, e]
    exact fault_side (tok_lokP h) hx hi h0)
  unfold westS
  rw [h1]
  omega
theorem fault_mem {W T : Nat} {L : List Int} {f : Nat} (hf : f < (faultsTo W T L W).length) : ∃ x : Nat, (faultsTo W T L W).getD f 0 = (x : Int) ∧ 1 ≤ x ∧ x < W ∧ acrossN W L x T = false := by
  have hm : (faultsTo W T L W).getD f 0 ∈ faultsTo W T L W := by
    have e : (faultsTo W T L W).getD f 0 = (faultsTo W T L W)[f] := by simp [List.getD, hf]
    rw [e]; exact List.getElem_mem hf
  have hm2 := hm
  unfold faultsTo at hm2
  obtain ⟨x, hx, e⟩ := List.mem_map.1 hm2
  obtain ⟨h1, h2⟩ := List.mem_filter.1 hx
  simp only [Bool.and_eq_true, decide_eq_true_eq, Bool.not_eq_true'] at h2
  refine ⟨x, ?_, h2.1, List.mem_range.1 h1, h2.2⟩
  exact e.symm
theorem fault_asc (W T : Nat) (L : List Int) : ∀ j, j + 1 < (faultsTo W T L W).length → (faultsTo W T L W).getD j 0 < (faultsTo W T L W).getD (j + 1) 0 := by
  have hp : (faultsTo W T L W).Pairwise (· < ·) := by
    unfold faultsTo
    rw [List.pairwise_map]
    exact (List.pairwise_lt_range.filter _).imp fun h => by omega
  intro j hj
  have := List.pairwise_iff_getElem.1 hp j (j + 1) (by omega) hj (by omega)
  simp only [List.getD, List.getElem?_eq_getElem hj, List.getElem?_eq_getElem (show j < (faultsTo W T L W).length by omega), Option.getD_some]
  exact this
end Go.Proofs.Ytlnnoeojgdeagaa
