/- More laws for a statement whose order Go leaves open: two operations that may come up; a cut around the whole statement. -/
import Derived.Test.YtnpmnjmjbpfipaaTill
namespace Go.Proofs.Ytnpmnjmjbpfipaa
open Go.RowKit
set_option linter.unusedVariables false
set_option maxRecDepth 100000

section
variable {P : Program} {ops : Array Oper} {Q : Exit → Act → World → Prop} {md : Region.Mode} {S : World → Prop} {L : Nat}

/-- Two operations may come up: either is carried out. -/
theorem Till.two {i j : Nat} {oi oj : Oper} {m : Nat} {d : Array Bool} {a : Act} {w : World} (hr : Region.ready md ops d = [i, j]) (hi : ops[i]? = some oi) (hj : ops[j]? = some oj)
    (hwi : Region.wanted oi (yielded ops a.tmps) = true) (hwj : Region.wanted oj (yielded ops a.tmps) = true)
    (h1 : ∀ K, Hid (∀ a' w', (i ≠ L → S w') → Till P md ops Q S L m (d.setIfInBounds i true) a' w' → K a' w') → (if Region.wanted oi (yielded ops a.tmps) = true then Oper.wp P oi a w K Q else True))
    (h2 : ∀ K, Hid (∀ a' w', (j ≠ L → S w') → Till P md ops Q S L m (d.setIfInBounds j true) a' w' → K a' w') → (if Region.wanted oj (yielded ops a.tmps) = true then Oper.wp P oj a w K Q else True)) :
    Till P md ops Q S L (m + 1) d a w := by
  refine ⟨fun e => (by rw [hr] at e; simp at e), fun k hk => ?_⟩
  rw [hr] at hk
  simp only [List.mem_cons, List.not_mem_nil, or_false] at hk
  rcases hk with rfl | rfl
  · have x := h1 (fun a' w' => (k ≠ L → S w') ∧ Till P md ops Q S L m (d.setIfInBounds k true) a' w') (fun a' w' u v => ⟨u, v⟩)
    rw [if_pos hwi] at x
    unfold wpOp
    simp only [hi, hwi, if_true]
    exact Or.inl x
  · have x := h2 (fun a' w' => (k ≠ L → S w') ∧ Till P md ops Q S L m (d.setIfInBounds k true) a' w') (fun a' w' u v => ⟨u, v⟩)
    rw [if_pos hwj] at x
    unfold wpOp
    simp only [hj, hwj, if_true]
    exact Or.inl x

/-- A cut around a statement: what it leaves is said once, whatever way it went. -/
theorem cut_region {id : Nat} {b : Bool} {a : Act} {w : World} (R : Act → Act → World → Prop)
    (h1 : (Code.region id ops b).wp P (fun e a' w' => e = .normal ∧ R a a' w') a w) (h2 : ∀ a' w', R a a' w' → Q .normal a' w') : (Code.region id ops b).wp P Q a w :=
  Code.wp_mono (fun e a' w' ⟨he, hr⟩ => by subst he; exact h2 a' w' hr) h1
end
end Go.Proofs.Ytnpmnjmjbpfipaa
