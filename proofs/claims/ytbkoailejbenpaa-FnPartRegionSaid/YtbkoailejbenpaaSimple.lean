/- Contracts of both functions Simple. -/
import Derived.Test.YtbkoailejbenpaaOutsideS
namespace Go.Proofs.Ytbkoailejbenpaa
open Go.RowKit
set_option linter.unusedVariables false
set_option maxRecDepth 100000
set_option linter.unusedSimpArgs false

theorem Conn.congr {N : Nat} {s s' : Nat → Bool} {adj : Nat → Nat → Bool} (h : ∀ i, i < N → s i = s' i) {i k : Nat} (hc : Conn N s adj i k) : Conn N s' adj i k := by
  induction hc with
  | refl a b => exact .refl a (by rw [← h _ a]; exact b)
  | step hij a b c ih => exact .step ih a b (by rw [← h _ b]; exact c)
theorem Marks.congr {N : Nat} {s s' : Nat → Bool} {adj : Nat → Nat → Bool} {M : List Int} (h : ∀ i, i < N → s i = s' i) (hm : Marks N s adj M) : Marks N s' adj M := by
  refine ⟨hm.1, fun k hk => ⟨fun h0 => (hm.2 k hk).1 (by rw [h k hk]; exact h0), fun h1 => ?_⟩⟩
  obtain ⟨j, hj, hc, hl⟩ := (hm.2 k hk).2 (by rw [h k hk]; exact h1)
  exact ⟨j, hj, hc.congr h, fun i hi => hl i (hi.congr (fun i hi => (h i hi).symm))⟩

/-- Whether a region is simple. -/
def simpleB (W T : Int) (xs : List Bool) : Bool := decide (partsN W T xs = 1) && outOne W T xs
theorem simpleB_rv {W T : Int} {xs : List Bool} (h : simpleB W T xs = true) : rv W T xs = true := by
  unfold simpleB at h
  rw [Bool.and_eq_true, decide_eq_true_eq] at h
  cases hr : rv W T xs
  · have := h.1; unfold partsN at this; rw [hr] at this; simp at this
  · rfl
theorem partsN_rv {W T : Int} {xs : List Bool} (h : partsN W T xs = 1) : rv W T xs = true := by
  cases hr : rv W T xs
  · unfold partsN at h; rw [hr] at h; simp at h
  · rfl

end Go.Proofs.Ytbkoailejbenpaa
