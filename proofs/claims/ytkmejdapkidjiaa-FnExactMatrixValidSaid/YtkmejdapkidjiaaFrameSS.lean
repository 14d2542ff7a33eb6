/- How the arguments of the laws are opened: a list of lists of integers. -/
import Derived.Test.YtkmejdapkidjiaaFrameL
import Derived.Test.YtkmejdapkidjiaaRowsAt
import Derived.Deep.Matrix
namespace Go.Proofs.Ytkmejdapkidjiaa
open Go.RowKit Go.ChangeShapes Go.WideShapes Go.ChangeAt Go.Deep
set_option linter.unusedVariables false
set_option maxRecDepth 100000

set_option maxRecDepth 100000 in
theorem open_rows {H : Type} {enc : TypeId × Value → H} {w : World} {base b0 : Nat} {v : Value} {d : DataW H} {p : List MemPlace}
    (hv : Value.okWide Try.prog w .any b0 23 v) (h : DataW.Trod enc Try.prog w base (fun _ => true) true 23 v d p) :
    ∃ (a : Option Addr) (n cap : Nat) (rows : List (List Int)), v = .slice a n cap ∧ n = rows.length ∧ n ≤ maxLen ∧ (∀ i, i < rows.length → (rows.getD i []).length ≤ maxLen) ∧ RowsAt w a rows := by
  obtain ⟨a1, len, cap, rfl⟩ := okWide_slice Try.underlying23 hv
  obtain ⟨fuel, hf⟩ := h
  rcases open_int_rows Try.underlying23 Try.underlying34 Try.underlying3 (by kernel_rfl) (by kernel_rfl) hf with ⟨hcs, hx⟩ | ⟨a, len', cap', A, L, C, Z, hcs, _, hl, hm, hx, hr⟩
  · simp [Value.cells] at hcs
    obtain ⟨rfl, rfl, rfl⟩ := hcs
    exact ⟨none, 0, 0, [], rfl, rfl, Nat.zero_le _, fun i hi => absurd hi (Nat.not_lt_zero i), fun i hi => absurd hi (Nat.not_lt_zero i)⟩
  · simp [Value.cells] at hcs
    obtain ⟨rfl, rfl, rfl⟩ := hcs
    have gl : ∀ i, i < len → ((List.range len).map fun r => (Z r).take (L r)).getD i [] = (Z i).take (L i) := fun i hi => by simp [List.getD, hi]
    refine ⟨some a, len, cap, (List.range len).map fun r => (Z r).take (L r), rfl, by simp, by omega, fun i hi => ?_, fun i hi => ?_⟩
    · have hi' : i < len := by simpa using hi
      obtain ⟨_, h2, h3, h4, _⟩ := hr i (by omega)
      rw [gl i hi', List.length_take]
      omega
    · have hi' : i < len := by simpa using hi
      obtain ⟨h1, h2, h3, h4, _, h6, h7⟩ := hr i (by omega)
      rw [gl i hi']
      obtain ⟨b, off, spot⟩ := a
      have hspot : spot = none := by simpa [Addr.add] using World.cell?_spot (hr 0 (by omega)).1
      subst hspot
      have ea : (⟨b, off, none⟩ : Addr).add i = ⟨b, off + i, none⟩ := by unfold Addr.add; split <;> simp_all
      rw [ea] at h1
      have hlen : ((Z i).take (L i)).length = L i := by rw [List.length_take]; omega
      refine ⟨b, off, A i, C i, rfl, by rw [hlen]; exact h1, ?_⟩
      cases hA : A i with
      | none =>
        have := h6 hA
        intro j hj
        rw [hlen] at hj
        omega
      | some a' =>
        exact IntsAt_of_cells (by omega) (fun c hc => (h7 a' hA).2 c (by omega))

end Go.Proofs.Ytkmejdapkidjiaa
