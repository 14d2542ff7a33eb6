/- Contracts of slices.Clone at lists of integers, and of the two functions LaidBare. -/
import Derived.Test.YtfkhjaboafedpaaInts
import Derived.Test.YtfkhjaboafedpaaLaid
import Derived.Laws.OwnMore
namespace Go.Proofs.Ytfkhjaboafedpaa
open Go.RowKit
set_option linter.unusedVariables false
set_option maxRecDepth 100000
set_option linter.unusedSimpArgs false

theorem ints_news {w : World} {b off : Nat} {L : List Int} (h : IntsAt w (some ⟨b, off, none⟩) L) : ∀ j u, (L.map (Value.int .i64))[j]? = some u → w.cell? ((⟨b, off, none⟩ : Addr).add j) = some u := by
  intro j u hj
  have hl : j < L.length := by
    rcases Nat.lt_or_ge j L.length with h' | h'
    · exact h'
    · rw [List.getElem?_eq_none (by simpa using h')] at hj; cases hj
  have e : (⟨b, off, none⟩ : Addr).add j = ⟨b, off + j, none⟩ := by unfold Addr.add; split <;> simp_all
  rw [e, h.cellAt hl]
  simp only [List.getElem?_map, List.getElem?_eq_getElem hl, Option.map_some, Option.some.injEq] at hj
  rw [← hj]
  simp [hl]
theorem ints_one (L : List Int) : ∀ u ∈ L.map (Value.int .i64), u.oneCell' = true := by
  intro u hu
  obtain ⟨x, _, rfl⟩ := List.mem_map.1 hu
  rfl

/-- What the list without dominoes is. -/
def bareL (W T : Int) (xs : List Bool) : List Int := if rv W T xs then List.replicate xs.length 0 else []

theorem bareL_len (W T : Int) (xs : List Bool) : (bareL W T xs).length ≤ xs.length := by unfold bareL; split <;> simp

end Go.Proofs.Ytfkhjaboafedpaa
