/- Contracts of the law's own helpers that copy arguments. -/
import Derived.Test.YtppfiacellebkaaSz
namespace Go.Proofs.Ytppfiacellebkaa
open Go.RowKit
set_option linter.unusedVariables false
set_option maxRecDepth 100000
set_option linter.unusedSimpArgs false

def OwnsB (w : World) (B : Nat) (v : Value) (xs : List Bool) : Prop := w.ownsRow B 4 1 v xs.length (xs.map Value.bool)

theorem infoBool : (Try.prog.info? 4).map (fun i => (i.zero, i.size, i.bytes)) = some (some (.bool false), 1, 1) := by kernel_rfl

/-- What the loop has copied behind k rounds. -/
def part (xs : List Bool) (k : Nat) : List Bool := (List.range xs.length).map fun i => decide (i < k) && xs.getD i false

theorem part_len (xs : List Bool) (k : Nat) : (part xs k).length = xs.length := by simp [part]

theorem part_step (xs : List Bool) (k : Nat) : (part xs k).set k (xs.getD k false) = part xs (k + 1) := by
  apply List.ext_getElem
  · simp [part]
  · intro i h1 h2
    simp only [part, List.length_map, List.length_range] at h2
    simp only [part, List.getElem_set, List.getElem_map, List.getElem_range]
    by_cases e : k = i
    · subst e; simp
    · have : (i < k) = (i < k + 1) := by apply propext; omega
      simp [e, this]

theorem part_zero (xs : List Bool) : part xs 0 = List.replicate xs.length false := by
  apply List.ext_getElem <;> simp [part]
theorem part_all (xs : List Bool) : part xs xs.length = xs := by
  apply List.ext_getElem
  · simp [part]
  · intro i h1 h2; simp [part, h2]

theorem owns_step {w : World} {B g cap k n : Nat} {xs : List Bool} (hn : n = xs.length) (hk : k < n) (h : w.ownsRow B 4 1 (.slice (some ⟨g, 0, none⟩) n cap) n ((part xs k).map Value.bool)) :
    (w.setCell ⟨g, k, none⟩ (.bool (xs.getD k false))).ownsRow B 4 1 (.slice (some ⟨g, 0, none⟩) n cap) n ((part xs (k + 1)).map Value.bool) := by
  have := h.stored k (.bool (xs.getD k false))
  rw [← List.map_set, part_step xs k] at this
  exact this.1

theorem OwnsB.lower {w : World} {B B' : Nat} {v : Value} {xs : List Bool} (h : OwnsB w B v xs) (hB : B' ≤ B) : OwnsB w B' v xs :=
  ⟨h.1, h.2.elim Or.inl (fun ⟨g, cap, cur, hv, hg, r⟩ => Or.inr ⟨g, cap, cur, hv, Nat.le_trans hB hg, r⟩)⟩

theorem OwnsB.setBelow {w : World} {B : Nat} {v : Value} {xs : List Bool} (h : OwnsB w B v xs) {p : Addr} (hp : p.block < B) (u : Value) : OwnsB (w.setCell p u) B v xs :=
  ownsRow_setCell_below h hp u

end Go.Proofs.Ytppfiacellebkaa
