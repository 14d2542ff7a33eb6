/- How the arguments of the laws are opened: a region by value. -/
import Derived.Test.YtdmnfafmbdmjmaaOwn
import Derived.ProofKit
import Derived.OpenShut
import Derived.ShutString
import Derived.ChangeOld
import Derived.Below
import Derived.Carry
import Derived.Lib.SmallJoins
import Derived.Deep.Grids
namespace Go.Proofs.Ytdmnfafmbdmjmaa
open Go.RowKit Go.ChangeShapes Go.WideShapes Go.ChangeAt Go.Deep
set_option linter.unusedVariables false
set_option maxRecDepth 100000

theorem own : ownKnob Try.prog.godebug = none := by kernel_rfl
theorem laidOut : laidOutB Try.prog = true := by kernel_rfl

theorem BoolsAt_of_cells {w : World} {a : Addr} {len : Nat} {B : Nat → Bool} (hc : ∀ i, i < len → w.cell? (a.add i) = some (.bool (B i))) :
    ∃ xs : List Bool, len = xs.length ∧ BoolsAt w (some a) xs := by
  refine ⟨(List.range len).map B, by simp, ?_⟩
  intro i hi
  simp only [List.length_map, List.length_range] at hi
  obtain ⟨b, off, spot⟩ := a
  have hc0 := hc i hi
  have hspot : spot = none := by simpa [Addr.add] using World.cell?_spot (hc 0 (by omega))
  subst hspot
  refine ⟨b, off, rfl, ?_⟩
  have : (⟨b, off, none⟩ : Addr).add i = ⟨b, off + i, none⟩ := by unfold Addr.add; split <;> simp_all
  rw [this] at hc0
  rw [hc0]; simp [hi]


end Go.Proofs.Ytdmnfafmbdmjmaa
