/- Contract of the function that calls itself within impl.completions: it yields all tilings with the dominoes of a list. -/
import Derived.Test.YtagbjhiagkkahaaIterM
import Derived.RangeFuncKeeps
import Derived.RangeFuncBound
import Derived.RangeFuncLeaves
import Derived.Shelf.Abstract
import Derived.Shelf.RegionOpen
import Derived.WalkKit
import Derived.OwnWalkIn
import Derived.TacticsInMore
import Derived.LoopNIn
import Derived.LoopIn
namespace Go.Proofs.Ytagbjhiagkkahaa
open Go.RowKit Go.Shelf
set_option linter.unusedVariables false
set_option maxRecDepth 100000
set_option linter.unusedSimpArgs false
attribute [local go_sem] Oper.semAt_some

theorem room_of_none' {F : Fence} (hd : F.depth = none) (k : Nat) : F.room k := fun d h => by rw [hd] at h; cases h
theorem RoundIn.anyDepth' {F : Fence} (hd : F.depth = none) {m m' : Nat} {P : Program} {l : Nat} {f : FuncId} {tmps : Array Value} {assign body : Code} {w : World} {R : Ending → World → Prop}
    (h : RoundIn F m P l f tmps assign body w R) : RoundIn F m' P l f tmps assign body w R := ⟨h.1, fun c cs _ => h.2 c cs (room_of_none' hd _)⟩
theorem YieldAt.anyDepth' {F : Fence} (hd : F.depth = none) {m : Nat} (m' : Nat) {P : Program} {l : Nat} {args : Array Value} {W : World} {R : Ending → World → Prop} (h : YieldAt F m P l args W R) : YieldAt F m' P l args W R := by
  obtain ⟨fn, tmps, assign, body, hy, hR⟩ := h
  exact ⟨fn, tmps, assign, body, hy, RoundIn.anyDepth' hd hR⟩

/-- How a part of the walk ends: it goes on, all of them having come; or it is to stop, some having come. -/
def ItPost (J Jx : List (List Int) → World → Prop) (pre all : List (List Int)) (b : Bool) (W' : World) : Prop :=
  (b = true → J (pre ++ all) W') ∧ (b = false → ∃ q, q <+: all ∧ q ≠ [] ∧ Jx (pre ++ q) W')

def partsA (A1 A2 : List (List Int)) : Nat → List (List Int)
  | 0 => []
  | 1 => A1
  | _ => A1 ++ A2
theorem parts_pre0 {A1 A2 q : List (List Int)} (h : q <+: A1) : partsA A1 A2 0 ++ q <+: A1 ++ A2 := by
  show [] ++ q <+: _
  rw [List.nil_append]
  exact h.trans (List.prefix_append _ _)
theorem parts_pre1 {A1 A2 q : List (List Int)} (h : q <+: A2) : partsA A1 A2 1 ++ q <+: A1 ++ A2 := (List.prefix_append_right_inj A1).2 h

end Go.Proofs.Ytagbjhiagkkahaa
