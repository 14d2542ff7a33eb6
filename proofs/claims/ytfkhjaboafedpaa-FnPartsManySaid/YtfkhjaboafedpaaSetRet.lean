/- RegionSet, both sides, said by one function. -/
import Derived.Test.YtfkhjaboafedpaaBox
import Derived.Test.YtfkhjaboafedpaaSetS
namespace Go.Proofs.Ytfkhjaboafedpaa
open Go.RowKit
set_option linter.unusedVariables false
set_option maxRecDepth 100000
set_option linter.unusedSimpArgs false

/-- A region and a mark are returned, the region's cells being fresh. -/
def RetRegT (w : World) (W T : Int) (n : Nat) (xs : List Bool) (ok : Bool) (e : Ending) (w' : World) : Prop :=
  ∃ (a : Option Addr) (cap : Nat), e = .returned (.tuple #[.agg #[.int .i64 W, .int .i64 T, .slice a n cap], .bool ok]) ∧ OwnsB w' w.heap.size (.slice a n cap) xs ∧ Below w.heap.size w w'

def setF (W T : Int) (xs : List Bool) (cell : Int) (has : Bool) : Int × Int × List Bool × Bool :=
  if setIn W T xs cell && rv W T (setB xs cell.toNat has) then (W, T, setB xs cell.toNat has, true) else (0, 0, [], false)

theorem setF_len (W T : Int) (xs : List Bool) (cell : Int) (has : Bool) : (setF W T xs cell has).2.2.1.length ≤ xs.length := by
  unfold setF
  split
  · simp [setB, tab_len]
  · simp

theorem iRegionSet_ret (W T cell : Int) (has : Bool) (a : Option Addr) (n cap : Nat) (xs : List Bool) (w : World) (hn : n = xs.length) (hn' : n ≤ 1048576) (ha : BoolsAt w a xs) :
    Calls Try.prog 23 #[.agg #[.int .i64 W, .int .i64 T, .slice a n cap], .int .i64 cell, .bool has] w (RetRegT w (setF W T xs cell has).1 (setF W T xs cell has).2.1 (setF W T xs cell has).2.2.1.length (setF W T xs cell has).2.2.1 (setF W T xs cell has).2.2.2) := by
  cases h : setIn W T xs cell
  · refine (iRegionSet_no W T cell has a n cap xs w hn hn' ha h).mono ?_
    rintro e w' ⟨rfl, hb⟩
    unfold setF; rw [h]
    exact ⟨_, _, rfl, OwnsB.nil _ _, hb⟩
  · refine (iRegionSet_in W T cell has a n cap xs w hn hn' ha h).mono ?_
    rintro e w' ⟨g, rfl, ho, hb⟩
    unfold setF; rw [h]
    cases hv : rv W T (setB xs cell.toNat has)
    · exact ⟨_, _, rfl, OwnsB.nil _ _, hb⟩
    · have hl : (setB xs cell.toNat has).length = n := by rw [hn]; simp [setB, tab_len]
      refine ⟨some ⟨g, 0, none⟩, n, ?_, ?_, hb⟩
      · simp only [Bool.and_self, if_true]; rw [hl]
      · simp only [Bool.and_self, if_true]; rw [hl]; exact ho.lower (by omega)

end Go.Proofs.Ytfkhjaboafedpaa
