/-
  No cell of these rows narrows 'for every input' (looked for: loops, veiled, ifaces, maps, wideKeys, modest, calm, conditions, laid).
  DERIVED. THE GIVEN ROWS OF THIS SEAT. 12 by the template 'for every input the law returns true; each argument reads behind the call as it read before'; 0 by the template 'total and deterministic' (their statements: YtlgmnceicnhhnaaTotals.lean).
  GIVEN WITH THE SEED: the statements are not yours to turn. If you find one false, say at which input.
  Laid BY PROGRAM, IN A SANDBOX (cutbox-rows.mjs): the forced cells as the released guide's own fill.sh prints them over the translation 23c0696cd908ce4c… (all of the seat's roots in one cut). By AI agents, Wed Nov 11 2026. No macro, syntax, notation, axiom, sorry.
-/
import Derived.Test.YtlgmnceicnhhnaaChecked
import GoSem.Claim
import GoSem.ClaimJoined
import GoSem.ClaimMapViews
import Derived.JoinedTies
import Derived.KernelRfl
namespace Go.Proofs.Ytlgmnceicnhhnaa
/- THE CELL 'sum', in the pinned program and in every row, IS THE sha256 OF THE DUMP (.gsa) THAT YtlgmnceicnhhnaaProg.lean LOADS. Nothing in Lean hashes anything: it is a label: what it is worth is what the hold of that sum in a sandbox is worth. -/
noncomputable def Try.pinned : Pinned := { name := "ytlgmnceicnhhnaa", sum := "23c0696cd908ce4c745f4657be6d1015a52c9fdf84b43caf10a64a971e52629b", checked := Try.checked }
namespace Rows
def none {H : Type} : Left H := { results := [], args := [] }

/-- 'laws.FnRegionValid': WHATEVER THE INPUT: true; the input reads as it did. -/
def fnRegionValidSpec : ChangeSpec := { name := "fnRegionValid", fn := fun _ => fun
  | [d] => { results := [.lit (.bool true)], args := [d] }
  | _ => none }
def fnRegionValidRow : OpenClaim := { program := "ytlgmnceicnhhnaa", sum := "23c0696cd908ce4c745f4657be6d1015a52c9fdf84b43caf10a64a971e52629b", func := "loop.example/dominotilings/laws.FnRegionValid", spec := "fnRegionValid", apart := false }
def FnRegionValidSaid : Prop := fnRegionValidRow.holds Try.pinned (OpenSpec.ofChange fnRegionValidSpec)

/-- ITS FALSE NEIGHBOUR: 'it returns false'. Refute it at one input. -/
def fnRegionValidWrong : ChangeSpec := { name := "fnRegionValid", fn := fun _ => fun
  | [d] => { results := [.lit (.bool false)], args := [d] }
  | _ => none }
def FnRegionValidWrongFalsely : Prop := fnRegionValidRow.holds Try.pinned (OpenSpec.ofChange fnRegionValidWrong)

/-- 'laws.FnRegionAt': WHATEVER THE INPUT: true; the input reads as it did. -/
def fnRegionAtSpec : ChangeSpec := { name := "fnRegionAt", fn := fun _ => fun
  | [d] => { results := [.lit (.bool true)], args := [d] }
  | _ => none }
def fnRegionAtRow : OpenClaim := { program := "ytlgmnceicnhhnaa", sum := "23c0696cd908ce4c745f4657be6d1015a52c9fdf84b43caf10a64a971e52629b", func := "loop.example/dominotilings/laws.FnRegionAt", spec := "fnRegionAt", apart := false }
def FnRegionAtSaid : Prop := fnRegionAtRow.holds Try.pinned (OpenSpec.ofChange fnRegionAtSpec)

/-- ITS FALSE NEIGHBOUR: 'it returns false'. Refute it at one input. -/
def fnRegionAtWrong : ChangeSpec := { name := "fnRegionAt", fn := fun _ => fun
  | [d] => { results := [.lit (.bool false)], args := [d] }
  | _ => none }
def FnRegionAtWrongFalsely : Prop := fnRegionAtRow.holds Try.pinned (OpenSpec.ofChange fnRegionAtWrong)

/-- 'laws.FnRegionSet': WHATEVER THE INPUT: true; the input reads as it did. -/
def fnRegionSetSpec : ChangeSpec := { name := "fnRegionSet", fn := fun _ => fun
  | [d] => { results := [.lit (.bool true)], args := [d] }
  | _ => none }
def fnRegionSetRow : OpenClaim := { program := "ytlgmnceicnhhnaa", sum := "23c0696cd908ce4c745f4657be6d1015a52c9fdf84b43caf10a64a971e52629b", func := "loop.example/dominotilings/laws.FnRegionSet", spec := "fnRegionSet", apart := false }
def FnRegionSetSaid : Prop := fnRegionSetRow.holds Try.pinned (OpenSpec.ofChange fnRegionSetSpec)

/-- ITS FALSE NEIGHBOUR: 'it returns false'. Refute it at one input. -/
def fnRegionSetWrong : ChangeSpec := { name := "fnRegionSet", fn := fun _ => fun
  | [d] => { results := [.lit (.bool false)], args := [d] }
  | _ => none }
def FnRegionSetWrongFalsely : Prop := fnRegionSetRow.holds Try.pinned (OpenSpec.ofChange fnRegionSetWrong)

/-- 'laws.FnDarkMany': WHATEVER THE INPUT: true; the input reads as it did. -/
def fnDarkManySpec : ChangeSpec := { name := "fnDarkMany", fn := fun _ => fun
  | [d] => { results := [.lit (.bool true)], args := [d] }
  | _ => none }
def fnDarkManyRow : OpenClaim := { program := "ytlgmnceicnhhnaa", sum := "23c0696cd908ce4c745f4657be6d1015a52c9fdf84b43caf10a64a971e52629b", func := "loop.example/dominotilings/laws.FnDarkMany", spec := "fnDarkMany", apart := false }
def FnDarkManySaid : Prop := fnDarkManyRow.holds Try.pinned (OpenSpec.ofChange fnDarkManySpec)

/-- ITS FALSE NEIGHBOUR: 'it returns false'. Refute it at one input. -/
def fnDarkManyWrong : ChangeSpec := { name := "fnDarkMany", fn := fun _ => fun
  | [d] => { results := [.lit (.bool false)], args := [d] }
  | _ => none }
def FnDarkManyWrongFalsely : Prop := fnDarkManyRow.holds Try.pinned (OpenSpec.ofChange fnDarkManyWrong)

/-- 'laws.FnBalanced': WHATEVER THE INPUT: true; the input reads as it did. -/
def fnBalancedSpec : ChangeSpec := { name := "fnBalanced", fn := fun _ => fun
  | [d] => { results := [.lit (.bool true)], args := [d] }
  | _ => none }
def fnBalancedRow : OpenClaim := { program := "ytlgmnceicnhhnaa", sum := "23c0696cd908ce4c745f4657be6d1015a52c9fdf84b43caf10a64a971e52629b", func := "loop.example/dominotilings/laws.FnBalanced", spec := "fnBalanced", apart := false }
def FnBalancedSaid : Prop := fnBalancedRow.holds Try.pinned (OpenSpec.ofChange fnBalancedSpec)

/-- ITS FALSE NEIGHBOUR: 'it returns false'. Refute it at one input. -/
def fnBalancedWrong : ChangeSpec := { name := "fnBalanced", fn := fun _ => fun
  | [d] => { results := [.lit (.bool false)], args := [d] }
  | _ => none }
def FnBalancedWrongFalsely : Prop := fnBalancedRow.holds Try.pinned (OpenSpec.ofChange fnBalancedWrong)

/-- 'laws.FnRegionFlip': WHATEVER THE INPUT: true; the input reads as it did. -/
def fnRegionFlipSpec : ChangeSpec := { name := "fnRegionFlip", fn := fun _ => fun
  | [d] => { results := [.lit (.bool true)], args := [d] }
  | _ => none }
def fnRegionFlipRow : OpenClaim := { program := "ytlgmnceicnhhnaa", sum := "23c0696cd908ce4c745f4657be6d1015a52c9fdf84b43caf10a64a971e52629b", func := "loop.example/dominotilings/laws.FnRegionFlip", spec := "fnRegionFlip", apart := false }
def FnRegionFlipSaid : Prop := fnRegionFlipRow.holds Try.pinned (OpenSpec.ofChange fnRegionFlipSpec)

/-- ITS FALSE NEIGHBOUR: 'it returns false'. Refute it at one input. -/
def fnRegionFlipWrong : ChangeSpec := { name := "fnRegionFlip", fn := fun _ => fun
  | [d] => { results := [.lit (.bool false)], args := [d] }
  | _ => none }
def FnRegionFlipWrongFalsely : Prop := fnRegionFlipRow.holds Try.pinned (OpenSpec.ofChange fnRegionFlipWrong)

/-- 'laws.FnRegionJoin': WHATEVER THE INPUT: true; the input reads as it did. -/
def fnRegionJoinSpec : ChangeSpec := { name := "fnRegionJoin", fn := fun _ => fun
  | [d] => { results := [.lit (.bool true)], args := [d] }
  | _ => none }
def fnRegionJoinRow : OpenClaim := { program := "ytlgmnceicnhhnaa", sum := "23c0696cd908ce4c745f4657be6d1015a52c9fdf84b43caf10a64a971e52629b", func := "loop.example/dominotilings/laws.FnRegionJoin", spec := "fnRegionJoin", apart := false }
def FnRegionJoinSaid : Prop := fnRegionJoinRow.holds Try.pinned (OpenSpec.ofChange fnRegionJoinSpec)

/-- ITS FALSE NEIGHBOUR: 'it returns false'. Refute it at one input. -/
def fnRegionJoinWrong : ChangeSpec := { name := "fnRegionJoin", fn := fun _ => fun
  | [d] => { results := [.lit (.bool false)], args := [d] }
  | _ => none }
def FnRegionJoinWrongFalsely : Prop := fnRegionJoinRow.holds Try.pinned (OpenSpec.ofChange fnRegionJoinWrong)

/-- 'laws.FnRegionMeet': WHATEVER THE INPUT: true; the input reads as it did. -/
def fnRegionMeetSpec : ChangeSpec := { name := "fnRegionMeet", fn := fun _ => fun
  | [d] => { results := [.lit (.bool true)], args := [d] }
  | _ => none }
def fnRegionMeetRow : OpenClaim := { program := "ytlgmnceicnhhnaa", sum := "23c0696cd908ce4c745f4657be6d1015a52c9fdf84b43caf10a64a971e52629b", func := "loop.example/dominotilings/laws.FnRegionMeet", spec := "fnRegionMeet", apart := false }
def FnRegionMeetSaid : Prop := fnRegionMeetRow.holds Try.pinned (OpenSpec.ofChange fnRegionMeetSpec)

/-- ITS FALSE NEIGHBOUR: 'it returns false'. Refute it at one input. -/
def fnRegionMeetWrong : ChangeSpec := { name := "fnRegionMeet", fn := fun _ => fun
  | [d] => { results := [.lit (.bool false)], args := [d] }
  | _ => none }
def FnRegionMeetWrongFalsely : Prop := fnRegionMeetRow.holds Try.pinned (OpenSpec.ofChange fnRegionMeetWrong)

/-- 'laws.FnStepTo': WHATEVER THE INPUT: true; the input reads as it did. -/
def fnStepToSpec : ChangeSpec := { name := "fnStepTo", fn := fun _ => fun
  | [d] => { results := [.lit (.bool true)], args := [d] }
  | _ => none }
def fnStepToRow : OpenClaim := { program := "ytlgmnceicnhhnaa", sum := "23c0696cd908ce4c745f4657be6d1015a52c9fdf84b43caf10a64a971e52629b", func := "loop.example/dominotilings/laws.FnStepTo", spec := "fnStepTo", apart := false }
def FnStepToSaid : Prop := fnStepToRow.holds Try.pinned (OpenSpec.ofChange fnStepToSpec)

/-- ITS FALSE NEIGHBOUR: 'it returns false'. Refute it at one input. -/
def fnStepToWrong : ChangeSpec := { name := "fnStepTo", fn := fun _ => fun
  | [d] => { results := [.lit (.bool false)], args := [d] }
  | _ => none }
def FnStepToWrongFalsely : Prop := fnStepToRow.holds Try.pinned (OpenSpec.ofChange fnStepToWrong)

/-- 'laws.FnLaidBare': WHATEVER THE INPUT: true; the input reads as it did. -/
def fnLaidBareSpec : ChangeSpec := { name := "fnLaidBare", fn := fun _ => fun
  | [d] => { results := [.lit (.bool true)], args := [d] }
  | _ => none }
def fnLaidBareRow : OpenClaim := { program := "ytlgmnceicnhhnaa", sum := "23c0696cd908ce4c745f4657be6d1015a52c9fdf84b43caf10a64a971e52629b", func := "loop.example/dominotilings/laws.FnLaidBare", spec := "fnLaidBare", apart := false }
def FnLaidBareSaid : Prop := fnLaidBareRow.holds Try.pinned (OpenSpec.ofChange fnLaidBareSpec)

/-- ITS FALSE NEIGHBOUR: 'it returns false'. Refute it at one input. -/
def fnLaidBareWrong : ChangeSpec := { name := "fnLaidBare", fn := fun _ => fun
  | [d] => { results := [.lit (.bool false)], args := [d] }
  | _ => none }
def FnLaidBareWrongFalsely : Prop := fnLaidBareRow.holds Try.pinned (OpenSpec.ofChange fnLaidBareWrong)

/-- 'laws.FnCellsMany': WHATEVER THE INPUT: true; the input reads as it did. -/
def fnCellsManySpec : ChangeSpec := { name := "fnCellsMany", fn := fun _ => fun
  | [d] => { results := [.lit (.bool true)], args := [d] }
  | _ => none }
def fnCellsManyRow : OpenClaim := { program := "ytlgmnceicnhhnaa", sum := "23c0696cd908ce4c745f4657be6d1015a52c9fdf84b43caf10a64a971e52629b", func := "loop.example/dominotilings/laws.FnCellsMany", spec := "fnCellsMany", apart := false }
def FnCellsManySaid : Prop := fnCellsManyRow.holds Try.pinned (OpenSpec.ofChange fnCellsManySpec)

/-- ITS FALSE NEIGHBOUR: 'it returns false'. Refute it at one input. -/
def fnCellsManyWrong : ChangeSpec := { name := "fnCellsMany", fn := fun _ => fun
  | [d] => { results := [.lit (.bool false)], args := [d] }
  | _ => none }
def FnCellsManyWrongFalsely : Prop := fnCellsManyRow.holds Try.pinned (OpenSpec.ofChange fnCellsManyWrong)

/-- 'laws.FnBorder': WHATEVER THE INPUT: true; the input reads as it did. -/
def fnBorderSpec : ChangeSpec := { name := "fnBorder", fn := fun _ => fun
  | [d] => { results := [.lit (.bool true)], args := [d] }
  | _ => none }
def fnBorderRow : OpenClaim := { program := "ytlgmnceicnhhnaa", sum := "23c0696cd908ce4c745f4657be6d1015a52c9fdf84b43caf10a64a971e52629b", func := "loop.example/dominotilings/laws.FnBorder", spec := "fnBorder", apart := false }
def FnBorderSaid : Prop := fnBorderRow.holds Try.pinned (OpenSpec.ofChange fnBorderSpec)

/-- ITS FALSE NEIGHBOUR: 'it returns false'. Refute it at one input. -/
def fnBorderWrong : ChangeSpec := { name := "fnBorder", fn := fun _ => fun
  | [d] => { results := [.lit (.bool false)], args := [d] }
  | _ => none }
def FnBorderWrongFalsely : Prop := fnBorderRow.holds Try.pinned (OpenSpec.ofChange fnBorderWrong)

/- THE SECOND FORM. 'bulk': how many values and letters a reading holds, each counted each time it is reached (what is shared counts as often as it is met; a slice's spare places count too). A statement '..UptoSaid' is the law's where the arguments, and the package variables that the reading takes, are together of bulk at most 1048576: NARROWER than '..Said'. Prove '..Said' where nothing that the law and all that it calls make is longer than what came in: it says more and counts as full. Else prove '..UptoSaid'. A law counts once. -/
mutual
def uptoBulk {H : Type} : DataW H → Nat
  | .lit (.string bytes) => bytes.length + 1
  | .lit _ => 1
  | .nil => 1
  | .ptr d => uptoBulk d + 1
  | .slice elems spare => uptoBulkAll elems + uptoBulkAll spare + 1
  | .agg parts => uptoBulkAll parts + 1
  | .iface _ d => uptoBulk d + 1
  | .map entries => uptoBulkEntries entries + 1
  | .held _ => 1
def uptoBulkAll {H : Type} : List (DataW H) → Nat
  | [] => 0
  | d :: r => uptoBulk d + uptoBulkAll r
def uptoBulkEntries {H : Type} : List (Lit × DataW H) → Nat
  | [] => 0
  | x :: r => uptoBulkEntry x + uptoBulkEntries r
def uptoBulkEntry {H : Type} : Lit × DataW H → Nat
  | (.string bytes, d) => bytes.length + uptoBulk d + 1
  | (_, d) => uptoBulk d + 1
 end
def uptoSmall : (H : Type) → List (DataW H) → Bool := fun _ ds => decide (uptoBulkAll ds ≤ 1048576)
def OpenSpec.upto (s : _root_.Go.ChangeSpec) : _root_.Go.OpenSpec := { _root_.Go.OpenSpec.ofChange s with cond := some uptoSmall }

/-- 'laws.FnRegionValid', WHERE WHAT IT READS IS OF BULK AT MOST 1048576: true; the input reads as it did. -/
def fnRegionValidUptoRow : OpenClaim := { program := "ytlgmnceicnhhnaa", sum := "23c0696cd908ce4c745f4657be6d1015a52c9fdf84b43caf10a64a971e52629b", func := "loop.example/dominotilings/laws.FnRegionValid", spec := "fnRegionValid", apart := false, narrowed := true }
def FnRegionValidUptoSaid : Prop := fnRegionValidUptoRow.holds Try.pinned (OpenSpec.upto fnRegionValidSpec)

/-- 'laws.FnRegionAt', WHERE WHAT IT READS IS OF BULK AT MOST 1048576: true; the input reads as it did. -/
def fnRegionAtUptoRow : OpenClaim := { program := "ytlgmnceicnhhnaa", sum := "23c0696cd908ce4c745f4657be6d1015a52c9fdf84b43caf10a64a971e52629b", func := "loop.example/dominotilings/laws.FnRegionAt", spec := "fnRegionAt", apart := false, narrowed := true }
def FnRegionAtUptoSaid : Prop := fnRegionAtUptoRow.holds Try.pinned (OpenSpec.upto fnRegionAtSpec)

/-- 'laws.FnRegionSet', WHERE WHAT IT READS IS OF BULK AT MOST 1048576: true; the input reads as it did. -/
def fnRegionSetUptoRow : OpenClaim := { program := "ytlgmnceicnhhnaa", sum := "23c0696cd908ce4c745f4657be6d1015a52c9fdf84b43caf10a64a971e52629b", func := "loop.example/dominotilings/laws.FnRegionSet", spec := "fnRegionSet", apart := false, narrowed := true }
def FnRegionSetUptoSaid : Prop := fnRegionSetUptoRow.holds Try.pinned (OpenSpec.upto fnRegionSetSpec)

/-- 'laws.FnDarkMany', WHERE WHAT IT READS IS OF BULK AT MOST 1048576: true; the input reads as it did. -/
def fnDarkManyUptoRow : OpenClaim := { program := "ytlgmnceicnhhnaa", sum := "23c0696cd908ce4c745f4657be6d1015a52c9fdf84b43caf10a64a971e52629b", func := "loop.example/dominotilings/laws.FnDarkMany", spec := "fnDarkMany", apart := false, narrowed := true }
def FnDarkManyUptoSaid : Prop := fnDarkManyUptoRow.holds Try.pinned (OpenSpec.upto fnDarkManySpec)

/-- 'laws.FnBalanced', WHERE WHAT IT READS IS OF BULK AT MOST 1048576: true; the input reads as it did. -/
def fnBalancedUptoRow : OpenClaim := { program := "ytlgmnceicnhhnaa", sum := "23c0696cd908ce4c745f4657be6d1015a52c9fdf84b43caf10a64a971e52629b", func := "loop.example/dominotilings/laws.FnBalanced", spec := "fnBalanced", apart := false, narrowed := true }
def FnBalancedUptoSaid : Prop := fnBalancedUptoRow.holds Try.pinned (OpenSpec.upto fnBalancedSpec)

/-- 'laws.FnRegionFlip', WHERE WHAT IT READS IS OF BULK AT MOST 1048576: true; the input reads as it did. -/
def fnRegionFlipUptoRow : OpenClaim := { program := "ytlgmnceicnhhnaa", sum := "23c0696cd908ce4c745f4657be6d1015a52c9fdf84b43caf10a64a971e52629b", func := "loop.example/dominotilings/laws.FnRegionFlip", spec := "fnRegionFlip", apart := false, narrowed := true }
def FnRegionFlipUptoSaid : Prop := fnRegionFlipUptoRow.holds Try.pinned (OpenSpec.upto fnRegionFlipSpec)

/-- 'laws.FnRegionJoin', WHERE WHAT IT READS IS OF BULK AT MOST 1048576: true; the input reads as it did. -/
def fnRegionJoinUptoRow : OpenClaim := { program := "ytlgmnceicnhhnaa", sum := "23c0696cd908ce4c745f4657be6d1015a52c9fdf84b43caf10a64a971e52629b", func := "loop.example/dominotilings/laws.FnRegionJoin", spec := "fnRegionJoin", apart := false, narrowed := true }
def FnRegionJoinUptoSaid : Prop := fnRegionJoinUptoRow.holds Try.pinned (OpenSpec.upto fnRegionJoinSpec)

/-- 'laws.FnRegionMeet', WHERE WHAT IT READS IS OF BULK AT MOST 1048576: true; the input reads as it did. -/
def fnRegionMeetUptoRow : OpenClaim := { program := "ytlgmnceicnhhnaa", sum := "23c0696cd908ce4c745f4657be6d1015a52c9fdf84b43caf10a64a971e52629b", func := "loop.example/dominotilings/laws.FnRegionMeet", spec := "fnRegionMeet", apart := false, narrowed := true }
def FnRegionMeetUptoSaid : Prop := fnRegionMeetUptoRow.holds Try.pinned (OpenSpec.upto fnRegionMeetSpec)

/-- 'laws.FnStepTo', WHERE WHAT IT READS IS OF BULK AT MOST 1048576: true; the input reads as it did. -/
def fnStepToUptoRow : OpenClaim := { program := "ytlgmnceicnhhnaa", sum := "23c0696cd908ce4c745f4657be6d1015a52c9fdf84b43caf10a64a971e52629b", func := "loop.example/dominotilings/laws.FnStepTo", spec := "fnStepTo", apart := false, narrowed := true }
def FnStepToUptoSaid : Prop := fnStepToUptoRow.holds Try.pinned (OpenSpec.upto fnStepToSpec)

/-- 'laws.FnLaidBare', WHERE WHAT IT READS IS OF BULK AT MOST 1048576: true; the input reads as it did. -/
def fnLaidBareUptoRow : OpenClaim := { program := "ytlgmnceicnhhnaa", sum := "23c0696cd908ce4c745f4657be6d1015a52c9fdf84b43caf10a64a971e52629b", func := "loop.example/dominotilings/laws.FnLaidBare", spec := "fnLaidBare", apart := false, narrowed := true }
def FnLaidBareUptoSaid : Prop := fnLaidBareUptoRow.holds Try.pinned (OpenSpec.upto fnLaidBareSpec)

/-- 'laws.FnCellsMany', WHERE WHAT IT READS IS OF BULK AT MOST 1048576: true; the input reads as it did. -/
def fnCellsManyUptoRow : OpenClaim := { program := "ytlgmnceicnhhnaa", sum := "23c0696cd908ce4c745f4657be6d1015a52c9fdf84b43caf10a64a971e52629b", func := "loop.example/dominotilings/laws.FnCellsMany", spec := "fnCellsMany", apart := false, narrowed := true }
def FnCellsManyUptoSaid : Prop := fnCellsManyUptoRow.holds Try.pinned (OpenSpec.upto fnCellsManySpec)

/-- 'laws.FnBorder', WHERE WHAT IT READS IS OF BULK AT MOST 1048576: true; the input reads as it did. -/
def fnBorderUptoRow : OpenClaim := { program := "ytlgmnceicnhhnaa", sum := "23c0696cd908ce4c745f4657be6d1015a52c9fdf84b43caf10a64a971e52629b", func := "loop.example/dominotilings/laws.FnBorder", spec := "fnBorder", apart := false, narrowed := true }
def FnBorderUptoSaid : Prop := fnBorderUptoRow.holds Try.pinned (OpenSpec.upto fnBorderSpec)

end Rows
end Go.Proofs.Ytlgmnceicnhhnaa
