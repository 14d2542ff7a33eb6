/-
  No cell of these rows narrows 'for every input' (looked for: loops, veiled, ifaces, maps, wideKeys, modest, calm, conditions, laid).
  DERIVED. THE GIVEN ROWS OF THIS SEAT. 12 by the template 'for every input the law returns true; each argument reads behind the call as it read before'; 0 by the template 'total and deterministic' (their statements: YtehhccfbeneahaaTotals.lean).
  GIVEN WITH THE SEED: the statements are not yours to turn. If you find one false, say at which input.
  Laid BY PROGRAM, IN A SANDBOX (cutbox-rows.mjs): the forced cells as the released guide's own fill.sh prints them over the translation f8b1235137a3b13d… (all of the seat's roots in one cut). By AI agents, Wed Nov 11 2026. No macro, syntax, notation, axiom, sorry.
-/
import Derived.Test.YtehhccfbeneahaaChecked
import GoSem.Claim
import GoSem.ClaimJoined
import GoSem.ClaimMapViews
import Derived.JoinedTies
import Derived.KernelRfl
namespace Go.Proofs.Ytehhccfbeneahaa
/- THE CELL 'sum', in the pinned program and in every row, IS THE sha256 OF THE DUMP (.gsa) THAT YtehhccfbeneahaaProg.lean LOADS. Nothing in Lean hashes anything: it is a label: what it is worth is what the hold of that sum in a sandbox is worth. -/
noncomputable def Try.pinned : Pinned := { name := "ytehhccfbeneahaa", sum := "f8b1235137a3b13d80fc6907314373a046ab063a006abdc9e13dc5ab59c2e317", checked := Try.checked }
namespace Rows
def none {H : Type} : Left H := { results := [], args := [] }

/-- 'laws.FnExactRegionValid': WHATEVER THE INPUT: true; the input reads as it did. -/
def fnExactRegionValidSpec : ChangeSpec := { name := "fnExactRegionValid", fn := fun _ => fun
  | [d] => { results := [.lit (.bool true)], args := [d] }
  | _ => none }
def fnExactRegionValidRow : OpenClaim := { program := "ytehhccfbeneahaa", sum := "f8b1235137a3b13d80fc6907314373a046ab063a006abdc9e13dc5ab59c2e317", func := "loop.example/dominotilings/laws.FnExactRegionValid", spec := "fnExactRegionValid", apart := false }
def FnExactRegionValidSaid : Prop := fnExactRegionValidRow.holds Try.pinned (OpenSpec.ofChange fnExactRegionValidSpec)

/-- ITS FALSE NEIGHBOUR: 'it returns false'. Refute it at one input. -/
def fnExactRegionValidWrong : ChangeSpec := { name := "fnExactRegionValid", fn := fun _ => fun
  | [d] => { results := [.lit (.bool false)], args := [d] }
  | _ => none }
def FnExactRegionValidWrongFalsely : Prop := fnExactRegionValidRow.holds Try.pinned (OpenSpec.ofChange fnExactRegionValidWrong)

/-- 'laws.FnExactRegionBox': WHATEVER THE INPUT: true; the input reads as it did. -/
def fnExactRegionBoxSpec : ChangeSpec := { name := "fnExactRegionBox", fn := fun _ => fun
  | [d1, d2] => { results := [.lit (.bool true)], args := [d1, d2] }
  | _ => none }
def fnExactRegionBoxRow : OpenClaim := { program := "ytehhccfbeneahaa", sum := "f8b1235137a3b13d80fc6907314373a046ab063a006abdc9e13dc5ab59c2e317", func := "loop.example/dominotilings/laws.FnExactRegionBox", spec := "fnExactRegionBox", apart := false }
def FnExactRegionBoxSaid : Prop := fnExactRegionBoxRow.holds Try.pinned (OpenSpec.ofChange fnExactRegionBoxSpec)

/-- ITS FALSE NEIGHBOUR: 'it returns false'. Refute it at one input. -/
def fnExactRegionBoxWrong : ChangeSpec := { name := "fnExactRegionBox", fn := fun _ => fun
  | [d1, d2] => { results := [.lit (.bool false)], args := [d1, d2] }
  | _ => none }
def FnExactRegionBoxWrongFalsely : Prop := fnExactRegionBoxRow.holds Try.pinned (OpenSpec.ofChange fnExactRegionBoxWrong)

/-- 'laws.FnExactRegionAt': WHATEVER THE INPUT: true; the input reads as it did. -/
def fnExactRegionAtSpec : ChangeSpec := { name := "fnExactRegionAt", fn := fun _ => fun
  | [d1, d2, d3] => { results := [.lit (.bool true)], args := [d1, d2, d3] }
  | _ => none }
def fnExactRegionAtRow : OpenClaim := { program := "ytehhccfbeneahaa", sum := "f8b1235137a3b13d80fc6907314373a046ab063a006abdc9e13dc5ab59c2e317", func := "loop.example/dominotilings/laws.FnExactRegionAt", spec := "fnExactRegionAt", apart := false }
def FnExactRegionAtSaid : Prop := fnExactRegionAtRow.holds Try.pinned (OpenSpec.ofChange fnExactRegionAtSpec)

/-- ITS FALSE NEIGHBOUR: 'it returns false'. Refute it at one input. -/
def fnExactRegionAtWrong : ChangeSpec := { name := "fnExactRegionAt", fn := fun _ => fun
  | [d1, d2, d3] => { results := [.lit (.bool false)], args := [d1, d2, d3] }
  | _ => none }
def FnExactRegionAtWrongFalsely : Prop := fnExactRegionAtRow.holds Try.pinned (OpenSpec.ofChange fnExactRegionAtWrong)

/-- 'laws.FnExactRegionSet': WHATEVER THE INPUT: true; the input reads as it did. -/
def fnExactRegionSetSpec : ChangeSpec := { name := "fnExactRegionSet", fn := fun _ => fun
  | [d1, d2, d3] => { results := [.lit (.bool true)], args := [d1, d2, d3] }
  | _ => none }
def fnExactRegionSetRow : OpenClaim := { program := "ytehhccfbeneahaa", sum := "f8b1235137a3b13d80fc6907314373a046ab063a006abdc9e13dc5ab59c2e317", func := "loop.example/dominotilings/laws.FnExactRegionSet", spec := "fnExactRegionSet", apart := false }
def FnExactRegionSetSaid : Prop := fnExactRegionSetRow.holds Try.pinned (OpenSpec.ofChange fnExactRegionSetSpec)

/-- ITS FALSE NEIGHBOUR: 'it returns false'. Refute it at one input. -/
def fnExactRegionSetWrong : ChangeSpec := { name := "fnExactRegionSet", fn := fun _ => fun
  | [d1, d2, d3] => { results := [.lit (.bool false)], args := [d1, d2, d3] }
  | _ => none }
def FnExactRegionSetWrongFalsely : Prop := fnExactRegionSetRow.holds Try.pinned (OpenSpec.ofChange fnExactRegionSetWrong)

/-- 'laws.FnExactCellsMany': WHATEVER THE INPUT: true; the input reads as it did. -/
def fnExactCellsManySpec : ChangeSpec := { name := "fnExactCellsMany", fn := fun _ => fun
  | [d] => { results := [.lit (.bool true)], args := [d] }
  | _ => none }
def fnExactCellsManyRow : OpenClaim := { program := "ytehhccfbeneahaa", sum := "f8b1235137a3b13d80fc6907314373a046ab063a006abdc9e13dc5ab59c2e317", func := "loop.example/dominotilings/laws.FnExactCellsMany", spec := "fnExactCellsMany", apart := false }
def FnExactCellsManySaid : Prop := fnExactCellsManyRow.holds Try.pinned (OpenSpec.ofChange fnExactCellsManySpec)

/-- ITS FALSE NEIGHBOUR: 'it returns false'. Refute it at one input. -/
def fnExactCellsManyWrong : ChangeSpec := { name := "fnExactCellsMany", fn := fun _ => fun
  | [d] => { results := [.lit (.bool false)], args := [d] }
  | _ => none }
def FnExactCellsManyWrongFalsely : Prop := fnExactCellsManyRow.holds Try.pinned (OpenSpec.ofChange fnExactCellsManyWrong)

/-- 'laws.FnExactDarkMany': WHATEVER THE INPUT: true; the input reads as it did. -/
def fnExactDarkManySpec : ChangeSpec := { name := "fnExactDarkMany", fn := fun _ => fun
  | [d] => { results := [.lit (.bool true)], args := [d] }
  | _ => none }
def fnExactDarkManyRow : OpenClaim := { program := "ytehhccfbeneahaa", sum := "f8b1235137a3b13d80fc6907314373a046ab063a006abdc9e13dc5ab59c2e317", func := "loop.example/dominotilings/laws.FnExactDarkMany", spec := "fnExactDarkMany", apart := false }
def FnExactDarkManySaid : Prop := fnExactDarkManyRow.holds Try.pinned (OpenSpec.ofChange fnExactDarkManySpec)

/-- ITS FALSE NEIGHBOUR: 'it returns false'. Refute it at one input. -/
def fnExactDarkManyWrong : ChangeSpec := { name := "fnExactDarkMany", fn := fun _ => fun
  | [d] => { results := [.lit (.bool false)], args := [d] }
  | _ => none }
def FnExactDarkManyWrongFalsely : Prop := fnExactDarkManyRow.holds Try.pinned (OpenSpec.ofChange fnExactDarkManyWrong)

/-- 'laws.FnExactBalanced': WHATEVER THE INPUT: true; the input reads as it did. -/
def fnExactBalancedSpec : ChangeSpec := { name := "fnExactBalanced", fn := fun _ => fun
  | [d] => { results := [.lit (.bool true)], args := [d] }
  | _ => none }
def fnExactBalancedRow : OpenClaim := { program := "ytehhccfbeneahaa", sum := "f8b1235137a3b13d80fc6907314373a046ab063a006abdc9e13dc5ab59c2e317", func := "loop.example/dominotilings/laws.FnExactBalanced", spec := "fnExactBalanced", apart := false }
def FnExactBalancedSaid : Prop := fnExactBalancedRow.holds Try.pinned (OpenSpec.ofChange fnExactBalancedSpec)

/-- ITS FALSE NEIGHBOUR: 'it returns false'. Refute it at one input. -/
def fnExactBalancedWrong : ChangeSpec := { name := "fnExactBalanced", fn := fun _ => fun
  | [d] => { results := [.lit (.bool false)], args := [d] }
  | _ => none }
def FnExactBalancedWrongFalsely : Prop := fnExactBalancedRow.holds Try.pinned (OpenSpec.ofChange fnExactBalancedWrong)

/-- 'laws.FnExactRegionTurn': WHATEVER THE INPUT: true; the input reads as it did. -/
def fnExactRegionTurnSpec : ChangeSpec := { name := "fnExactRegionTurn", fn := fun _ => fun
  | [d] => { results := [.lit (.bool true)], args := [d] }
  | _ => none }
def fnExactRegionTurnRow : OpenClaim := { program := "ytehhccfbeneahaa", sum := "f8b1235137a3b13d80fc6907314373a046ab063a006abdc9e13dc5ab59c2e317", func := "loop.example/dominotilings/laws.FnExactRegionTurn", spec := "fnExactRegionTurn", apart := false }
def FnExactRegionTurnSaid : Prop := fnExactRegionTurnRow.holds Try.pinned (OpenSpec.ofChange fnExactRegionTurnSpec)

/-- ITS FALSE NEIGHBOUR: 'it returns false'. Refute it at one input. -/
def fnExactRegionTurnWrong : ChangeSpec := { name := "fnExactRegionTurn", fn := fun _ => fun
  | [d] => { results := [.lit (.bool false)], args := [d] }
  | _ => none }
def FnExactRegionTurnWrongFalsely : Prop := fnExactRegionTurnRow.holds Try.pinned (OpenSpec.ofChange fnExactRegionTurnWrong)

/-- 'laws.FnExactRegionFlip': WHATEVER THE INPUT: true; the input reads as it did. -/
def fnExactRegionFlipSpec : ChangeSpec := { name := "fnExactRegionFlip", fn := fun _ => fun
  | [d] => { results := [.lit (.bool true)], args := [d] }
  | _ => none }
def fnExactRegionFlipRow : OpenClaim := { program := "ytehhccfbeneahaa", sum := "f8b1235137a3b13d80fc6907314373a046ab063a006abdc9e13dc5ab59c2e317", func := "loop.example/dominotilings/laws.FnExactRegionFlip", spec := "fnExactRegionFlip", apart := false }
def FnExactRegionFlipSaid : Prop := fnExactRegionFlipRow.holds Try.pinned (OpenSpec.ofChange fnExactRegionFlipSpec)

/-- ITS FALSE NEIGHBOUR: 'it returns false'. Refute it at one input. -/
def fnExactRegionFlipWrong : ChangeSpec := { name := "fnExactRegionFlip", fn := fun _ => fun
  | [d] => { results := [.lit (.bool false)], args := [d] }
  | _ => none }
def FnExactRegionFlipWrongFalsely : Prop := fnExactRegionFlipRow.holds Try.pinned (OpenSpec.ofChange fnExactRegionFlipWrong)

/-- 'laws.FnExactRegionJoin': WHATEVER THE INPUT: true; the input reads as it did. -/
def fnExactRegionJoinSpec : ChangeSpec := { name := "fnExactRegionJoin", fn := fun _ => fun
  | [d1, d2] => { results := [.lit (.bool true)], args := [d1, d2] }
  | _ => none }
def fnExactRegionJoinRow : OpenClaim := { program := "ytehhccfbeneahaa", sum := "f8b1235137a3b13d80fc6907314373a046ab063a006abdc9e13dc5ab59c2e317", func := "loop.example/dominotilings/laws.FnExactRegionJoin", spec := "fnExactRegionJoin", apart := false }
def FnExactRegionJoinSaid : Prop := fnExactRegionJoinRow.holds Try.pinned (OpenSpec.ofChange fnExactRegionJoinSpec)

/-- ITS FALSE NEIGHBOUR: 'it returns false'. Refute it at one input. -/
def fnExactRegionJoinWrong : ChangeSpec := { name := "fnExactRegionJoin", fn := fun _ => fun
  | [d1, d2] => { results := [.lit (.bool false)], args := [d1, d2] }
  | _ => none }
def FnExactRegionJoinWrongFalsely : Prop := fnExactRegionJoinRow.holds Try.pinned (OpenSpec.ofChange fnExactRegionJoinWrong)

/-- 'laws.FnExactRegionMeet': WHATEVER THE INPUT: true; the input reads as it did. -/
def fnExactRegionMeetSpec : ChangeSpec := { name := "fnExactRegionMeet", fn := fun _ => fun
  | [d1, d2] => { results := [.lit (.bool true)], args := [d1, d2] }
  | _ => none }
def fnExactRegionMeetRow : OpenClaim := { program := "ytehhccfbeneahaa", sum := "f8b1235137a3b13d80fc6907314373a046ab063a006abdc9e13dc5ab59c2e317", func := "loop.example/dominotilings/laws.FnExactRegionMeet", spec := "fnExactRegionMeet", apart := false }
def FnExactRegionMeetSaid : Prop := fnExactRegionMeetRow.holds Try.pinned (OpenSpec.ofChange fnExactRegionMeetSpec)

/-- ITS FALSE NEIGHBOUR: 'it returns false'. Refute it at one input. -/
def fnExactRegionMeetWrong : ChangeSpec := { name := "fnExactRegionMeet", fn := fun _ => fun
  | [d1, d2] => { results := [.lit (.bool false)], args := [d1, d2] }
  | _ => none }
def FnExactRegionMeetWrongFalsely : Prop := fnExactRegionMeetRow.holds Try.pinned (OpenSpec.ofChange fnExactRegionMeetWrong)

/-- 'laws.FnExactBorder': WHATEVER THE INPUT: true; the input reads as it did. -/
def fnExactBorderSpec : ChangeSpec := { name := "fnExactBorder", fn := fun _ => fun
  | [d] => { results := [.lit (.bool true)], args := [d] }
  | _ => none }
def fnExactBorderRow : OpenClaim := { program := "ytehhccfbeneahaa", sum := "f8b1235137a3b13d80fc6907314373a046ab063a006abdc9e13dc5ab59c2e317", func := "loop.example/dominotilings/laws.FnExactBorder", spec := "fnExactBorder", apart := false }
def FnExactBorderSaid : Prop := fnExactBorderRow.holds Try.pinned (OpenSpec.ofChange fnExactBorderSpec)

/-- ITS FALSE NEIGHBOUR: 'it returns false'. Refute it at one input. -/
def fnExactBorderWrong : ChangeSpec := { name := "fnExactBorder", fn := fun _ => fun
  | [d] => { results := [.lit (.bool false)], args := [d] }
  | _ => none }
def FnExactBorderWrongFalsely : Prop := fnExactBorderRow.holds Try.pinned (OpenSpec.ofChange fnExactBorderWrong)

/- THE SECOND FORM. 'bulk': how many values and letters a reading holds, each counted each time it is reached (what is shared counts as often as it is met; a slice's spare places count too). A statement '..UptoSaid' is the law's where the arguments, and the package variables that the reading takes, are together of bulk at most 1048576: NARROWER than '..Said'. Prove '..Said' where nothing that the law and all that it calls make is longer than what came in: it says more and counts as full. Else prove '..UptoSaid'. A law counts once. -/
mutual
def uptoBulk {H : Type} : DataW H → Nat
  | .lit (.string bytes) => bytes.length + 1
  | .lit _ => 1
  | .nil => 1
  | .ptr d => uptoBulk d + 1
  | .slice elems spare => uptoBulkAll elems + uptoBulkAll spare + 1
  | .agg parts => uptoBulkAll parts + 1
  | .iface _ d => uptoBulk d + 1
  | .map entries => uptoBulkEntries entries + 1
  | .held _ => 1
def uptoBulkAll {H : Type} : List (DataW H) → Nat
  | [] => 0
  | d :: r => uptoBulk d + uptoBulkAll r
def uptoBulkEntries {H : Type} : List (Lit × DataW H) → Nat
  | [] => 0
  | x :: r => uptoBulkEntry x + uptoBulkEntries r
def uptoBulkEntry {H : Type} : Lit × DataW H → Nat
  | (.string bytes, d) => bytes.length + uptoBulk d + 1
  | (_, d) => uptoBulk d + 1
 end
def uptoSmall : (H : Type) → List (DataW H) → Bool := fun _ ds => decide (uptoBulkAll ds ≤ 1048576)
def OpenSpec.upto (s : _root_.Go.ChangeSpec) : _root_.Go.OpenSpec := { _root_.Go.OpenSpec.ofChange s with cond := some uptoSmall }

/-- 'laws.FnExactRegionValid', WHERE WHAT IT READS IS OF BULK AT MOST 1048576: true; the input reads as it did. -/
def fnExactRegionValidUptoRow : OpenClaim := { program := "ytehhccfbeneahaa", sum := "f8b1235137a3b13d80fc6907314373a046ab063a006abdc9e13dc5ab59c2e317", func := "loop.example/dominotilings/laws.FnExactRegionValid", spec := "fnExactRegionValid", apart := false, narrowed := true }
def FnExactRegionValidUptoSaid : Prop := fnExactRegionValidUptoRow.holds Try.pinned (OpenSpec.upto fnExactRegionValidSpec)

/-- 'laws.FnExactRegionBox', WHERE WHAT IT READS IS OF BULK AT MOST 1048576: true; the input reads as it did. -/
def fnExactRegionBoxUptoRow : OpenClaim := { program := "ytehhccfbeneahaa", sum := "f8b1235137a3b13d80fc6907314373a046ab063a006abdc9e13dc5ab59c2e317", func := "loop.example/dominotilings/laws.FnExactRegionBox", spec := "fnExactRegionBox", apart := false, narrowed := true }
def FnExactRegionBoxUptoSaid : Prop := fnExactRegionBoxUptoRow.holds Try.pinned (OpenSpec.upto fnExactRegionBoxSpec)

/-- 'laws.FnExactRegionAt', WHERE WHAT IT READS IS OF BULK AT MOST 1048576: true; the input reads as it did. -/
def fnExactRegionAtUptoRow : OpenClaim := { program := "ytehhccfbeneahaa", sum := "f8b1235137a3b13d80fc6907314373a046ab063a006abdc9e13dc5ab59c2e317", func := "loop.example/dominotilings/laws.FnExactRegionAt", spec := "fnExactRegionAt", apart := false, narrowed := true }
def FnExactRegionAtUptoSaid : Prop := fnExactRegionAtUptoRow.holds Try.pinned (OpenSpec.upto fnExactRegionAtSpec)

/-- 'laws.FnExactRegionSet', WHERE WHAT IT READS IS OF BULK AT MOST 1048576: true; the input reads as it did. -/
def fnExactRegionSetUptoRow : OpenClaim := { program := "ytehhccfbeneahaa", sum := "f8b1235137a3b13d80fc6907314373a046ab063a006abdc9e13dc5ab59c2e317", func := "loop.example/dominotilings/laws.FnExactRegionSet", spec := "fnExactRegionSet", apart := false, narrowed := true }
def FnExactRegionSetUptoSaid : Prop := fnExactRegionSetUptoRow.holds Try.pinned (OpenSpec.upto fnExactRegionSetSpec)

/-- 'laws.FnExactCellsMany', WHERE WHAT IT READS IS OF BULK AT MOST 1048576: true; the input reads as it did. -/
def fnExactCellsManyUptoRow : OpenClaim := { program := "ytehhccfbeneahaa", sum := "f8b1235137a3b13d80fc6907314373a046ab063a006abdc9e13dc5ab59c2e317", func := "loop.example/dominotilings/laws.FnExactCellsMany", spec := "fnExactCellsMany", apart := false, narrowed := true }
def FnExactCellsManyUptoSaid : Prop := fnExactCellsManyUptoRow.holds Try.pinned (OpenSpec.upto fnExactCellsManySpec)

/-- 'laws.FnExactDarkMany', WHERE WHAT IT READS IS OF BULK AT MOST 1048576: true; the input reads as it did. -/
def fnExactDarkManyUptoRow : OpenClaim := { program := "ytehhccfbeneahaa", sum := "f8b1235137a3b13d80fc6907314373a046ab063a006abdc9e13dc5ab59c2e317", func := "loop.example/dominotilings/laws.FnExactDarkMany", spec := "fnExactDarkMany", apart := false, narrowed := true }
def FnExactDarkManyUptoSaid : Prop := fnExactDarkManyUptoRow.holds Try.pinned (OpenSpec.upto fnExactDarkManySpec)

/-- 'laws.FnExactBalanced', WHERE WHAT IT READS IS OF BULK AT MOST 1048576: true; the input reads as it did. -/
def fnExactBalancedUptoRow : OpenClaim := { program := "ytehhccfbeneahaa", sum := "f8b1235137a3b13d80fc6907314373a046ab063a006abdc9e13dc5ab59c2e317", func := "loop.example/dominotilings/laws.FnExactBalanced", spec := "fnExactBalanced", apart := false, narrowed := true }
def FnExactBalancedUptoSaid : Prop := fnExactBalancedUptoRow.holds Try.pinned (OpenSpec.upto fnExactBalancedSpec)

/-- 'laws.FnExactRegionTurn', WHERE WHAT IT READS IS OF BULK AT MOST 1048576: true; the input reads as it did. -/
def fnExactRegionTurnUptoRow : OpenClaim := { program := "ytehhccfbeneahaa", sum := "f8b1235137a3b13d80fc6907314373a046ab063a006abdc9e13dc5ab59c2e317", func := "loop.example/dominotilings/laws.FnExactRegionTurn", spec := "fnExactRegionTurn", apart := false, narrowed := true }
def FnExactRegionTurnUptoSaid : Prop := fnExactRegionTurnUptoRow.holds Try.pinned (OpenSpec.upto fnExactRegionTurnSpec)

/-- 'laws.FnExactRegionFlip', WHERE WHAT IT READS IS OF BULK AT MOST 1048576: true; the input reads as it did. -/
def fnExactRegionFlipUptoRow : OpenClaim := { program := "ytehhccfbeneahaa", sum := "f8b1235137a3b13d80fc6907314373a046ab063a006abdc9e13dc5ab59c2e317", func := "loop.example/dominotilings/laws.FnExactRegionFlip", spec := "fnExactRegionFlip", apart := false, narrowed := true }
def FnExactRegionFlipUptoSaid : Prop := fnExactRegionFlipUptoRow.holds Try.pinned (OpenSpec.upto fnExactRegionFlipSpec)

/-- 'laws.FnExactRegionJoin', WHERE WHAT IT READS IS OF BULK AT MOST 1048576: true; the input reads as it did. -/
def fnExactRegionJoinUptoRow : OpenClaim := { program := "ytehhccfbeneahaa", sum := "f8b1235137a3b13d80fc6907314373a046ab063a006abdc9e13dc5ab59c2e317", func := "loop.example/dominotilings/laws.FnExactRegionJoin", spec := "fnExactRegionJoin", apart := false, narrowed := true }
def FnExactRegionJoinUptoSaid : Prop := fnExactRegionJoinUptoRow.holds Try.pinned (OpenSpec.upto fnExactRegionJoinSpec)

/-- 'laws.FnExactRegionMeet', WHERE WHAT IT READS IS OF BULK AT MOST 1048576: true; the input reads as it did. -/
def fnExactRegionMeetUptoRow : OpenClaim := { program := "ytehhccfbeneahaa", sum := "f8b1235137a3b13d80fc6907314373a046ab063a006abdc9e13dc5ab59c2e317", func := "loop.example/dominotilings/laws.FnExactRegionMeet", spec := "fnExactRegionMeet", apart := false, narrowed := true }
def FnExactRegionMeetUptoSaid : Prop := fnExactRegionMeetUptoRow.holds Try.pinned (OpenSpec.upto fnExactRegionMeetSpec)

/-- 'laws.FnExactBorder', WHERE WHAT IT READS IS OF BULK AT MOST 1048576: true; the input reads as it did. -/
def fnExactBorderUptoRow : OpenClaim := { program := "ytehhccfbeneahaa", sum := "f8b1235137a3b13d80fc6907314373a046ab063a006abdc9e13dc5ab59c2e317", func := "loop.example/dominotilings/laws.FnExactBorder", spec := "fnExactBorder", apart := false, narrowed := true }
def FnExactBorderUptoSaid : Prop := fnExactBorderUptoRow.holds Try.pinned (OpenSpec.upto fnExactBorderSpec)

end Rows
end Go.Proofs.Ytehhccfbeneahaa
