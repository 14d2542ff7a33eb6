/-
  No cell of these rows narrows 'for every input' (looked for: loops, veiled, ifaces, maps, wideKeys, modest, calm, conditions, laid).
  DERIVED. THE GIVEN ROWS OF THIS SEAT. 10 by the template 'for every input the law returns true; each argument reads behind the call as it read before'; 0 by the template 'total and deterministic' (their statements: YthjocjiiihebbaaTotals.lean).
  GIVEN WITH THE SEED: the statements are not yours to turn. If you find one false, say at which input.
  Laid BY PROGRAM, IN A SANDBOX (cutbox-rows.mjs): the forced cells as the released guide's own fill.sh prints them over the translation 94e4bcc3039c1fd7… (all of the seat's roots in one cut). By AI agents, Wed Nov 11 2026. No macro, syntax, notation, axiom, sorry.
-/
import Derived.Test.YthjocjiiihebbaaChecked
import GoSem.Claim
import GoSem.ClaimJoined
import GoSem.ClaimMapViews
import Derived.JoinedTies
import Derived.KernelRfl
namespace Go.Proofs.Ythjocjiiihebbaa
/- THE CELL 'sum', in the pinned program and in every row, IS THE sha256 OF THE DUMP (.gsa) THAT YthjocjiiihebbaaProg.lean LOADS. Nothing in Lean hashes anything: it is a label: what it is worth is what the hold of that sum in a sandbox is worth. -/
noncomputable def Try.pinned : Pinned := { name := "ythjocjiiihebbaa", sum := "94e4bcc3039c1fd74d34e395503f501130e59eb7c71b08d0ff5bf7f80c8e5fdd", checked := Try.checked }
namespace Rows
def none {H : Type} : Left H := { results := [], args := [] }

/-- 'laws.FnExactPairOf': WHATEVER THE INPUT: true; the input reads as it did. -/
def fnExactPairOfSpec : ChangeSpec := { name := "fnExactPairOf", fn := fun _ => fun
  | [d1, d2] => { results := [.lit (.bool true)], args := [d1, d2] }
  | _ => none }
def fnExactPairOfRow : OpenClaim := { program := "ythjocjiiihebbaa", sum := "94e4bcc3039c1fd74d34e395503f501130e59eb7c71b08d0ff5bf7f80c8e5fdd", func := "loop.example/dominotilings/laws.FnExactPairOf", spec := "fnExactPairOf", apart := false }
def FnExactPairOfSaid : Prop := fnExactPairOfRow.holds Try.pinned (OpenSpec.ofChange fnExactPairOfSpec)

/-- ITS FALSE NEIGHBOUR: 'it returns false'. Refute it at one input. -/
def fnExactPairOfWrong : ChangeSpec := { name := "fnExactPairOf", fn := fun _ => fun
  | [d1, d2] => { results := [.lit (.bool false)], args := [d1, d2] }
  | _ => none }
def FnExactPairOfWrongFalsely : Prop := fnExactPairOfRow.holds Try.pinned (OpenSpec.ofChange fnExactPairOfWrong)

/-- 'laws.FnPairOf': WHATEVER THE INPUT: true; the input reads as it did. -/
def fnPairOfSpec : ChangeSpec := { name := "fnPairOf", fn := fun _ => fun
  | [d] => { results := [.lit (.bool true)], args := [d] }
  | _ => none }
def fnPairOfRow : OpenClaim := { program := "ythjocjiiihebbaa", sum := "94e4bcc3039c1fd74d34e395503f501130e59eb7c71b08d0ff5bf7f80c8e5fdd", func := "loop.example/dominotilings/laws.FnPairOf", spec := "fnPairOf", apart := false }
def FnPairOfSaid : Prop := fnPairOfRow.holds Try.pinned (OpenSpec.ofChange fnPairOfSpec)

/-- ITS FALSE NEIGHBOUR: 'it returns false'. Refute it at one input. -/
def fnPairOfWrong : ChangeSpec := { name := "fnPairOf", fn := fun _ => fun
  | [d] => { results := [.lit (.bool false)], args := [d] }
  | _ => none }
def FnPairOfWrongFalsely : Prop := fnPairOfRow.holds Try.pinned (OpenSpec.ofChange fnPairOfWrong)

/-- 'laws.FnExactPuzzleValid': WHATEVER THE INPUT: true; the input reads as it did. -/
def fnExactPuzzleValidSpec : ChangeSpec := { name := "fnExactPuzzleValid", fn := fun _ => fun
  | [d1, d2] => { results := [.lit (.bool true)], args := [d1, d2] }
  | _ => none }
def fnExactPuzzleValidRow : OpenClaim := { program := "ythjocjiiihebbaa", sum := "94e4bcc3039c1fd74d34e395503f501130e59eb7c71b08d0ff5bf7f80c8e5fdd", func := "loop.example/dominotilings/laws.FnExactPuzzleValid", spec := "fnExactPuzzleValid", apart := false }
def FnExactPuzzleValidSaid : Prop := fnExactPuzzleValidRow.holds Try.pinned (OpenSpec.ofChange fnExactPuzzleValidSpec)

/-- ITS FALSE NEIGHBOUR: 'it returns false'. Refute it at one input. -/
def fnExactPuzzleValidWrong : ChangeSpec := { name := "fnExactPuzzleValid", fn := fun _ => fun
  | [d1, d2] => { results := [.lit (.bool false)], args := [d1, d2] }
  | _ => none }
def FnExactPuzzleValidWrongFalsely : Prop := fnExactPuzzleValidRow.holds Try.pinned (OpenSpec.ofChange fnExactPuzzleValidWrong)

/-- 'laws.FnExactPairsOf': WHATEVER THE INPUT: true; the input reads as it did. -/
def fnExactPairsOfSpec : ChangeSpec := { name := "fnExactPairsOf", fn := fun _ => fun
  | [d1, d2, d3] => { results := [.lit (.bool true)], args := [d1, d2, d3] }
  | _ => none }
def fnExactPairsOfRow : OpenClaim := { program := "ythjocjiiihebbaa", sum := "94e4bcc3039c1fd74d34e395503f501130e59eb7c71b08d0ff5bf7f80c8e5fdd", func := "loop.example/dominotilings/laws.FnExactPairsOf", spec := "fnExactPairsOf", apart := false }
def FnExactPairsOfSaid : Prop := fnExactPairsOfRow.holds Try.pinned (OpenSpec.ofChange fnExactPairsOfSpec)

/-- ITS FALSE NEIGHBOUR: 'it returns false'. Refute it at one input. -/
def fnExactPairsOfWrong : ChangeSpec := { name := "fnExactPairsOf", fn := fun _ => fun
  | [d1, d2, d3] => { results := [.lit (.bool false)], args := [d1, d2, d3] }
  | _ => none }
def FnExactPairsOfWrongFalsely : Prop := fnExactPairsOfRow.holds Try.pinned (OpenSpec.ofChange fnExactPairsOfWrong)

/-- 'laws.FnExactFairOk': WHATEVER THE INPUT: true; the input reads as it did. -/
def fnExactFairOkSpec : ChangeSpec := { name := "fnExactFairOk", fn := fun _ => fun
  | [d1, d2, d3] => { results := [.lit (.bool true)], args := [d1, d2, d3] }
  | _ => none }
def fnExactFairOkRow : OpenClaim := { program := "ythjocjiiihebbaa", sum := "94e4bcc3039c1fd74d34e395503f501130e59eb7c71b08d0ff5bf7f80c8e5fdd", func := "loop.example/dominotilings/laws.FnExactFairOk", spec := "fnExactFairOk", recurses := true, apart := false }
def FnExactFairOkSaid : Prop := fnExactFairOkRow.holds Try.pinned (OpenSpec.ofChange fnExactFairOkSpec)

/-- ITS FALSE NEIGHBOUR: 'it returns false'. Refute it at one input. -/
def fnExactFairOkWrong : ChangeSpec := { name := "fnExactFairOk", fn := fun _ => fun
  | [d1, d2, d3] => { results := [.lit (.bool false)], args := [d1, d2, d3] }
  | _ => none }
def FnExactFairOkWrongFalsely : Prop := fnExactFairOkRow.holds Try.pinned (OpenSpec.ofChange fnExactFairOkWrong)

/-- 'laws.FnExactSolvedOk': WHATEVER THE INPUT: true; the input reads as it did. -/
def fnExactSolvedOkSpec : ChangeSpec := { name := "fnExactSolvedOk", fn := fun _ => fun
  | [d1, d2, d3] => { results := [.lit (.bool true)], args := [d1, d2, d3] }
  | _ => none }
def fnExactSolvedOkRow : OpenClaim := { program := "ythjocjiiihebbaa", sum := "94e4bcc3039c1fd74d34e395503f501130e59eb7c71b08d0ff5bf7f80c8e5fdd", func := "loop.example/dominotilings/laws.FnExactSolvedOk", spec := "fnExactSolvedOk", recurses := true, apart := false }
def FnExactSolvedOkSaid : Prop := fnExactSolvedOkRow.holds Try.pinned (OpenSpec.ofChange fnExactSolvedOkSpec)

/-- ITS FALSE NEIGHBOUR: 'it returns false'. Refute it at one input. -/
def fnExactSolvedOkWrong : ChangeSpec := { name := "fnExactSolvedOk", fn := fun _ => fun
  | [d1, d2, d3] => { results := [.lit (.bool false)], args := [d1, d2, d3] }
  | _ => none }
def FnExactSolvedOkWrongFalsely : Prop := fnExactSolvedOkRow.holds Try.pinned (OpenSpec.ofChange fnExactSolvedOkWrong)

/-- 'laws.FnExactMakePuzzle': WHATEVER THE INPUT: true; the input reads as it did. -/
def fnExactMakePuzzleSpec : ChangeSpec := { name := "fnExactMakePuzzle", fn := fun _ => fun
  | [d1, d2, d3] => { results := [.lit (.bool true)], args := [d1, d2, d3] }
  | _ => none }
def fnExactMakePuzzleRow : OpenClaim := { program := "ythjocjiiihebbaa", sum := "94e4bcc3039c1fd74d34e395503f501130e59eb7c71b08d0ff5bf7f80c8e5fdd", func := "loop.example/dominotilings/laws.FnExactMakePuzzle", spec := "fnExactMakePuzzle", apart := false }
def FnExactMakePuzzleSaid : Prop := fnExactMakePuzzleRow.holds Try.pinned (OpenSpec.ofChange fnExactMakePuzzleSpec)

/-- ITS FALSE NEIGHBOUR: 'it returns false'. Refute it at one input. -/
def fnExactMakePuzzleWrong : ChangeSpec := { name := "fnExactMakePuzzle", fn := fun _ => fun
  | [d1, d2, d3] => { results := [.lit (.bool false)], args := [d1, d2, d3] }
  | _ => none }
def FnExactMakePuzzleWrongFalsely : Prop := fnExactMakePuzzleRow.holds Try.pinned (OpenSpec.ofChange fnExactMakePuzzleWrong)

/-- 'laws.FnMakePuzzle': WHATEVER THE INPUT: true; the input reads as it did. -/
def fnMakePuzzleSpec : ChangeSpec := { name := "fnMakePuzzle", fn := fun _ => fun
  | [d] => { results := [.lit (.bool true)], args := [d] }
  | _ => none }
def fnMakePuzzleRow : OpenClaim := { program := "ythjocjiiihebbaa", sum := "94e4bcc3039c1fd74d34e395503f501130e59eb7c71b08d0ff5bf7f80c8e5fdd", func := "loop.example/dominotilings/laws.FnMakePuzzle", spec := "fnMakePuzzle", recurses := true, apart := false }
def FnMakePuzzleSaid : Prop := fnMakePuzzleRow.holds Try.pinned (OpenSpec.ofChange fnMakePuzzleSpec)

/-- ITS FALSE NEIGHBOUR: 'it returns false'. Refute it at one input. -/
def fnMakePuzzleWrong : ChangeSpec := { name := "fnMakePuzzle", fn := fun _ => fun
  | [d] => { results := [.lit (.bool false)], args := [d] }
  | _ => none }
def FnMakePuzzleWrongFalsely : Prop := fnMakePuzzleRow.holds Try.pinned (OpenSpec.ofChange fnMakePuzzleWrong)

/-- 'laws.FnExactRelabel': WHATEVER THE INPUT: true; the input reads as it did. -/
def fnExactRelabelSpec : ChangeSpec := { name := "fnExactRelabel", fn := fun _ => fun
  | [d1, d2, d3] => { results := [.lit (.bool true)], args := [d1, d2, d3] }
  | _ => none }
def fnExactRelabelRow : OpenClaim := { program := "ythjocjiiihebbaa", sum := "94e4bcc3039c1fd74d34e395503f501130e59eb7c71b08d0ff5bf7f80c8e5fdd", func := "loop.example/dominotilings/laws.FnExactRelabel", spec := "fnExactRelabel", apart := false }
def FnExactRelabelSaid : Prop := fnExactRelabelRow.holds Try.pinned (OpenSpec.ofChange fnExactRelabelSpec)

/-- ITS FALSE NEIGHBOUR: 'it returns false'. Refute it at one input. -/
def fnExactRelabelWrong : ChangeSpec := { name := "fnExactRelabel", fn := fun _ => fun
  | [d1, d2, d3] => { results := [.lit (.bool false)], args := [d1, d2, d3] }
  | _ => none }
def FnExactRelabelWrongFalsely : Prop := fnExactRelabelRow.holds Try.pinned (OpenSpec.ofChange fnExactRelabelWrong)

/-- 'laws.FnExactCornerFill': WHATEVER THE INPUT: true; the input reads as it did. -/
def fnExactCornerFillSpec : ChangeSpec := { name := "fnExactCornerFill", fn := fun _ => fun
  | [d1, d2] => { results := [.lit (.bool true)], args := [d1, d2] }
  | _ => none }
def fnExactCornerFillRow : OpenClaim := { program := "ythjocjiiihebbaa", sum := "94e4bcc3039c1fd74d34e395503f501130e59eb7c71b08d0ff5bf7f80c8e5fdd", func := "loop.example/dominotilings/laws.FnExactCornerFill", spec := "fnExactCornerFill", recurses := true, apart := false }
def FnExactCornerFillSaid : Prop := fnExactCornerFillRow.holds Try.pinned (OpenSpec.ofChange fnExactCornerFillSpec)

/-- ITS FALSE NEIGHBOUR: 'it returns false'. Refute it at one input. -/
def fnExactCornerFillWrong : ChangeSpec := { name := "fnExactCornerFill", fn := fun _ => fun
  | [d1, d2] => { results := [.lit (.bool false)], args := [d1, d2] }
  | _ => none }
def FnExactCornerFillWrongFalsely : Prop := fnExactCornerFillRow.holds Try.pinned (OpenSpec.ofChange fnExactCornerFillWrong)

/- THE SECOND FORM. 'bulk': how many values and letters a reading holds, each counted each time it is reached (what is shared counts as often as it is met; a slice's spare places count too). A statement '..UptoSaid' is the law's where the arguments, and the package variables that the reading takes, are together of bulk at most 1048576: NARROWER than '..Said'. Prove '..Said' where nothing that the law and all that it calls make is longer than what came in: it says more and counts as full. Else prove '..UptoSaid'. A law counts once. -/
mutual
def uptoBulk {H : Type} : DataW H → Nat
  | .lit (.string bytes) => bytes.length + 1
  | .lit _ => 1
  | .nil => 1
  | .ptr d => uptoBulk d + 1
  | .slice elems spare => uptoBulkAll elems + uptoBulkAll spare + 1
  | .agg parts => uptoBulkAll parts + 1
  | .iface _ d => uptoBulk d + 1
  | .map entries => uptoBulkEntries entries + 1
  | .held _ => 1
def uptoBulkAll {H : Type} : List (DataW H) → Nat
  | [] => 0
  | d :: r => uptoBulk d + uptoBulkAll r
def uptoBulkEntries {H : Type} : List (Lit × DataW H) → Nat
  | [] => 0
  | x :: r => uptoBulkEntry x + uptoBulkEntries r
def uptoBulkEntry {H : Type} : Lit × DataW H → Nat
  | (.string bytes, d) => bytes.length + uptoBulk d + 1
  | (_, d) => uptoBulk d + 1
 end
def uptoSmall : (H : Type) → List (DataW H) → Bool := fun _ ds => decide (uptoBulkAll ds ≤ 1048576)
def OpenSpec.upto (s : _root_.Go.ChangeSpec) : _root_.Go.OpenSpec := { _root_.Go.OpenSpec.ofChange s with cond := some uptoSmall }

/-- 'laws.FnExactPairOf', WHERE WHAT IT READS IS OF BULK AT MOST 1048576: true; the input reads as it did. -/
def fnExactPairOfUptoRow : OpenClaim := { program := "ythjocjiiihebbaa", sum := "94e4bcc3039c1fd74d34e395503f501130e59eb7c71b08d0ff5bf7f80c8e5fdd", func := "loop.example/dominotilings/laws.FnExactPairOf", spec := "fnExactPairOf", apart := false, narrowed := true }
def FnExactPairOfUptoSaid : Prop := fnExactPairOfUptoRow.holds Try.pinned (OpenSpec.upto fnExactPairOfSpec)

/-- 'laws.FnPairOf', WHERE WHAT IT READS IS OF BULK AT MOST 1048576: true; the input reads as it did. -/
def fnPairOfUptoRow : OpenClaim := { program := "ythjocjiiihebbaa", sum := "94e4bcc3039c1fd74d34e395503f501130e59eb7c71b08d0ff5bf7f80c8e5fdd", func := "loop.example/dominotilings/laws.FnPairOf", spec := "fnPairOf", apart := false, narrowed := true }
def FnPairOfUptoSaid : Prop := fnPairOfUptoRow.holds Try.pinned (OpenSpec.upto fnPairOfSpec)

/-- 'laws.FnExactPuzzleValid', WHERE WHAT IT READS IS OF BULK AT MOST 1048576: true; the input reads as it did. -/
def fnExactPuzzleValidUptoRow : OpenClaim := { program := "ythjocjiiihebbaa", sum := "94e4bcc3039c1fd74d34e395503f501130e59eb7c71b08d0ff5bf7f80c8e5fdd", func := "loop.example/dominotilings/laws.FnExactPuzzleValid", spec := "fnExactPuzzleValid", apart := false, narrowed := true }
def FnExactPuzzleValidUptoSaid : Prop := fnExactPuzzleValidUptoRow.holds Try.pinned (OpenSpec.upto fnExactPuzzleValidSpec)

/-- 'laws.FnExactPairsOf', WHERE WHAT IT READS IS OF BULK AT MOST 1048576: true; the input reads as it did. -/
def fnExactPairsOfUptoRow : OpenClaim := { program := "ythjocjiiihebbaa", sum := "94e4bcc3039c1fd74d34e395503f501130e59eb7c71b08d0ff5bf7f80c8e5fdd", func := "loop.example/dominotilings/laws.FnExactPairsOf", spec := "fnExactPairsOf", apart := false, narrowed := true }
def FnExactPairsOfUptoSaid : Prop := fnExactPairsOfUptoRow.holds Try.pinned (OpenSpec.upto fnExactPairsOfSpec)

/-- 'laws.FnExactFairOk', WHERE WHAT IT READS IS OF BULK AT MOST 1048576: true; the input reads as it did. -/
def fnExactFairOkUptoRow : OpenClaim := { program := "ythjocjiiihebbaa", sum := "94e4bcc3039c1fd74d34e395503f501130e59eb7c71b08d0ff5bf7f80c8e5fdd", func := "loop.example/dominotilings/laws.FnExactFairOk", spec := "fnExactFairOk", recurses := true, apart := false, narrowed := true }
def FnExactFairOkUptoSaid : Prop := fnExactFairOkUptoRow.holds Try.pinned (OpenSpec.upto fnExactFairOkSpec)

/-- 'laws.FnExactSolvedOk', WHERE WHAT IT READS IS OF BULK AT MOST 1048576: true; the input reads as it did. -/
def fnExactSolvedOkUptoRow : OpenClaim := { program := "ythjocjiiihebbaa", sum := "94e4bcc3039c1fd74d34e395503f501130e59eb7c71b08d0ff5bf7f80c8e5fdd", func := "loop.example/dominotilings/laws.FnExactSolvedOk", spec := "fnExactSolvedOk", recurses := true, apart := false, narrowed := true }
def FnExactSolvedOkUptoSaid : Prop := fnExactSolvedOkUptoRow.holds Try.pinned (OpenSpec.upto fnExactSolvedOkSpec)

/-- 'laws.FnExactMakePuzzle', WHERE WHAT IT READS IS OF BULK AT MOST 1048576: true; the input reads as it did. -/
def fnExactMakePuzzleUptoRow : OpenClaim := { program := "ythjocjiiihebbaa", sum := "94e4bcc3039c1fd74d34e395503f501130e59eb7c71b08d0ff5bf7f80c8e5fdd", func := "loop.example/dominotilings/laws.FnExactMakePuzzle", spec := "fnExactMakePuzzle", apart := false, narrowed := true }
def FnExactMakePuzzleUptoSaid : Prop := fnExactMakePuzzleUptoRow.holds Try.pinned (OpenSpec.upto fnExactMakePuzzleSpec)

/-- 'laws.FnMakePuzzle', WHERE WHAT IT READS IS OF BULK AT MOST 1048576: true; the input reads as it did. -/
def fnMakePuzzleUptoRow : OpenClaim := { program := "ythjocjiiihebbaa", sum := "94e4bcc3039c1fd74d34e395503f501130e59eb7c71b08d0ff5bf7f80c8e5fdd", func := "loop.example/dominotilings/laws.FnMakePuzzle", spec := "fnMakePuzzle", recurses := true, apart := false, narrowed := true }
def FnMakePuzzleUptoSaid : Prop := fnMakePuzzleUptoRow.holds Try.pinned (OpenSpec.upto fnMakePuzzleSpec)

/-- 'laws.FnExactRelabel', WHERE WHAT IT READS IS OF BULK AT MOST 1048576: true; the input reads as it did. -/
def fnExactRelabelUptoRow : OpenClaim := { program := "ythjocjiiihebbaa", sum := "94e4bcc3039c1fd74d34e395503f501130e59eb7c71b08d0ff5bf7f80c8e5fdd", func := "loop.example/dominotilings/laws.FnExactRelabel", spec := "fnExactRelabel", apart := false, narrowed := true }
def FnExactRelabelUptoSaid : Prop := fnExactRelabelUptoRow.holds Try.pinned (OpenSpec.upto fnExactRelabelSpec)

/-- 'laws.FnExactCornerFill', WHERE WHAT IT READS IS OF BULK AT MOST 1048576: true; the input reads as it did. -/
def fnExactCornerFillUptoRow : OpenClaim := { program := "ythjocjiiihebbaa", sum := "94e4bcc3039c1fd74d34e395503f501130e59eb7c71b08d0ff5bf7f80c8e5fdd", func := "loop.example/dominotilings/laws.FnExactCornerFill", spec := "fnExactCornerFill", recurses := true, apart := false, narrowed := true }
def FnExactCornerFillUptoSaid : Prop := fnExactCornerFillUptoRow.holds Try.pinned (OpenSpec.upto fnExactCornerFillSpec)

end Rows
end Go.Proofs.Ythjocjiiihebbaa
