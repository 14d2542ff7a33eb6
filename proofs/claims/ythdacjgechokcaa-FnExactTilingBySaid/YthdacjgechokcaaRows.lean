/-
  No cell of these rows narrows 'for every input' (looked for: loops, veiled, ifaces, maps, wideKeys, modest, calm, conditions, laid).
  DERIVED. THE GIVEN ROWS OF THIS SEAT. 6 by the template 'for every input the law returns true; each argument reads behind the call as it read before'; 0 by the template 'total and deterministic' (their statements: YthdacjgechokcaaTotals.lean).
  GIVEN WITH THE SEED: the statements are not yours to turn. If you find one false, say at which input.
  Laid BY PROGRAM, IN A SANDBOX (cutbox-rows.mjs): the forced cells as the released guide's own fill.sh prints them over the translation 0ae145780c45bcf1… (all of the seat's roots in one cut). By AI agents, Wed Nov 11 2026. No macro, syntax, notation, axiom, sorry.
-/
import Derived.Test.YthdacjgechokcaaChecked
import GoSem.Claim
import GoSem.ClaimJoined
import GoSem.ClaimMapViews
import Derived.JoinedTies
import Derived.KernelRfl
namespace Go.Proofs.Ythdacjgechokcaa
/- THE CELL 'sum', in the pinned program and in every row, IS THE sha256 OF THE DUMP (.gsa) THAT YthdacjgechokcaaProg.lean LOADS. Nothing in Lean hashes anything: it is a label: what it is worth is what the hold of that sum in a sandbox is worth. -/
noncomputable def Try.pinned : Pinned := { name := "ythdacjgechokcaa", sum := "0ae145780c45bcf1021d4ffe61c8e5adcde5ca54cffb931362f421e009f936d7", checked := Try.checked }
namespace Rows
def none {H : Type} : Left H := { results := [], args := [] }

/-- 'laws.FnExactPushesValid': WHATEVER THE INPUT: true; the input reads as it did. -/
def fnExactPushesValidSpec : ChangeSpec := { name := "fnExactPushesValid", fn := fun _ => fun
  | [d1, d2] => { results := [.lit (.bool true)], args := [d1, d2] }
  | _ => none }
def fnExactPushesValidRow : OpenClaim := { program := "ythdacjgechokcaa", sum := "0ae145780c45bcf1021d4ffe61c8e5adcde5ca54cffb931362f421e009f936d7", func := "loop.example/dominotilings/laws.FnExactPushesValid", spec := "fnExactPushesValid", unfollowed := true, recurses := true, apart := false }
def FnExactPushesValidSaid : Prop := fnExactPushesValidRow.holds Try.pinned (OpenSpec.ofChange fnExactPushesValidSpec)

/-- ITS FALSE NEIGHBOUR: 'it returns false'. Refute it at one input. -/
def fnExactPushesValidWrong : ChangeSpec := { name := "fnExactPushesValid", fn := fun _ => fun
  | [d1, d2] => { results := [.lit (.bool false)], args := [d1, d2] }
  | _ => none }
def FnExactPushesValidWrongFalsely : Prop := fnExactPushesValidRow.holds Try.pinned (OpenSpec.ofChange fnExactPushesValidWrong)

/-- 'laws.FnExactPushesBy': WHATEVER THE INPUT: true; the input reads as it did. -/
def fnExactPushesBySpec : ChangeSpec := { name := "fnExactPushesBy", fn := fun _ => fun
  | [d1, d2, d3] => { results := [.lit (.bool true)], args := [d1, d2, d3] }
  | _ => none }
def fnExactPushesByRow : OpenClaim := { program := "ythdacjgechokcaa", sum := "0ae145780c45bcf1021d4ffe61c8e5adcde5ca54cffb931362f421e009f936d7", func := "loop.example/dominotilings/laws.FnExactPushesBy", spec := "fnExactPushesBy", apart := false }
def FnExactPushesBySaid : Prop := fnExactPushesByRow.holds Try.pinned (OpenSpec.ofChange fnExactPushesBySpec)

/-- ITS FALSE NEIGHBOUR: 'it returns false'. Refute it at one input. -/
def fnExactPushesByWrong : ChangeSpec := { name := "fnExactPushesBy", fn := fun _ => fun
  | [d1, d2, d3] => { results := [.lit (.bool false)], args := [d1, d2, d3] }
  | _ => none }
def FnExactPushesByWrongFalsely : Prop := fnExactPushesByRow.holds Try.pinned (OpenSpec.ofChange fnExactPushesByWrong)

/-- 'laws.FnExactHeightsLow': WHATEVER THE INPUT: true; the input reads as it did. -/
def fnExactHeightsLowSpec : ChangeSpec := { name := "fnExactHeightsLow", fn := fun _ => fun
  | [d1, d2, d3] => { results := [.lit (.bool true)], args := [d1, d2, d3] }
  | _ => none }
def fnExactHeightsLowRow : OpenClaim := { program := "ythdacjgechokcaa", sum := "0ae145780c45bcf1021d4ffe61c8e5adcde5ca54cffb931362f421e009f936d7", func := "loop.example/dominotilings/laws.FnExactHeightsLow", spec := "fnExactHeightsLow", apart := false }
def FnExactHeightsLowSaid : Prop := fnExactHeightsLowRow.holds Try.pinned (OpenSpec.ofChange fnExactHeightsLowSpec)

/-- ITS FALSE NEIGHBOUR: 'it returns false'. Refute it at one input. -/
def fnExactHeightsLowWrong : ChangeSpec := { name := "fnExactHeightsLow", fn := fun _ => fun
  | [d1, d2, d3] => { results := [.lit (.bool false)], args := [d1, d2, d3] }
  | _ => none }
def FnExactHeightsLowWrongFalsely : Prop := fnExactHeightsLowRow.holds Try.pinned (OpenSpec.ofChange fnExactHeightsLowWrong)

/-- 'laws.FnExactHeightsHigh': WHATEVER THE INPUT: true; the input reads as it did. -/
def fnExactHeightsHighSpec : ChangeSpec := { name := "fnExactHeightsHigh", fn := fun _ => fun
  | [d1, d2, d3] => { results := [.lit (.bool true)], args := [d1, d2, d3] }
  | _ => none }
def fnExactHeightsHighRow : OpenClaim := { program := "ythdacjgechokcaa", sum := "0ae145780c45bcf1021d4ffe61c8e5adcde5ca54cffb931362f421e009f936d7", func := "loop.example/dominotilings/laws.FnExactHeightsHigh", spec := "fnExactHeightsHigh", apart := false }
def FnExactHeightsHighSaid : Prop := fnExactHeightsHighRow.holds Try.pinned (OpenSpec.ofChange fnExactHeightsHighSpec)

/-- ITS FALSE NEIGHBOUR: 'it returns false'. Refute it at one input. -/
def fnExactHeightsHighWrong : ChangeSpec := { name := "fnExactHeightsHigh", fn := fun _ => fun
  | [d1, d2, d3] => { results := [.lit (.bool false)], args := [d1, d2, d3] }
  | _ => none }
def FnExactHeightsHighWrongFalsely : Prop := fnExactHeightsHighRow.holds Try.pinned (OpenSpec.ofChange fnExactHeightsHighWrong)

/-- 'laws.FnExactTilingBy': WHATEVER THE INPUT: true; the input reads as it did. -/
def fnExactTilingBySpec : ChangeSpec := { name := "fnExactTilingBy", fn := fun _ => fun
  | [d1, d2] => { results := [.lit (.bool true)], args := [d1, d2] }
  | _ => none }
def fnExactTilingByRow : OpenClaim := { program := "ythdacjgechokcaa", sum := "0ae145780c45bcf1021d4ffe61c8e5adcde5ca54cffb931362f421e009f936d7", func := "loop.example/dominotilings/laws.FnExactTilingBy", spec := "fnExactTilingBy", apart := false }
def FnExactTilingBySaid : Prop := fnExactTilingByRow.holds Try.pinned (OpenSpec.ofChange fnExactTilingBySpec)

/-- ITS FALSE NEIGHBOUR: 'it returns false'. Refute it at one input. -/
def fnExactTilingByWrong : ChangeSpec := { name := "fnExactTilingBy", fn := fun _ => fun
  | [d1, d2] => { results := [.lit (.bool false)], args := [d1, d2] }
  | _ => none }
def FnExactTilingByWrongFalsely : Prop := fnExactTilingByRow.holds Try.pinned (OpenSpec.ofChange fnExactTilingByWrong)

/-- 'laws.FnExactFlipLines': WHATEVER THE INPUT: true; the input reads as it did. -/
def fnExactFlipLinesSpec : ChangeSpec := { name := "fnExactFlipLines", fn := fun _ => fun
  | [d] => { results := [.lit (.bool true)], args := [d] }
  | _ => none }
def fnExactFlipLinesRow : OpenClaim := { program := "ythdacjgechokcaa", sum := "0ae145780c45bcf1021d4ffe61c8e5adcde5ca54cffb931362f421e009f936d7", func := "loop.example/dominotilings/laws.FnExactFlipLines", spec := "fnExactFlipLines", unfollowed := true, recurses := true, apart := false }
def FnExactFlipLinesSaid : Prop := fnExactFlipLinesRow.holds Try.pinned (OpenSpec.ofChange fnExactFlipLinesSpec)

/-- ITS FALSE NEIGHBOUR: 'it returns false'. Refute it at one input. -/
def fnExactFlipLinesWrong : ChangeSpec := { name := "fnExactFlipLines", fn := fun _ => fun
  | [d] => { results := [.lit (.bool false)], args := [d] }
  | _ => none }
def FnExactFlipLinesWrongFalsely : Prop := fnExactFlipLinesRow.holds Try.pinned (OpenSpec.ofChange fnExactFlipLinesWrong)

/- THE SECOND FORM. 'bulk': how many values and letters a reading holds, each counted each time it is reached (what is shared counts as often as it is met; a slice's spare places count too). A statement '..UptoSaid' is the law's where the arguments, and the package variables that the reading takes, are together of bulk at most 1048576: NARROWER than '..Said'. Prove '..Said' where nothing that the law and all that it calls make is longer than what came in: it says more and counts as full. Else prove '..UptoSaid'. A law counts once. -/
mutual
def uptoBulk {H : Type} : DataW H → Nat
  | .lit (.string bytes) => bytes.length + 1
  | .lit _ => 1
  | .nil => 1
  | .ptr d => uptoBulk d + 1
  | .slice elems spare => uptoBulkAll elems + uptoBulkAll spare + 1
  | .agg parts => uptoBulkAll parts + 1
  | .iface _ d => uptoBulk d + 1
  | .map entries => uptoBulkEntries entries + 1
  | .held _ => 1
def uptoBulkAll {H : Type} : List (DataW H) → Nat
  | [] => 0
  | d :: r => uptoBulk d + uptoBulkAll r
def uptoBulkEntries {H : Type} : List (Lit × DataW H) → Nat
  | [] => 0
  | x :: r => uptoBulkEntry x + uptoBulkEntries r
def uptoBulkEntry {H : Type} : Lit × DataW H → Nat
  | (.string bytes, d) => bytes.length + uptoBulk d + 1
  | (_, d) => uptoBulk d + 1
 end
def uptoSmall : (H : Type) → List (DataW H) → Bool := fun _ ds => decide (uptoBulkAll ds ≤ 1048576)
def OpenSpec.upto (s : _root_.Go.ChangeSpec) : _root_.Go.OpenSpec := { _root_.Go.OpenSpec.ofChange s with cond := some uptoSmall }

/-- 'laws.FnExactPushesValid', WHERE WHAT IT READS IS OF BULK AT MOST 1048576: true; the input reads as it did. -/
def fnExactPushesValidUptoRow : OpenClaim := { program := "ythdacjgechokcaa", sum := "0ae145780c45bcf1021d4ffe61c8e5adcde5ca54cffb931362f421e009f936d7", func := "loop.example/dominotilings/laws.FnExactPushesValid", spec := "fnExactPushesValid", unfollowed := true, recurses := true, apart := false, narrowed := true }
def FnExactPushesValidUptoSaid : Prop := fnExactPushesValidUptoRow.holds Try.pinned (OpenSpec.upto fnExactPushesValidSpec)

/-- 'laws.FnExactPushesBy', WHERE WHAT IT READS IS OF BULK AT MOST 1048576: true; the input reads as it did. -/
def fnExactPushesByUptoRow : OpenClaim := { program := "ythdacjgechokcaa", sum := "0ae145780c45bcf1021d4ffe61c8e5adcde5ca54cffb931362f421e009f936d7", func := "loop.example/dominotilings/laws.FnExactPushesBy", spec := "fnExactPushesBy", apart := false, narrowed := true }
def FnExactPushesByUptoSaid : Prop := fnExactPushesByUptoRow.holds Try.pinned (OpenSpec.upto fnExactPushesBySpec)

/-- 'laws.FnExactHeightsLow', WHERE WHAT IT READS IS OF BULK AT MOST 1048576: true; the input reads as it did. -/
def fnExactHeightsLowUptoRow : OpenClaim := { program := "ythdacjgechokcaa", sum := "0ae145780c45bcf1021d4ffe61c8e5adcde5ca54cffb931362f421e009f936d7", func := "loop.example/dominotilings/laws.FnExactHeightsLow", spec := "fnExactHeightsLow", apart := false, narrowed := true }
def FnExactHeightsLowUptoSaid : Prop := fnExactHeightsLowUptoRow.holds Try.pinned (OpenSpec.upto fnExactHeightsLowSpec)

/-- 'laws.FnExactHeightsHigh', WHERE WHAT IT READS IS OF BULK AT MOST 1048576: true; the input reads as it did. -/
def fnExactHeightsHighUptoRow : OpenClaim := { program := "ythdacjgechokcaa", sum := "0ae145780c45bcf1021d4ffe61c8e5adcde5ca54cffb931362f421e009f936d7", func := "loop.example/dominotilings/laws.FnExactHeightsHigh", spec := "fnExactHeightsHigh", apart := false, narrowed := true }
def FnExactHeightsHighUptoSaid : Prop := fnExactHeightsHighUptoRow.holds Try.pinned (OpenSpec.upto fnExactHeightsHighSpec)

/-- 'laws.FnExactTilingBy', WHERE WHAT IT READS IS OF BULK AT MOST 1048576: true; the input reads as it did. -/
def fnExactTilingByUptoRow : OpenClaim := { program := "ythdacjgechokcaa", sum := "0ae145780c45bcf1021d4ffe61c8e5adcde5ca54cffb931362f421e009f936d7", func := "loop.example/dominotilings/laws.FnExactTilingBy", spec := "fnExactTilingBy", apart := false, narrowed := true }
def FnExactTilingByUptoSaid : Prop := fnExactTilingByUptoRow.holds Try.pinned (OpenSpec.upto fnExactTilingBySpec)

/-- 'laws.FnExactFlipLines', WHERE WHAT IT READS IS OF BULK AT MOST 1048576: true; the input reads as it did. -/
def fnExactFlipLinesUptoRow : OpenClaim := { program := "ythdacjgechokcaa", sum := "0ae145780c45bcf1021d4ffe61c8e5adcde5ca54cffb931362f421e009f936d7", func := "loop.example/dominotilings/laws.FnExactFlipLines", spec := "fnExactFlipLines", unfollowed := true, recurses := true, apart := false, narrowed := true }
def FnExactFlipLinesUptoSaid : Prop := fnExactFlipLinesUptoRow.holds Try.pinned (OpenSpec.upto fnExactFlipLinesSpec)

end Rows
end Go.Proofs.Ythdacjgechokcaa
