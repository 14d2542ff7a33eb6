/-
  No cell of these rows narrows 'for every input' (looked for: loops, veiled, ifaces, maps, wideKeys, modest, calm, conditions, laid).
  DERIVED. THE GIVEN ROWS OF THIS SEAT. 8 by the template 'for every input the law returns true; each argument reads behind the call as it read before'; 0 by the template 'total and deterministic' (their statements: YtgfeemghpdeblaaTotals.lean).
  GIVEN WITH THE SEED: the statements are not yours to turn. If you find one false, say at which input.
  Laid BY PROGRAM, IN A SANDBOX (cutbox-rows.mjs): the forced cells as the released guide's own fill.sh prints them over the translation 69a80cef205a0568… (all of the seat's roots in one cut). By AI agents, Wed Nov 11 2026. No macro, syntax, notation, axiom, sorry.
-/
import Derived.Test.YtgfeemghpdeblaaChecked
import GoSem.Claim
import GoSem.ClaimJoined
import GoSem.ClaimMapViews
import Derived.JoinedTies
import Derived.KernelRfl
namespace Go.Proofs.Ytgfeemghpdeblaa
/- THE CELL 'sum', in the pinned program and in every row, IS THE sha256 OF THE DUMP (.gsa) THAT YtgfeemghpdeblaaProg.lean LOADS. Nothing in Lean hashes anything: it is a label: what it is worth is what the hold of that sum in a sandbox is worth. -/
noncomputable def Try.pinned : Pinned := { name := "ytgfeemghpdeblaa", sum := "69a80cef205a0568290cb986dd7615da3293f840bdadc9f987601dbe7c89f8ac", checked := Try.checked }
namespace Rows
def none {H : Type} : Left H := { results := [], args := [] }

/-- 'laws.FnExactHeightsOf': WHATEVER THE INPUT: true; the input reads as it did. -/
def fnExactHeightsOfSpec : ChangeSpec := { name := "fnExactHeightsOf", fn := fun _ => fun
  | [d1, d2] => { results := [.lit (.bool true)], args := [d1, d2] }
  | _ => none }
def fnExactHeightsOfRow : OpenClaim := { program := "ytgfeemghpdeblaa", sum := "69a80cef205a0568290cb986dd7615da3293f840bdadc9f987601dbe7c89f8ac", func := "loop.example/dominotilings/laws.FnExactHeightsOf", spec := "fnExactHeightsOf", unfollowed := true, recurses := true, apart := false }
def FnExactHeightsOfSaid : Prop := fnExactHeightsOfRow.holds Try.pinned (OpenSpec.ofChange fnExactHeightsOfSpec)

/-- ITS FALSE NEIGHBOUR: 'it returns false'. Refute it at one input. -/
def fnExactHeightsOfWrong : ChangeSpec := { name := "fnExactHeightsOf", fn := fun _ => fun
  | [d1, d2] => { results := [.lit (.bool false)], args := [d1, d2] }
  | _ => none }
def FnExactHeightsOfWrongFalsely : Prop := fnExactHeightsOfRow.holds Try.pinned (OpenSpec.ofChange fnExactHeightsOfWrong)

/-- 'laws.FnExactBelow': WHATEVER THE INPUT: true; the input reads as it did. -/
def fnExactBelowSpec : ChangeSpec := { name := "fnExactBelow", fn := fun _ => fun
  | [d1, d2, d3] => { results := [.lit (.bool true)], args := [d1, d2, d3] }
  | _ => none }
def fnExactBelowRow : OpenClaim := { program := "ytgfeemghpdeblaa", sum := "69a80cef205a0568290cb986dd7615da3293f840bdadc9f987601dbe7c89f8ac", func := "loop.example/dominotilings/laws.FnExactBelow", spec := "fnExactBelow", unfollowed := true, recurses := true, apart := false }
def FnExactBelowSaid : Prop := fnExactBelowRow.holds Try.pinned (OpenSpec.ofChange fnExactBelowSpec)

/-- ITS FALSE NEIGHBOUR: 'it returns false'. Refute it at one input. -/
def fnExactBelowWrong : ChangeSpec := { name := "fnExactBelow", fn := fun _ => fun
  | [d1, d2, d3] => { results := [.lit (.bool false)], args := [d1, d2, d3] }
  | _ => none }
def FnExactBelowWrongFalsely : Prop := fnExactBelowRow.holds Try.pinned (OpenSpec.ofChange fnExactBelowWrong)

/-- 'laws.FnExactApart': WHATEVER THE INPUT: true; the input reads as it did. -/
def fnExactApartSpec : ChangeSpec := { name := "fnExactApart", fn := fun _ => fun
  | [d1, d2, d3] => { results := [.lit (.bool true)], args := [d1, d2, d3] }
  | _ => none }
def fnExactApartRow : OpenClaim := { program := "ytgfeemghpdeblaa", sum := "69a80cef205a0568290cb986dd7615da3293f840bdadc9f987601dbe7c89f8ac", func := "loop.example/dominotilings/laws.FnExactApart", spec := "fnExactApart", unfollowed := true, recurses := true, apart := false }
def FnExactApartSaid : Prop := fnExactApartRow.holds Try.pinned (OpenSpec.ofChange fnExactApartSpec)

/-- ITS FALSE NEIGHBOUR: 'it returns false'. Refute it at one input. -/
def fnExactApartWrong : ChangeSpec := { name := "fnExactApart", fn := fun _ => fun
  | [d1, d2, d3] => { results := [.lit (.bool false)], args := [d1, d2, d3] }
  | _ => none }
def FnExactApartWrongFalsely : Prop := fnExactApartRow.holds Try.pinned (OpenSpec.ofChange fnExactApartWrong)

/-- 'laws.FnExactTilingLow': WHATEVER THE INPUT: true; the input reads as it did. -/
def fnExactTilingLowSpec : ChangeSpec := { name := "fnExactTilingLow", fn := fun _ => fun
  | [d1, d2, d3] => { results := [.lit (.bool true)], args := [d1, d2, d3] }
  | _ => none }
def fnExactTilingLowRow : OpenClaim := { program := "ytgfeemghpdeblaa", sum := "69a80cef205a0568290cb986dd7615da3293f840bdadc9f987601dbe7c89f8ac", func := "loop.example/dominotilings/laws.FnExactTilingLow", spec := "fnExactTilingLow", unfollowed := true, recurses := true, apart := false }
def FnExactTilingLowSaid : Prop := fnExactTilingLowRow.holds Try.pinned (OpenSpec.ofChange fnExactTilingLowSpec)

/-- ITS FALSE NEIGHBOUR: 'it returns false'. Refute it at one input. -/
def fnExactTilingLowWrong : ChangeSpec := { name := "fnExactTilingLow", fn := fun _ => fun
  | [d1, d2, d3] => { results := [.lit (.bool false)], args := [d1, d2, d3] }
  | _ => none }
def FnExactTilingLowWrongFalsely : Prop := fnExactTilingLowRow.holds Try.pinned (OpenSpec.ofChange fnExactTilingLowWrong)

/-- 'laws.FnExactTilingHigh': WHATEVER THE INPUT: true; the input reads as it did. -/
def fnExactTilingHighSpec : ChangeSpec := { name := "fnExactTilingHigh", fn := fun _ => fun
  | [d1, d2, d3] => { results := [.lit (.bool true)], args := [d1, d2, d3] }
  | _ => none }
def fnExactTilingHighRow : OpenClaim := { program := "ytgfeemghpdeblaa", sum := "69a80cef205a0568290cb986dd7615da3293f840bdadc9f987601dbe7c89f8ac", func := "loop.example/dominotilings/laws.FnExactTilingHigh", spec := "fnExactTilingHigh", unfollowed := true, recurses := true, apart := false }
def FnExactTilingHighSaid : Prop := fnExactTilingHighRow.holds Try.pinned (OpenSpec.ofChange fnExactTilingHighSpec)

/-- ITS FALSE NEIGHBOUR: 'it returns false'. Refute it at one input. -/
def fnExactTilingHighWrong : ChangeSpec := { name := "fnExactTilingHigh", fn := fun _ => fun
  | [d1, d2, d3] => { results := [.lit (.bool false)], args := [d1, d2, d3] }
  | _ => none }
def FnExactTilingHighWrongFalsely : Prop := fnExactTilingHighRow.holds Try.pinned (OpenSpec.ofChange fnExactTilingHighWrong)

/-- 'laws.FnExactFlipRise': WHATEVER THE INPUT: true; the input reads as it did. -/
def fnExactFlipRiseSpec : ChangeSpec := { name := "fnExactFlipRise", fn := fun _ => fun
  | [d1, d2, d3] => { results := [.lit (.bool true)], args := [d1, d2, d3] }
  | _ => none }
def fnExactFlipRiseRow : OpenClaim := { program := "ytgfeemghpdeblaa", sum := "69a80cef205a0568290cb986dd7615da3293f840bdadc9f987601dbe7c89f8ac", func := "loop.example/dominotilings/laws.FnExactFlipRise", spec := "fnExactFlipRise", apart := false }
def FnExactFlipRiseSaid : Prop := fnExactFlipRiseRow.holds Try.pinned (OpenSpec.ofChange fnExactFlipRiseSpec)

/-- ITS FALSE NEIGHBOUR: 'it returns false'. Refute it at one input. -/
def fnExactFlipRiseWrong : ChangeSpec := { name := "fnExactFlipRise", fn := fun _ => fun
  | [d1, d2, d3] => { results := [.lit (.bool false)], args := [d1, d2, d3] }
  | _ => none }
def FnExactFlipRiseWrongFalsely : Prop := fnExactFlipRiseRow.holds Try.pinned (OpenSpec.ofChange fnExactFlipRiseWrong)

/-- 'laws.FnExactDownOf': WHATEVER THE INPUT: true; the input reads as it did. -/
def fnExactDownOfSpec : ChangeSpec := { name := "fnExactDownOf", fn := fun _ => fun
  | [d1, d2] => { results := [.lit (.bool true)], args := [d1, d2] }
  | _ => none }
def fnExactDownOfRow : OpenClaim := { program := "ytgfeemghpdeblaa", sum := "69a80cef205a0568290cb986dd7615da3293f840bdadc9f987601dbe7c89f8ac", func := "loop.example/dominotilings/laws.FnExactDownOf", spec := "fnExactDownOf", unfollowed := true, recurses := true, apart := false }
def FnExactDownOfSaid : Prop := fnExactDownOfRow.holds Try.pinned (OpenSpec.ofChange fnExactDownOfSpec)

/-- ITS FALSE NEIGHBOUR: 'it returns false'. Refute it at one input. -/
def fnExactDownOfWrong : ChangeSpec := { name := "fnExactDownOf", fn := fun _ => fun
  | [d1, d2] => { results := [.lit (.bool false)], args := [d1, d2] }
  | _ => none }
def FnExactDownOfWrongFalsely : Prop := fnExactDownOfRow.holds Try.pinned (OpenSpec.ofChange fnExactDownOfWrong)

/-- 'laws.FnExactUpOf': WHATEVER THE INPUT: true; the input reads as it did. -/
def fnExactUpOfSpec : ChangeSpec := { name := "fnExactUpOf", fn := fun _ => fun
  | [d1, d2] => { results := [.lit (.bool true)], args := [d1, d2] }
  | _ => none }
def fnExactUpOfRow : OpenClaim := { program := "ytgfeemghpdeblaa", sum := "69a80cef205a0568290cb986dd7615da3293f840bdadc9f987601dbe7c89f8ac", func := "loop.example/dominotilings/laws.FnExactUpOf", spec := "fnExactUpOf", unfollowed := true, recurses := true, apart := false }
def FnExactUpOfSaid : Prop := fnExactUpOfRow.holds Try.pinned (OpenSpec.ofChange fnExactUpOfSpec)

/-- ITS FALSE NEIGHBOUR: 'it returns false'. Refute it at one input. -/
def fnExactUpOfWrong : ChangeSpec := { name := "fnExactUpOf", fn := fun _ => fun
  | [d1, d2] => { results := [.lit (.bool false)], args := [d1, d2] }
  | _ => none }
def FnExactUpOfWrongFalsely : Prop := fnExactUpOfRow.holds Try.pinned (OpenSpec.ofChange fnExactUpOfWrong)

/- THE SECOND FORM. 'bulk': how many values and letters a reading holds, each counted each time it is reached (what is shared counts as often as it is met; a slice's spare places count too). A statement '..UptoSaid' is the law's where the arguments, and the package variables that the reading takes, are together of bulk at most 1048576: NARROWER than '..Said'. Prove '..Said' where nothing that the law and all that it calls make is longer than what came in: it says more and counts as full. Else prove '..UptoSaid'. A law counts once. -/
mutual
def uptoBulk {H : Type} : DataW H → Nat
  | .lit (.string bytes) => bytes.length + 1
  | .lit _ => 1
  | .nil => 1
  | .ptr d => uptoBulk d + 1
  | .slice elems spare => uptoBulkAll elems + uptoBulkAll spare + 1
  | .agg parts => uptoBulkAll parts + 1
  | .iface _ d => uptoBulk d + 1
  | .map entries => uptoBulkEntries entries + 1
  | .held _ => 1
def uptoBulkAll {H : Type} : List (DataW H) → Nat
  | [] => 0
  | d :: r => uptoBulk d + uptoBulkAll r
def uptoBulkEntries {H : Type} : List (Lit × DataW H) → Nat
  | [] => 0
  | x :: r => uptoBulkEntry x + uptoBulkEntries r
def uptoBulkEntry {H : Type} : Lit × DataW H → Nat
  | (.string bytes, d) => bytes.length + uptoBulk d + 1
  | (_, d) => uptoBulk d + 1
 end
def uptoSmall : (H : Type) → List (DataW H) → Bool := fun _ ds => decide (uptoBulkAll ds ≤ 1048576)
def OpenSpec.upto (s : _root_.Go.ChangeSpec) : _root_.Go.OpenSpec := { _root_.Go.OpenSpec.ofChange s with cond := some uptoSmall }

/-- 'laws.FnExactHeightsOf', WHERE WHAT IT READS IS OF BULK AT MOST 1048576: true; the input reads as it did. -/
def fnExactHeightsOfUptoRow : OpenClaim := { program := "ytgfeemghpdeblaa", sum := "69a80cef205a0568290cb986dd7615da3293f840bdadc9f987601dbe7c89f8ac", func := "loop.example/dominotilings/laws.FnExactHeightsOf", spec := "fnExactHeightsOf", unfollowed := true, recurses := true, apart := false, narrowed := true }
def FnExactHeightsOfUptoSaid : Prop := fnExactHeightsOfUptoRow.holds Try.pinned (OpenSpec.upto fnExactHeightsOfSpec)

/-- 'laws.FnExactBelow', WHERE WHAT IT READS IS OF BULK AT MOST 1048576: true; the input reads as it did. -/
def fnExactBelowUptoRow : OpenClaim := { program := "ytgfeemghpdeblaa", sum := "69a80cef205a0568290cb986dd7615da3293f840bdadc9f987601dbe7c89f8ac", func := "loop.example/dominotilings/laws.FnExactBelow", spec := "fnExactBelow", unfollowed := true, recurses := true, apart := false, narrowed := true }
def FnExactBelowUptoSaid : Prop := fnExactBelowUptoRow.holds Try.pinned (OpenSpec.upto fnExactBelowSpec)

/-- 'laws.FnExactApart', WHERE WHAT IT READS IS OF BULK AT MOST 1048576: true; the input reads as it did. -/
def fnExactApartUptoRow : OpenClaim := { program := "ytgfeemghpdeblaa", sum := "69a80cef205a0568290cb986dd7615da3293f840bdadc9f987601dbe7c89f8ac", func := "loop.example/dominotilings/laws.FnExactApart", spec := "fnExactApart", unfollowed := true, recurses := true, apart := false, narrowed := true }
def FnExactApartUptoSaid : Prop := fnExactApartUptoRow.holds Try.pinned (OpenSpec.upto fnExactApartSpec)

/-- 'laws.FnExactTilingLow', WHERE WHAT IT READS IS OF BULK AT MOST 1048576: true; the input reads as it did. -/
def fnExactTilingLowUptoRow : OpenClaim := { program := "ytgfeemghpdeblaa", sum := "69a80cef205a0568290cb986dd7615da3293f840bdadc9f987601dbe7c89f8ac", func := "loop.example/dominotilings/laws.FnExactTilingLow", spec := "fnExactTilingLow", unfollowed := true, recurses := true, apart := false, narrowed := true }
def FnExactTilingLowUptoSaid : Prop := fnExactTilingLowUptoRow.holds Try.pinned (OpenSpec.upto fnExactTilingLowSpec)

/-- 'laws.FnExactTilingHigh', WHERE WHAT IT READS IS OF BULK AT MOST 1048576: true; the input reads as it did. -/
def fnExactTilingHighUptoRow : OpenClaim := { program := "ytgfeemghpdeblaa", sum := "69a80cef205a0568290cb986dd7615da3293f840bdadc9f987601dbe7c89f8ac", func := "loop.example/dominotilings/laws.FnExactTilingHigh", spec := "fnExactTilingHigh", unfollowed := true, recurses := true, apart := false, narrowed := true }
def FnExactTilingHighUptoSaid : Prop := fnExactTilingHighUptoRow.holds Try.pinned (OpenSpec.upto fnExactTilingHighSpec)

/-- 'laws.FnExactFlipRise', WHERE WHAT IT READS IS OF BULK AT MOST 1048576: true; the input reads as it did. -/
def fnExactFlipRiseUptoRow : OpenClaim := { program := "ytgfeemghpdeblaa", sum := "69a80cef205a0568290cb986dd7615da3293f840bdadc9f987601dbe7c89f8ac", func := "loop.example/dominotilings/laws.FnExactFlipRise", spec := "fnExactFlipRise", apart := false, narrowed := true }
def FnExactFlipRiseUptoSaid : Prop := fnExactFlipRiseUptoRow.holds Try.pinned (OpenSpec.upto fnExactFlipRiseSpec)

/-- 'laws.FnExactDownOf', WHERE WHAT IT READS IS OF BULK AT MOST 1048576: true; the input reads as it did. -/
def fnExactDownOfUptoRow : OpenClaim := { program := "ytgfeemghpdeblaa", sum := "69a80cef205a0568290cb986dd7615da3293f840bdadc9f987601dbe7c89f8ac", func := "loop.example/dominotilings/laws.FnExactDownOf", spec := "fnExactDownOf", unfollowed := true, recurses := true, apart := false, narrowed := true }
def FnExactDownOfUptoSaid : Prop := fnExactDownOfUptoRow.holds Try.pinned (OpenSpec.upto fnExactDownOfSpec)

/-- 'laws.FnExactUpOf', WHERE WHAT IT READS IS OF BULK AT MOST 1048576: true; the input reads as it did. -/
def fnExactUpOfUptoRow : OpenClaim := { program := "ytgfeemghpdeblaa", sum := "69a80cef205a0568290cb986dd7615da3293f840bdadc9f987601dbe7c89f8ac", func := "loop.example/dominotilings/laws.FnExactUpOf", spec := "fnExactUpOf", unfollowed := true, recurses := true, apart := false, narrowed := true }
def FnExactUpOfUptoSaid : Prop := fnExactUpOfUptoRow.holds Try.pinned (OpenSpec.upto fnExactUpOfSpec)

end Rows
end Go.Proofs.Ytgfeemghpdeblaa
