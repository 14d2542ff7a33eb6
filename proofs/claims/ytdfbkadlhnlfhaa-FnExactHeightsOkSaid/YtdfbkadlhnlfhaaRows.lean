/-
  No cell of these rows narrows 'for every input' (looked for: loops, veiled, ifaces, maps, wideKeys, modest, calm, conditions, laid).
  DERIVED. THE GIVEN ROWS OF THIS SEAT. 9 by the template 'for every input the law returns true; each argument reads behind the call as it read before'; 0 by the template 'total and deterministic' (their statements: YtdfbkadlhnlfhaaTotals.lean).
  GIVEN WITH THE SEED: the statements are not yours to turn. If you find one false, say at which input.
  Laid BY PROGRAM, IN A SANDBOX (cutbox-rows.mjs): the forced cells as the released guide's own fill.sh prints them over the translation d305e44e99398620… (all of the seat's roots in one cut). By AI agents, Wed Nov 11 2026. No macro, syntax, notation, axiom, sorry.
-/
import Derived.Test.YtdfbkadlhnlfhaaChecked
import GoSem.Claim
import GoSem.ClaimJoined
import GoSem.ClaimMapViews
import Derived.JoinedTies
import Derived.KernelRfl
namespace Go.Proofs.Ytdfbkadlhnlfhaa
/- THE CELL 'sum', in the pinned program and in every row, IS THE sha256 OF THE DUMP (.gsa) THAT YtdfbkadlhnlfhaaProg.lean LOADS. Nothing in Lean hashes anything: it is a label: what it is worth is what the hold of that sum in a sandbox is worth. -/
noncomputable def Try.pinned : Pinned := { name := "ytdfbkadlhnlfhaa", sum := "d305e44e993986208b976244eaf8aa170a6af89914dd8bce1cba44c49007a3a0", checked := Try.checked }
namespace Rows
def none {H : Type} : Left H := { results := [], args := [] }

/-- 'laws.FnExactHeightsOf': WHATEVER THE INPUT: true; the input reads as it did. -/
def fnExactHeightsOfSpec : ChangeSpec := { name := "fnExactHeightsOf", fn := fun _ => fun
  | [d1, d2] => { results := [.lit (.bool true)], args := [d1, d2] }
  | _ => none }
def fnExactHeightsOfRow : OpenClaim := { program := "ytdfbkadlhnlfhaa", sum := "d305e44e993986208b976244eaf8aa170a6af89914dd8bce1cba44c49007a3a0", func := "loop.example/dominotilings/laws.FnExactHeightsOf", spec := "fnExactHeightsOf", unfollowed := true, recurses := true, apart := false }
def FnExactHeightsOfSaid : Prop := fnExactHeightsOfRow.holds Try.pinned (OpenSpec.ofChange fnExactHeightsOfSpec)

/-- ITS FALSE NEIGHBOUR: 'it returns false'. Refute it at one input. -/
def fnExactHeightsOfWrong : ChangeSpec := { name := "fnExactHeightsOf", fn := fun _ => fun
  | [d1, d2] => { results := [.lit (.bool false)], args := [d1, d2] }
  | _ => none }
def FnExactHeightsOfWrongFalsely : Prop := fnExactHeightsOfRow.holds Try.pinned (OpenSpec.ofChange fnExactHeightsOfWrong)

/-- 'laws.FnExactHeightsOk': WHATEVER THE INPUT: true; the input reads as it did. -/
def fnExactHeightsOkSpec : ChangeSpec := { name := "fnExactHeightsOk", fn := fun _ => fun
  | [d1, d2] => { results := [.lit (.bool true)], args := [d1, d2] }
  | _ => none }
def fnExactHeightsOkRow : OpenClaim := { program := "ytdfbkadlhnlfhaa", sum := "d305e44e993986208b976244eaf8aa170a6af89914dd8bce1cba44c49007a3a0", func := "loop.example/dominotilings/laws.FnExactHeightsOk", spec := "fnExactHeightsOk", apart := false }
def FnExactHeightsOkSaid : Prop := fnExactHeightsOkRow.holds Try.pinned (OpenSpec.ofChange fnExactHeightsOkSpec)

/-- ITS FALSE NEIGHBOUR: 'it returns false'. Refute it at one input. -/
def fnExactHeightsOkWrong : ChangeSpec := { name := "fnExactHeightsOk", fn := fun _ => fun
  | [d1, d2] => { results := [.lit (.bool false)], args := [d1, d2] }
  | _ => none }
def FnExactHeightsOkWrongFalsely : Prop := fnExactHeightsOkRow.holds Try.pinned (OpenSpec.ofChange fnExactHeightsOkWrong)

/-- 'laws.FnExactTilingBy': WHATEVER THE INPUT: true; the input reads as it did. -/
def fnExactTilingBySpec : ChangeSpec := { name := "fnExactTilingBy", fn := fun _ => fun
  | [d1, d2] => { results := [.lit (.bool true)], args := [d1, d2] }
  | _ => none }
def fnExactTilingByRow : OpenClaim := { program := "ytdfbkadlhnlfhaa", sum := "d305e44e993986208b976244eaf8aa170a6af89914dd8bce1cba44c49007a3a0", func := "loop.example/dominotilings/laws.FnExactTilingBy", spec := "fnExactTilingBy", apart := false }
def FnExactTilingBySaid : Prop := fnExactTilingByRow.holds Try.pinned (OpenSpec.ofChange fnExactTilingBySpec)

/-- ITS FALSE NEIGHBOUR: 'it returns false'. Refute it at one input. -/
def fnExactTilingByWrong : ChangeSpec := { name := "fnExactTilingBy", fn := fun _ => fun
  | [d1, d2] => { results := [.lit (.bool false)], args := [d1, d2] }
  | _ => none }
def FnExactTilingByWrongFalsely : Prop := fnExactTilingByRow.holds Try.pinned (OpenSpec.ofChange fnExactTilingByWrong)

/-- 'laws.FnExactHeightsLow': WHATEVER THE INPUT: true; the input reads as it did. -/
def fnExactHeightsLowSpec : ChangeSpec := { name := "fnExactHeightsLow", fn := fun _ => fun
  | [d1, d2, d3] => { results := [.lit (.bool true)], args := [d1, d2, d3] }
  | _ => none }
def fnExactHeightsLowRow : OpenClaim := { program := "ytdfbkadlhnlfhaa", sum := "d305e44e993986208b976244eaf8aa170a6af89914dd8bce1cba44c49007a3a0", func := "loop.example/dominotilings/laws.FnExactHeightsLow", spec := "fnExactHeightsLow", apart := false }
def FnExactHeightsLowSaid : Prop := fnExactHeightsLowRow.holds Try.pinned (OpenSpec.ofChange fnExactHeightsLowSpec)

/-- ITS FALSE NEIGHBOUR: 'it returns false'. Refute it at one input. -/
def fnExactHeightsLowWrong : ChangeSpec := { name := "fnExactHeightsLow", fn := fun _ => fun
  | [d1, d2, d3] => { results := [.lit (.bool false)], args := [d1, d2, d3] }
  | _ => none }
def FnExactHeightsLowWrongFalsely : Prop := fnExactHeightsLowRow.holds Try.pinned (OpenSpec.ofChange fnExactHeightsLowWrong)

/-- 'laws.FnExactHeightsHigh': WHATEVER THE INPUT: true; the input reads as it did. -/
def fnExactHeightsHighSpec : ChangeSpec := { name := "fnExactHeightsHigh", fn := fun _ => fun
  | [d1, d2, d3] => { results := [.lit (.bool true)], args := [d1, d2, d3] }
  | _ => none }
def fnExactHeightsHighRow : OpenClaim := { program := "ytdfbkadlhnlfhaa", sum := "d305e44e993986208b976244eaf8aa170a6af89914dd8bce1cba44c49007a3a0", func := "loop.example/dominotilings/laws.FnExactHeightsHigh", spec := "fnExactHeightsHigh", apart := false }
def FnExactHeightsHighSaid : Prop := fnExactHeightsHighRow.holds Try.pinned (OpenSpec.ofChange fnExactHeightsHighSpec)

/-- ITS FALSE NEIGHBOUR: 'it returns false'. Refute it at one input. -/
def fnExactHeightsHighWrong : ChangeSpec := { name := "fnExactHeightsHigh", fn := fun _ => fun
  | [d1, d2, d3] => { results := [.lit (.bool false)], args := [d1, d2, d3] }
  | _ => none }
def FnExactHeightsHighWrongFalsely : Prop := fnExactHeightsHighRow.holds Try.pinned (OpenSpec.ofChange fnExactHeightsHighWrong)

/-- 'laws.FnExactBelow': WHATEVER THE INPUT: true; the input reads as it did. -/
def fnExactBelowSpec : ChangeSpec := { name := "fnExactBelow", fn := fun _ => fun
  | [d1, d2, d3] => { results := [.lit (.bool true)], args := [d1, d2, d3] }
  | _ => none }
def fnExactBelowRow : OpenClaim := { program := "ytdfbkadlhnlfhaa", sum := "d305e44e993986208b976244eaf8aa170a6af89914dd8bce1cba44c49007a3a0", func := "loop.example/dominotilings/laws.FnExactBelow", spec := "fnExactBelow", unfollowed := true, recurses := true, apart := false }
def FnExactBelowSaid : Prop := fnExactBelowRow.holds Try.pinned (OpenSpec.ofChange fnExactBelowSpec)

/-- ITS FALSE NEIGHBOUR: 'it returns false'. Refute it at one input. -/
def fnExactBelowWrong : ChangeSpec := { name := "fnExactBelow", fn := fun _ => fun
  | [d1, d2, d3] => { results := [.lit (.bool false)], args := [d1, d2, d3] }
  | _ => none }
def FnExactBelowWrongFalsely : Prop := fnExactBelowRow.holds Try.pinned (OpenSpec.ofChange fnExactBelowWrong)

/-- 'laws.FnExactApart': WHATEVER THE INPUT: true; the input reads as it did. -/
def fnExactApartSpec : ChangeSpec := { name := "fnExactApart", fn := fun _ => fun
  | [d1, d2, d3] => { results := [.lit (.bool true)], args := [d1, d2, d3] }
  | _ => none }
def fnExactApartRow : OpenClaim := { program := "ytdfbkadlhnlfhaa", sum := "d305e44e993986208b976244eaf8aa170a6af89914dd8bce1cba44c49007a3a0", func := "loop.example/dominotilings/laws.FnExactApart", spec := "fnExactApart", unfollowed := true, recurses := true, apart := false }
def FnExactApartSaid : Prop := fnExactApartRow.holds Try.pinned (OpenSpec.ofChange fnExactApartSpec)

/-- ITS FALSE NEIGHBOUR: 'it returns false'. Refute it at one input. -/
def fnExactApartWrong : ChangeSpec := { name := "fnExactApart", fn := fun _ => fun
  | [d1, d2, d3] => { results := [.lit (.bool false)], args := [d1, d2, d3] }
  | _ => none }
def FnExactApartWrongFalsely : Prop := fnExactApartRow.holds Try.pinned (OpenSpec.ofChange fnExactApartWrong)

/-- 'laws.FnExactTilingLow': WHATEVER THE INPUT: true; the input reads as it did. -/
def fnExactTilingLowSpec : ChangeSpec := { name := "fnExactTilingLow", fn := fun _ => fun
  | [d1, d2, d3] => { results := [.lit (.bool true)], args := [d1, d2, d3] }
  | _ => none }
def fnExactTilingLowRow : OpenClaim := { program := "ytdfbkadlhnlfhaa", sum := "d305e44e993986208b976244eaf8aa170a6af89914dd8bce1cba44c49007a3a0", func := "loop.example/dominotilings/laws.FnExactTilingLow", spec := "fnExactTilingLow", unfollowed := true, recurses := true, apart := false }
def FnExactTilingLowSaid : Prop := fnExactTilingLowRow.holds Try.pinned (OpenSpec.ofChange fnExactTilingLowSpec)

/-- ITS FALSE NEIGHBOUR: 'it returns false'. Refute it at one input. -/
def fnExactTilingLowWrong : ChangeSpec := { name := "fnExactTilingLow", fn := fun _ => fun
  | [d1, d2, d3] => { results := [.lit (.bool false)], args := [d1, d2, d3] }
  | _ => none }
def FnExactTilingLowWrongFalsely : Prop := fnExactTilingLowRow.holds Try.pinned (OpenSpec.ofChange fnExactTilingLowWrong)

/-- 'laws.FnExactTilingHigh': WHATEVER THE INPUT: true; the input reads as it did. -/
def fnExactTilingHighSpec : ChangeSpec := { name := "fnExactTilingHigh", fn := fun _ => fun
  | [d1, d2, d3] => { results := [.lit (.bool true)], args := [d1, d2, d3] }
  | _ => none }
def fnExactTilingHighRow : OpenClaim := { program := "ytdfbkadlhnlfhaa", sum := "d305e44e993986208b976244eaf8aa170a6af89914dd8bce1cba44c49007a3a0", func := "loop.example/dominotilings/laws.FnExactTilingHigh", spec := "fnExactTilingHigh", unfollowed := true, recurses := true, apart := false }
def FnExactTilingHighSaid : Prop := fnExactTilingHighRow.holds Try.pinned (OpenSpec.ofChange fnExactTilingHighSpec)

/-- ITS FALSE NEIGHBOUR: 'it returns false'. Refute it at one input. -/
def fnExactTilingHighWrong : ChangeSpec := { name := "fnExactTilingHigh", fn := fun _ => fun
  | [d1, d2, d3] => { results := [.lit (.bool false)], args := [d1, d2, d3] }
  | _ => none }
def FnExactTilingHighWrongFalsely : Prop := fnExactTilingHighRow.holds Try.pinned (OpenSpec.ofChange fnExactTilingHighWrong)

/- THE SECOND FORM. 'bulk': how many values and letters a reading holds, each counted each time it is reached (what is shared counts as often as it is met; a slice's spare places count too). A statement '..UptoSaid' is the law's where the arguments, and the package variables that the reading takes, are together of bulk at most 1048576: NARROWER than '..Said'. Prove '..Said' where nothing that the law and all that it calls make is longer than what came in: it says more and counts as full. Else prove '..UptoSaid'. A law counts once. -/
mutual
def uptoBulk {H : Type} : DataW H → Nat
  | .lit (.string bytes) => bytes.length + 1
  | .lit _ => 1
  | .nil => 1
  | .ptr d => uptoBulk d + 1
  | .slice elems spare => uptoBulkAll elems + uptoBulkAll spare + 1
  | .agg parts => uptoBulkAll parts + 1
  | .iface _ d => uptoBulk d + 1
  | .map entries => uptoBulkEntries entries + 1
  | .held _ => 1
def uptoBulkAll {H : Type} : List (DataW H) → Nat
  | [] => 0
  | d :: r => uptoBulk d + uptoBulkAll r
def uptoBulkEntries {H : Type} : List (Lit × DataW H) → Nat
  | [] => 0
  | x :: r => uptoBulkEntry x + uptoBulkEntries r
def uptoBulkEntry {H : Type} : Lit × DataW H → Nat
  | (.string bytes, d) => bytes.length + uptoBulk d + 1
  | (_, d) => uptoBulk d + 1
 end
def uptoSmall : (H : Type) → List (DataW H) → Bool := fun _ ds => decide (uptoBulkAll ds ≤ 1048576)
def OpenSpec.upto (s : _root_.Go.ChangeSpec) : _root_.Go.OpenSpec := { _root_.Go.OpenSpec.ofChange s with cond := some uptoSmall }

/-- 'laws.FnExactHeightsOf', WHERE WHAT IT READS IS OF BULK AT MOST 1048576: true; the input reads as it did. -/
def fnExactHeightsOfUptoRow : OpenClaim := { program := "ytdfbkadlhnlfhaa", sum := "d305e44e993986208b976244eaf8aa170a6af89914dd8bce1cba44c49007a3a0", func := "loop.example/dominotilings/laws.FnExactHeightsOf", spec := "fnExactHeightsOf", unfollowed := true, recurses := true, apart := false, narrowed := true }
def FnExactHeightsOfUptoSaid : Prop := fnExactHeightsOfUptoRow.holds Try.pinned (OpenSpec.upto fnExactHeightsOfSpec)

/-- 'laws.FnExactHeightsOk', WHERE WHAT IT READS IS OF BULK AT MOST 1048576: true; the input reads as it did. -/
def fnExactHeightsOkUptoRow : OpenClaim := { program := "ytdfbkadlhnlfhaa", sum := "d305e44e993986208b976244eaf8aa170a6af89914dd8bce1cba44c49007a3a0", func := "loop.example/dominotilings/laws.FnExactHeightsOk", spec := "fnExactHeightsOk", apart := false, narrowed := true }
def FnExactHeightsOkUptoSaid : Prop := fnExactHeightsOkUptoRow.holds Try.pinned (OpenSpec.upto fnExactHeightsOkSpec)

/-- 'laws.FnExactTilingBy', WHERE WHAT IT READS IS OF BULK AT MOST 1048576: true; the input reads as it did. -/
def fnExactTilingByUptoRow : OpenClaim := { program := "ytdfbkadlhnlfhaa", sum := "d305e44e993986208b976244eaf8aa170a6af89914dd8bce1cba44c49007a3a0", func := "loop.example/dominotilings/laws.FnExactTilingBy", spec := "fnExactTilingBy", apart := false, narrowed := true }
def FnExactTilingByUptoSaid : Prop := fnExactTilingByUptoRow.holds Try.pinned (OpenSpec.upto fnExactTilingBySpec)

/-- 'laws.FnExactHeightsLow', WHERE WHAT IT READS IS OF BULK AT MOST 1048576: true; the input reads as it did. -/
def fnExactHeightsLowUptoRow : OpenClaim := { program := "ytdfbkadlhnlfhaa", sum := "d305e44e993986208b976244eaf8aa170a6af89914dd8bce1cba44c49007a3a0", func := "loop.example/dominotilings/laws.FnExactHeightsLow", spec := "fnExactHeightsLow", apart := false, narrowed := true }
def FnExactHeightsLowUptoSaid : Prop := fnExactHeightsLowUptoRow.holds Try.pinned (OpenSpec.upto fnExactHeightsLowSpec)

/-- 'laws.FnExactHeightsHigh', WHERE WHAT IT READS IS OF BULK AT MOST 1048576: true; the input reads as it did. -/
def fnExactHeightsHighUptoRow : OpenClaim := { program := "ytdfbkadlhnlfhaa", sum := "d305e44e993986208b976244eaf8aa170a6af89914dd8bce1cba44c49007a3a0", func := "loop.example/dominotilings/laws.FnExactHeightsHigh", spec := "fnExactHeightsHigh", apart := false, narrowed := true }
def FnExactHeightsHighUptoSaid : Prop := fnExactHeightsHighUptoRow.holds Try.pinned (OpenSpec.upto fnExactHeightsHighSpec)

/-- 'laws.FnExactBelow', WHERE WHAT IT READS IS OF BULK AT MOST 1048576: true; the input reads as it did. -/
def fnExactBelowUptoRow : OpenClaim := { program := "ytdfbkadlhnlfhaa", sum := "d305e44e993986208b976244eaf8aa170a6af89914dd8bce1cba44c49007a3a0", func := "loop.example/dominotilings/laws.FnExactBelow", spec := "fnExactBelow", unfollowed := true, recurses := true, apart := false, narrowed := true }
def FnExactBelowUptoSaid : Prop := fnExactBelowUptoRow.holds Try.pinned (OpenSpec.upto fnExactBelowSpec)

/-- 'laws.FnExactApart', WHERE WHAT IT READS IS OF BULK AT MOST 1048576: true; the input reads as it did. -/
def fnExactApartUptoRow : OpenClaim := { program := "ytdfbkadlhnlfhaa", sum := "d305e44e993986208b976244eaf8aa170a6af89914dd8bce1cba44c49007a3a0", func := "loop.example/dominotilings/laws.FnExactApart", spec := "fnExactApart", unfollowed := true, recurses := true, apart := false, narrowed := true }
def FnExactApartUptoSaid : Prop := fnExactApartUptoRow.holds Try.pinned (OpenSpec.upto fnExactApartSpec)

/-- 'laws.FnExactTilingLow', WHERE WHAT IT READS IS OF BULK AT MOST 1048576: true; the input reads as it did. -/
def fnExactTilingLowUptoRow : OpenClaim := { program := "ytdfbkadlhnlfhaa", sum := "d305e44e993986208b976244eaf8aa170a6af89914dd8bce1cba44c49007a3a0", func := "loop.example/dominotilings/laws.FnExactTilingLow", spec := "fnExactTilingLow", unfollowed := true, recurses := true, apart := false, narrowed := true }
def FnExactTilingLowUptoSaid : Prop := fnExactTilingLowUptoRow.holds Try.pinned (OpenSpec.upto fnExactTilingLowSpec)

/-- 'laws.FnExactTilingHigh', WHERE WHAT IT READS IS OF BULK AT MOST 1048576: true; the input reads as it did. -/
def fnExactTilingHighUptoRow : OpenClaim := { program := "ytdfbkadlhnlfhaa", sum := "d305e44e993986208b976244eaf8aa170a6af89914dd8bce1cba44c49007a3a0", func := "loop.example/dominotilings/laws.FnExactTilingHigh", spec := "fnExactTilingHigh", unfollowed := true, recurses := true, apart := false, narrowed := true }
def FnExactTilingHighUptoSaid : Prop := fnExactTilingHighUptoRow.holds Try.pinned (OpenSpec.upto fnExactTilingHighSpec)

end Rows
end Go.Proofs.Ytdfbkadlhnlfhaa
