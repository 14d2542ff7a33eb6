/-
  No cell of these rows narrows 'for every input' (looked for: loops, veiled, ifaces, maps, wideKeys, modest, calm, conditions, laid).
  DERIVED. THE GIVEN ROWS OF THIS SEAT. 7 by the template 'for every input the law returns true; each argument reads behind the call as it read before'; 0 by the template 'total and deterministic' (their statements: YtpcajacekmidbaaTotals.lean).
  GIVEN WITH THE SEED: the statements are not yours to turn. If you find one false, say at which input.
  Laid BY PROGRAM, IN A SANDBOX (cutbox-rows.mjs): the forced cells as the released guide's own fill.sh prints them over the translation b0d8c3fda5518728… (all of the seat's roots in one cut). By AI agents, Wed Nov 11 2026. No macro, syntax, notation, axiom, sorry.
-/
import Derived.Test.YtpcajacekmidbaaChecked
import GoSem.Claim
import GoSem.ClaimJoined
import GoSem.ClaimMapViews
import Derived.JoinedTies
import Derived.KernelRfl
namespace Go.Proofs.Ytpcajacekmidbaa
/- THE CELL 'sum', in the pinned program and in every row, IS THE sha256 OF THE DUMP (.gsa) THAT YtpcajacekmidbaaProg.lean LOADS. Nothing in Lean hashes anything: it is a label: what it is worth is what the hold of that sum in a sandbox is worth. -/
noncomputable def Try.pinned : Pinned := { name := "ytpcajacekmidbaa", sum := "b0d8c3fda5518728ebfae8d07d340e216b034b8334414ad9f8d78e901e5351dd", checked := Try.checked }
namespace Rows
def none {H : Type} : Left H := { results := [], args := [] }

/-- 'laws.FnPuzzleValid': WHATEVER THE INPUT: true; the input reads as it did. -/
def fnPuzzleValidSpec : ChangeSpec := { name := "fnPuzzleValid", fn := fun _ => fun
  | [d] => { results := [.lit (.bool true)], args := [d] }
  | _ => none }
def fnPuzzleValidRow : OpenClaim := { program := "ytpcajacekmidbaa", sum := "b0d8c3fda5518728ebfae8d07d340e216b034b8334414ad9f8d78e901e5351dd", func := "loop.example/dominotilings/laws.FnPuzzleValid", spec := "fnPuzzleValid", apart := false }
def FnPuzzleValidSaid : Prop := fnPuzzleValidRow.holds Try.pinned (OpenSpec.ofChange fnPuzzleValidSpec)

/-- ITS FALSE NEIGHBOUR: 'it returns false'. Refute it at one input. -/
def fnPuzzleValidWrong : ChangeSpec := { name := "fnPuzzleValid", fn := fun _ => fun
  | [d] => { results := [.lit (.bool false)], args := [d] }
  | _ => none }
def FnPuzzleValidWrongFalsely : Prop := fnPuzzleValidRow.holds Try.pinned (OpenSpec.ofChange fnPuzzleValidWrong)

/-- 'laws.FnPairsOf': WHATEVER THE INPUT: true; the input reads as it did. -/
def fnPairsOfSpec : ChangeSpec := { name := "fnPairsOf", fn := fun _ => fun
  | [d] => { results := [.lit (.bool true)], args := [d] }
  | _ => none }
def fnPairsOfRow : OpenClaim := { program := "ytpcajacekmidbaa", sum := "b0d8c3fda5518728ebfae8d07d340e216b034b8334414ad9f8d78e901e5351dd", func := "loop.example/dominotilings/laws.FnPairsOf", spec := "fnPairsOf", recurses := true, apart := false }
def FnPairsOfSaid : Prop := fnPairsOfRow.holds Try.pinned (OpenSpec.ofChange fnPairsOfSpec)

/-- ITS FALSE NEIGHBOUR: 'it returns false'. Refute it at one input. -/
def fnPairsOfWrong : ChangeSpec := { name := "fnPairsOf", fn := fun _ => fun
  | [d] => { results := [.lit (.bool false)], args := [d] }
  | _ => none }
def FnPairsOfWrongFalsely : Prop := fnPairsOfRow.holds Try.pinned (OpenSpec.ofChange fnPairsOfWrong)

/-- 'laws.FnFairOk': WHATEVER THE INPUT: true; the input reads as it did. -/
def fnFairOkSpec : ChangeSpec := { name := "fnFairOk", fn := fun _ => fun
  | [d] => { results := [.lit (.bool true)], args := [d] }
  | _ => none }
def fnFairOkRow : OpenClaim := { program := "ytpcajacekmidbaa", sum := "b0d8c3fda5518728ebfae8d07d340e216b034b8334414ad9f8d78e901e5351dd", func := "loop.example/dominotilings/laws.FnFairOk", spec := "fnFairOk", recurses := true, apart := false }
def FnFairOkSaid : Prop := fnFairOkRow.holds Try.pinned (OpenSpec.ofChange fnFairOkSpec)

/-- ITS FALSE NEIGHBOUR: 'it returns false'. Refute it at one input. -/
def fnFairOkWrong : ChangeSpec := { name := "fnFairOk", fn := fun _ => fun
  | [d] => { results := [.lit (.bool false)], args := [d] }
  | _ => none }
def FnFairOkWrongFalsely : Prop := fnFairOkRow.holds Try.pinned (OpenSpec.ofChange fnFairOkWrong)

/-- 'laws.FnExactDownAll': WHATEVER THE INPUT: true; the input reads as it did. -/
def fnExactDownAllSpec : ChangeSpec := { name := "fnExactDownAll", fn := fun _ => fun
  | [d1, d2] => { results := [.lit (.bool true)], args := [d1, d2] }
  | _ => none }
def fnExactDownAllRow : OpenClaim := { program := "ytpcajacekmidbaa", sum := "b0d8c3fda5518728ebfae8d07d340e216b034b8334414ad9f8d78e901e5351dd", func := "loop.example/dominotilings/laws.FnExactDownAll", spec := "fnExactDownAll", unfollowed := true, recurses := true, apart := false }
def FnExactDownAllSaid : Prop := fnExactDownAllRow.holds Try.pinned (OpenSpec.ofChange fnExactDownAllSpec)

/-- ITS FALSE NEIGHBOUR: 'it returns false'. Refute it at one input. -/
def fnExactDownAllWrong : ChangeSpec := { name := "fnExactDownAll", fn := fun _ => fun
  | [d1, d2] => { results := [.lit (.bool false)], args := [d1, d2] }
  | _ => none }
def FnExactDownAllWrongFalsely : Prop := fnExactDownAllRow.holds Try.pinned (OpenSpec.ofChange fnExactDownAllWrong)

/-- 'laws.FnFrozen': WHATEVER THE INPUT: true; the input reads as it did. -/
def fnFrozenSpec : ChangeSpec := { name := "fnFrozen", fn := fun _ => fun
  | [d] => { results := [.lit (.bool true)], args := [d] }
  | _ => none }
def fnFrozenRow : OpenClaim := { program := "ytpcajacekmidbaa", sum := "b0d8c3fda5518728ebfae8d07d340e216b034b8334414ad9f8d78e901e5351dd", func := "loop.example/dominotilings/laws.FnFrozen", spec := "fnFrozen", unfollowed := true, recurses := true, apart := false }
def FnFrozenSaid : Prop := fnFrozenRow.holds Try.pinned (OpenSpec.ofChange fnFrozenSpec)

/-- ITS FALSE NEIGHBOUR: 'it returns false'. Refute it at one input. -/
def fnFrozenWrong : ChangeSpec := { name := "fnFrozen", fn := fun _ => fun
  | [d] => { results := [.lit (.bool false)], args := [d] }
  | _ => none }
def FnFrozenWrongFalsely : Prop := fnFrozenRow.holds Try.pinned (OpenSpec.ofChange fnFrozenWrong)

/-- 'laws.FnExactFlipWay': WHATEVER THE INPUT: true; the input reads as it did. -/
def fnExactFlipWaySpec : ChangeSpec := { name := "fnExactFlipWay", fn := fun _ => fun
  | [d1, d2, d3] => { results := [.lit (.bool true)], args := [d1, d2, d3] }
  | _ => none }
def fnExactFlipWayRow : OpenClaim := { program := "ytpcajacekmidbaa", sum := "b0d8c3fda5518728ebfae8d07d340e216b034b8334414ad9f8d78e901e5351dd", func := "loop.example/dominotilings/laws.FnExactFlipWay", spec := "fnExactFlipWay", unfollowed := true, recurses := true, apart := false }
def FnExactFlipWaySaid : Prop := fnExactFlipWayRow.holds Try.pinned (OpenSpec.ofChange fnExactFlipWaySpec)

/-- ITS FALSE NEIGHBOUR: 'it returns false'. Refute it at one input. -/
def fnExactFlipWayWrong : ChangeSpec := { name := "fnExactFlipWay", fn := fun _ => fun
  | [d1, d2, d3] => { results := [.lit (.bool false)], args := [d1, d2, d3] }
  | _ => none }
def FnExactFlipWayWrongFalsely : Prop := fnExactFlipWayRow.holds Try.pinned (OpenSpec.ofChange fnExactFlipWayWrong)

/-- 'laws.FnFlipWay': WHATEVER THE INPUT: true; the input reads as it did. -/
def fnFlipWaySpec : ChangeSpec := { name := "fnFlipWay", fn := fun _ => fun
  | [d] => { results := [.lit (.bool true)], args := [d] }
  | _ => none }
def fnFlipWayRow : OpenClaim := { program := "ytpcajacekmidbaa", sum := "b0d8c3fda5518728ebfae8d07d340e216b034b8334414ad9f8d78e901e5351dd", func := "loop.example/dominotilings/laws.FnFlipWay", spec := "fnFlipWay", unfollowed := true, recurses := true, apart := false }
def FnFlipWaySaid : Prop := fnFlipWayRow.holds Try.pinned (OpenSpec.ofChange fnFlipWaySpec)

/-- ITS FALSE NEIGHBOUR: 'it returns false'. Refute it at one input. -/
def fnFlipWayWrong : ChangeSpec := { name := "fnFlipWay", fn := fun _ => fun
  | [d] => { results := [.lit (.bool false)], args := [d] }
  | _ => none }
def FnFlipWayWrongFalsely : Prop := fnFlipWayRow.holds Try.pinned (OpenSpec.ofChange fnFlipWayWrong)

/- THE SECOND FORM. 'bulk': how many values and letters a reading holds, each counted each time it is reached (what is shared counts as often as it is met; a slice's spare places count too). A statement '..UptoSaid' is the law's where the arguments, and the package variables that the reading takes, are together of bulk at most 1048576: NARROWER than '..Said'. Prove '..Said' where nothing that the law and all that it calls make is longer than what came in: it says more and counts as full. Else prove '..UptoSaid'. A law counts once. -/
mutual
def uptoBulk {H : Type} : DataW H → Nat
  | .lit (.string bytes) => bytes.length + 1
  | .lit _ => 1
  | .nil => 1
  | .ptr d => uptoBulk d + 1
  | .slice elems spare => uptoBulkAll elems + uptoBulkAll spare + 1
  | .agg parts => uptoBulkAll parts + 1
  | .iface _ d => uptoBulk d + 1
  | .map entries => uptoBulkEntries entries + 1
  | .held _ => 1
def uptoBulkAll {H : Type} : List (DataW H) → Nat
  | [] => 0
  | d :: r => uptoBulk d + uptoBulkAll r
def uptoBulkEntries {H : Type} : List (Lit × DataW H) → Nat
  | [] => 0
  | x :: r => uptoBulkEntry x + uptoBulkEntries r
def uptoBulkEntry {H : Type} : Lit × DataW H → Nat
  | (.string bytes, d) => bytes.length + uptoBulk d + 1
  | (_, d) => uptoBulk d + 1
 end
def uptoSmall : (H : Type) → List (DataW H) → Bool := fun _ ds => decide (uptoBulkAll ds ≤ 1048576)
def OpenSpec.upto (s : _root_.Go.ChangeSpec) : _root_.Go.OpenSpec := { _root_.Go.OpenSpec.ofChange s with cond := some uptoSmall }

/-- 'laws.FnPuzzleValid', WHERE WHAT IT READS IS OF BULK AT MOST 1048576: true; the input reads as it did. -/
def fnPuzzleValidUptoRow : OpenClaim := { program := "ytpcajacekmidbaa", sum := "b0d8c3fda5518728ebfae8d07d340e216b034b8334414ad9f8d78e901e5351dd", func := "loop.example/dominotilings/laws.FnPuzzleValid", spec := "fnPuzzleValid", apart := false, narrowed := true }
def FnPuzzleValidUptoSaid : Prop := fnPuzzleValidUptoRow.holds Try.pinned (OpenSpec.upto fnPuzzleValidSpec)

/-- 'laws.FnPairsOf', WHERE WHAT IT READS IS OF BULK AT MOST 1048576: true; the input reads as it did. -/
def fnPairsOfUptoRow : OpenClaim := { program := "ytpcajacekmidbaa", sum := "b0d8c3fda5518728ebfae8d07d340e216b034b8334414ad9f8d78e901e5351dd", func := "loop.example/dominotilings/laws.FnPairsOf", spec := "fnPairsOf", recurses := true, apart := false, narrowed := true }
def FnPairsOfUptoSaid : Prop := fnPairsOfUptoRow.holds Try.pinned (OpenSpec.upto fnPairsOfSpec)

/-- 'laws.FnFairOk', WHERE WHAT IT READS IS OF BULK AT MOST 1048576: true; the input reads as it did. -/
def fnFairOkUptoRow : OpenClaim := { program := "ytpcajacekmidbaa", sum := "b0d8c3fda5518728ebfae8d07d340e216b034b8334414ad9f8d78e901e5351dd", func := "loop.example/dominotilings/laws.FnFairOk", spec := "fnFairOk", recurses := true, apart := false, narrowed := true }
def FnFairOkUptoSaid : Prop := fnFairOkUptoRow.holds Try.pinned (OpenSpec.upto fnFairOkSpec)

/-- 'laws.FnExactDownAll', WHERE WHAT IT READS IS OF BULK AT MOST 1048576: true; the input reads as it did. -/
def fnExactDownAllUptoRow : OpenClaim := { program := "ytpcajacekmidbaa", sum := "b0d8c3fda5518728ebfae8d07d340e216b034b8334414ad9f8d78e901e5351dd", func := "loop.example/dominotilings/laws.FnExactDownAll", spec := "fnExactDownAll", unfollowed := true, recurses := true, apart := false, narrowed := true }
def FnExactDownAllUptoSaid : Prop := fnExactDownAllUptoRow.holds Try.pinned (OpenSpec.upto fnExactDownAllSpec)

/-- 'laws.FnFrozen', WHERE WHAT IT READS IS OF BULK AT MOST 1048576: true; the input reads as it did. -/
def fnFrozenUptoRow : OpenClaim := { program := "ytpcajacekmidbaa", sum := "b0d8c3fda5518728ebfae8d07d340e216b034b8334414ad9f8d78e901e5351dd", func := "loop.example/dominotilings/laws.FnFrozen", spec := "fnFrozen", unfollowed := true, recurses := true, apart := false, narrowed := true }
def FnFrozenUptoSaid : Prop := fnFrozenUptoRow.holds Try.pinned (OpenSpec.upto fnFrozenSpec)

/-- 'laws.FnExactFlipWay', WHERE WHAT IT READS IS OF BULK AT MOST 1048576: true; the input reads as it did. -/
def fnExactFlipWayUptoRow : OpenClaim := { program := "ytpcajacekmidbaa", sum := "b0d8c3fda5518728ebfae8d07d340e216b034b8334414ad9f8d78e901e5351dd", func := "loop.example/dominotilings/laws.FnExactFlipWay", spec := "fnExactFlipWay", unfollowed := true, recurses := true, apart := false, narrowed := true }
def FnExactFlipWayUptoSaid : Prop := fnExactFlipWayUptoRow.holds Try.pinned (OpenSpec.upto fnExactFlipWaySpec)

/-- 'laws.FnFlipWay', WHERE WHAT IT READS IS OF BULK AT MOST 1048576: true; the input reads as it did. -/
def fnFlipWayUptoRow : OpenClaim := { program := "ytpcajacekmidbaa", sum := "b0d8c3fda5518728ebfae8d07d340e216b034b8334414ad9f8d78e901e5351dd", func := "loop.example/dominotilings/laws.FnFlipWay", spec := "fnFlipWay", unfollowed := true, recurses := true, apart := false, narrowed := true }
def FnFlipWayUptoSaid : Prop := fnFlipWayUptoRow.holds Try.pinned (OpenSpec.upto fnFlipWaySpec)

end Rows
end Go.Proofs.Ytpcajacekmidbaa
