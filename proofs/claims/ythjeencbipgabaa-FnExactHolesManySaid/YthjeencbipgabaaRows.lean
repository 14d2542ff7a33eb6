/-
  No cell of these rows narrows 'for every input' (looked for: loops, veiled, ifaces, maps, wideKeys, modest, calm, conditions, laid).
  DERIVED. THE GIVEN ROWS OF THIS SEAT. 6 by the template 'for every input the law returns true; each argument reads behind the call as it read before'; 0 by the template 'total and deterministic' (their statements: YthjeencbipgabaaTotals.lean).
  GIVEN WITH THE SEED: the statements are not yours to turn. If you find one false, say at which input.
  Laid BY PROGRAM, IN A SANDBOX (cutbox-rows.mjs): the forced cells as the released guide's own fill.sh prints them over the translation 1c916d14359ade2c… (all of the seat's roots in one cut). By AI agents, Wed Nov 11 2026. No macro, syntax, notation, axiom, sorry.
-/
import Derived.Test.YthjeencbipgabaaChecked
import GoSem.Claim
import GoSem.ClaimJoined
import GoSem.ClaimMapViews
import Derived.JoinedTies
import Derived.KernelRfl
namespace Go.Proofs.Ythjeencbipgabaa
/- THE CELL 'sum', in the pinned program and in every row, IS THE sha256 OF THE DUMP (.gsa) THAT YthjeencbipgabaaProg.lean LOADS. Nothing in Lean hashes anything: it is a label: what it is worth is what the hold of that sum in a sandbox is worth. -/
noncomputable def Try.pinned : Pinned := { name := "ythjeencbipgabaa", sum := "1c916d14359ade2c45c2b9bf02f4c6e8512960f826f51a8352307ba78d935d42", checked := Try.checked }
namespace Rows
def none {H : Type} : Left H := { results := [], args := [] }

/-- 'laws.FnExactPartsOf': WHATEVER THE INPUT: true; the input reads as it did. -/
def fnExactPartsOfSpec : ChangeSpec := { name := "fnExactPartsOf", fn := fun _ => fun
  | [d] => { results := [.lit (.bool true)], args := [d] }
  | _ => none }
def fnExactPartsOfRow : OpenClaim := { program := "ythjeencbipgabaa", sum := "1c916d14359ade2c45c2b9bf02f4c6e8512960f826f51a8352307ba78d935d42", func := "loop.example/dominotilings/laws.FnExactPartsOf", spec := "fnExactPartsOf", apart := false }
def FnExactPartsOfSaid : Prop := fnExactPartsOfRow.holds Try.pinned (OpenSpec.ofChange fnExactPartsOfSpec)

/-- ITS FALSE NEIGHBOUR: 'it returns false'. Refute it at one input. -/
def fnExactPartsOfWrong : ChangeSpec := { name := "fnExactPartsOf", fn := fun _ => fun
  | [d] => { results := [.lit (.bool false)], args := [d] }
  | _ => none }
def FnExactPartsOfWrongFalsely : Prop := fnExactPartsOfRow.holds Try.pinned (OpenSpec.ofChange fnExactPartsOfWrong)

/-- 'laws.FnExactPartsMany': WHATEVER THE INPUT: true; the input reads as it did. -/
def fnExactPartsManySpec : ChangeSpec := { name := "fnExactPartsMany", fn := fun _ => fun
  | [d] => { results := [.lit (.bool true)], args := [d] }
  | _ => none }
def fnExactPartsManyRow : OpenClaim := { program := "ythjeencbipgabaa", sum := "1c916d14359ade2c45c2b9bf02f4c6e8512960f826f51a8352307ba78d935d42", func := "loop.example/dominotilings/laws.FnExactPartsMany", spec := "fnExactPartsMany", apart := false }
def FnExactPartsManySaid : Prop := fnExactPartsManyRow.holds Try.pinned (OpenSpec.ofChange fnExactPartsManySpec)

/-- ITS FALSE NEIGHBOUR: 'it returns false'. Refute it at one input. -/
def fnExactPartsManyWrong : ChangeSpec := { name := "fnExactPartsMany", fn := fun _ => fun
  | [d] => { results := [.lit (.bool false)], args := [d] }
  | _ => none }
def FnExactPartsManyWrongFalsely : Prop := fnExactPartsManyRow.holds Try.pinned (OpenSpec.ofChange fnExactPartsManyWrong)

/-- 'laws.FnExactHolesMany': WHATEVER THE INPUT: true; the input reads as it did. -/
def fnExactHolesManySpec : ChangeSpec := { name := "fnExactHolesMany", fn := fun _ => fun
  | [d] => { results := [.lit (.bool true)], args := [d] }
  | _ => none }
def fnExactHolesManyRow : OpenClaim := { program := "ythjeencbipgabaa", sum := "1c916d14359ade2c45c2b9bf02f4c6e8512960f826f51a8352307ba78d935d42", func := "loop.example/dominotilings/laws.FnExactHolesMany", spec := "fnExactHolesMany", apart := false }
def FnExactHolesManySaid : Prop := fnExactHolesManyRow.holds Try.pinned (OpenSpec.ofChange fnExactHolesManySpec)

/-- ITS FALSE NEIGHBOUR: 'it returns false'. Refute it at one input. -/
def fnExactHolesManyWrong : ChangeSpec := { name := "fnExactHolesMany", fn := fun _ => fun
  | [d] => { results := [.lit (.bool false)], args := [d] }
  | _ => none }
def FnExactHolesManyWrongFalsely : Prop := fnExactHolesManyRow.holds Try.pinned (OpenSpec.ofChange fnExactHolesManyWrong)

/-- 'laws.FnExactPartRegion': WHATEVER THE INPUT: true; the input reads as it did. -/
def fnExactPartRegionSpec : ChangeSpec := { name := "fnExactPartRegion", fn := fun _ => fun
  | [d1, d2] => { results := [.lit (.bool true)], args := [d1, d2] }
  | _ => none }
def fnExactPartRegionRow : OpenClaim := { program := "ythjeencbipgabaa", sum := "1c916d14359ade2c45c2b9bf02f4c6e8512960f826f51a8352307ba78d935d42", func := "loop.example/dominotilings/laws.FnExactPartRegion", spec := "fnExactPartRegion", apart := false }
def FnExactPartRegionSaid : Prop := fnExactPartRegionRow.holds Try.pinned (OpenSpec.ofChange fnExactPartRegionSpec)

/-- ITS FALSE NEIGHBOUR: 'it returns false'. Refute it at one input. -/
def fnExactPartRegionWrong : ChangeSpec := { name := "fnExactPartRegion", fn := fun _ => fun
  | [d1, d2] => { results := [.lit (.bool false)], args := [d1, d2] }
  | _ => none }
def FnExactPartRegionWrongFalsely : Prop := fnExactPartRegionRow.holds Try.pinned (OpenSpec.ofChange fnExactPartRegionWrong)

/-- 'laws.FnExactSimple': WHATEVER THE INPUT: true; the input reads as it did. -/
def fnExactSimpleSpec : ChangeSpec := { name := "fnExactSimple", fn := fun _ => fun
  | [d] => { results := [.lit (.bool true)], args := [d] }
  | _ => none }
def fnExactSimpleRow : OpenClaim := { program := "ythjeencbipgabaa", sum := "1c916d14359ade2c45c2b9bf02f4c6e8512960f826f51a8352307ba78d935d42", func := "loop.example/dominotilings/laws.FnExactSimple", spec := "fnExactSimple", apart := false }
def FnExactSimpleSaid : Prop := fnExactSimpleRow.holds Try.pinned (OpenSpec.ofChange fnExactSimpleSpec)

/-- ITS FALSE NEIGHBOUR: 'it returns false'. Refute it at one input. -/
def fnExactSimpleWrong : ChangeSpec := { name := "fnExactSimple", fn := fun _ => fun
  | [d] => { results := [.lit (.bool false)], args := [d] }
  | _ => none }
def FnExactSimpleWrongFalsely : Prop := fnExactSimpleRow.holds Try.pinned (OpenSpec.ofChange fnExactSimpleWrong)

/-- 'laws.FnExactCornerMany': WHATEVER THE INPUT: true; the input reads as it did. -/
def fnExactCornerManySpec : ChangeSpec := { name := "fnExactCornerMany", fn := fun _ => fun
  | [d] => { results := [.lit (.bool true)], args := [d] }
  | _ => none }
def fnExactCornerManyRow : OpenClaim := { program := "ythjeencbipgabaa", sum := "1c916d14359ade2c45c2b9bf02f4c6e8512960f826f51a8352307ba78d935d42", func := "loop.example/dominotilings/laws.FnExactCornerMany", spec := "fnExactCornerMany", apart := false }
def FnExactCornerManySaid : Prop := fnExactCornerManyRow.holds Try.pinned (OpenSpec.ofChange fnExactCornerManySpec)

/-- ITS FALSE NEIGHBOUR: 'it returns false'. Refute it at one input. -/
def fnExactCornerManyWrong : ChangeSpec := { name := "fnExactCornerMany", fn := fun _ => fun
  | [d] => { results := [.lit (.bool false)], args := [d] }
  | _ => none }
def FnExactCornerManyWrongFalsely : Prop := fnExactCornerManyRow.holds Try.pinned (OpenSpec.ofChange fnExactCornerManyWrong)

/- THE SECOND FORM. 'bulk': how many values and letters a reading holds, each counted each time it is reached (what is shared counts as often as it is met; a slice's spare places count too). A statement '..UptoSaid' is the law's where the arguments, and the package variables that the reading takes, are together of bulk at most 1048576: NARROWER than '..Said'. Prove '..Said' where nothing that the law and all that it calls make is longer than what came in: it says more and counts as full. Else prove '..UptoSaid'. A law counts once. -/
mutual
def uptoBulk {H : Type} : DataW H → Nat
  | .lit (.string bytes) => bytes.length + 1
  | .lit _ => 1
  | .nil => 1
  | .ptr d => uptoBulk d + 1
  | .slice elems spare => uptoBulkAll elems + uptoBulkAll spare + 1
  | .agg parts => uptoBulkAll parts + 1
  | .iface _ d => uptoBulk d + 1
  | .map entries => uptoBulkEntries entries + 1
  | .held _ => 1
def uptoBulkAll {H : Type} : List (DataW H) → Nat
  | [] => 0
  | d :: r => uptoBulk d + uptoBulkAll r
def uptoBulkEntries {H : Type} : List (Lit × DataW H) → Nat
  | [] => 0
  | x :: r => uptoBulkEntry x + uptoBulkEntries r
def uptoBulkEntry {H : Type} : Lit × DataW H → Nat
  | (.string bytes, d) => bytes.length + uptoBulk d + 1
  | (_, d) => uptoBulk d + 1
 end
def uptoSmall : (H : Type) → List (DataW H) → Bool := fun _ ds => decide (uptoBulkAll ds ≤ 1048576)
def OpenSpec.upto (s : _root_.Go.ChangeSpec) : _root_.Go.OpenSpec := { _root_.Go.OpenSpec.ofChange s with cond := some uptoSmall }

/-- 'laws.FnExactPartsOf', WHERE WHAT IT READS IS OF BULK AT MOST 1048576: true; the input reads as it did. -/
def fnExactPartsOfUptoRow : OpenClaim := { program := "ythjeencbipgabaa", sum := "1c916d14359ade2c45c2b9bf02f4c6e8512960f826f51a8352307ba78d935d42", func := "loop.example/dominotilings/laws.FnExactPartsOf", spec := "fnExactPartsOf", apart := false, narrowed := true }
def FnExactPartsOfUptoSaid : Prop := fnExactPartsOfUptoRow.holds Try.pinned (OpenSpec.upto fnExactPartsOfSpec)

/-- 'laws.FnExactPartsMany', WHERE WHAT IT READS IS OF BULK AT MOST 1048576: true; the input reads as it did. -/
def fnExactPartsManyUptoRow : OpenClaim := { program := "ythjeencbipgabaa", sum := "1c916d14359ade2c45c2b9bf02f4c6e8512960f826f51a8352307ba78d935d42", func := "loop.example/dominotilings/laws.FnExactPartsMany", spec := "fnExactPartsMany", apart := false, narrowed := true }
def FnExactPartsManyUptoSaid : Prop := fnExactPartsManyUptoRow.holds Try.pinned (OpenSpec.upto fnExactPartsManySpec)

/-- 'laws.FnExactHolesMany', WHERE WHAT IT READS IS OF BULK AT MOST 1048576: true; the input reads as it did. -/
def fnExactHolesManyUptoRow : OpenClaim := { program := "ythjeencbipgabaa", sum := "1c916d14359ade2c45c2b9bf02f4c6e8512960f826f51a8352307ba78d935d42", func := "loop.example/dominotilings/laws.FnExactHolesMany", spec := "fnExactHolesMany", apart := false, narrowed := true }
def FnExactHolesManyUptoSaid : Prop := fnExactHolesManyUptoRow.holds Try.pinned (OpenSpec.upto fnExactHolesManySpec)

/-- 'laws.FnExactPartRegion', WHERE WHAT IT READS IS OF BULK AT MOST 1048576: true; the input reads as it did. -/
def fnExactPartRegionUptoRow : OpenClaim := { program := "ythjeencbipgabaa", sum := "1c916d14359ade2c45c2b9bf02f4c6e8512960f826f51a8352307ba78d935d42", func := "loop.example/dominotilings/laws.FnExactPartRegion", spec := "fnExactPartRegion", apart := false, narrowed := true }
def FnExactPartRegionUptoSaid : Prop := fnExactPartRegionUptoRow.holds Try.pinned (OpenSpec.upto fnExactPartRegionSpec)

/-- 'laws.FnExactSimple', WHERE WHAT IT READS IS OF BULK AT MOST 1048576: true; the input reads as it did. -/
def fnExactSimpleUptoRow : OpenClaim := { program := "ythjeencbipgabaa", sum := "1c916d14359ade2c45c2b9bf02f4c6e8512960f826f51a8352307ba78d935d42", func := "loop.example/dominotilings/laws.FnExactSimple", spec := "fnExactSimple", apart := false, narrowed := true }
def FnExactSimpleUptoSaid : Prop := fnExactSimpleUptoRow.holds Try.pinned (OpenSpec.upto fnExactSimpleSpec)

/-- 'laws.FnExactCornerMany', WHERE WHAT IT READS IS OF BULK AT MOST 1048576: true; the input reads as it did. -/
def fnExactCornerManyUptoRow : OpenClaim := { program := "ythjeencbipgabaa", sum := "1c916d14359ade2c45c2b9bf02f4c6e8512960f826f51a8352307ba78d935d42", func := "loop.example/dominotilings/laws.FnExactCornerMany", spec := "fnExactCornerMany", apart := false, narrowed := true }
def FnExactCornerManyUptoSaid : Prop := fnExactCornerManyUptoRow.holds Try.pinned (OpenSpec.upto fnExactCornerManySpec)

end Rows
end Go.Proofs.Ythjeencbipgabaa
