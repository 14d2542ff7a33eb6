/-
  No cell of these rows narrows 'for every input' (looked for: loops, veiled, ifaces, maps, wideKeys, modest, calm, conditions, laid).
  DERIVED. THE GIVEN ROWS OF THIS SEAT. 8 by the template 'for every input the law returns true; each argument reads behind the call as it read before'; 0 by the template 'total and deterministic' (their statements: YthdojiaaoaiioaaTotals.lean).
  GIVEN WITH THE SEED: the statements are not yours to turn. If you find one false, say at which input.
  Laid BY PROGRAM, IN A SANDBOX (cutbox-rows.mjs): the forced cells as the released guide's own fill.sh prints them over the translation 128f1c089e5c616d… (all of the seat's roots in one cut). By AI agents, Wed Nov 11 2026. No macro, syntax, notation, axiom, sorry.
-/
import Derived.Test.YthdojiaaoaiioaaChecked
import GoSem.Claim
import GoSem.ClaimJoined
import GoSem.ClaimMapViews
import Derived.JoinedTies
import Derived.KernelRfl
namespace Go.Proofs.Ythdojiaaoaiioaa
/- THE CELL 'sum', in the pinned program and in every row, IS THE sha256 OF THE DUMP (.gsa) THAT YthdojiaaoaiioaaProg.lean LOADS. Nothing in Lean hashes anything: it is a label: what it is worth is what the hold of that sum in a sandbox is worth. -/
noncomputable def Try.pinned : Pinned := { name := "ythdojiaaoaiioaa", sum := "128f1c089e5c616de3402ff9be91c7ff9cb064b9a33b3df8564b65f2b63cb144", checked := Try.checked }
namespace Rows
def none {H : Type} : Left H := { results := [], args := [] }

/-- 'laws.FnLaidBare': WHATEVER THE INPUT: true; the input reads as it did. -/
def fnLaidBareSpec : ChangeSpec := { name := "fnLaidBare", fn := fun _ => fun
  | [d] => { results := [.lit (.bool true)], args := [d] }
  | _ => none }
def fnLaidBareRow : OpenClaim := { program := "ythdojiaaoaiioaa", sum := "128f1c089e5c616de3402ff9be91c7ff9cb064b9a33b3df8564b65f2b63cb144", func := "loop.example/dominotilings/laws.FnLaidBare", spec := "fnLaidBare", apart := false }
def FnLaidBareSaid : Prop := fnLaidBareRow.holds Try.pinned (OpenSpec.ofChange fnLaidBareSpec)

/-- ITS FALSE NEIGHBOUR: 'it returns false'. Refute it at one input. -/
def fnLaidBareWrong : ChangeSpec := { name := "fnLaidBare", fn := fun _ => fun
  | [d] => { results := [.lit (.bool false)], args := [d] }
  | _ => none }
def FnLaidBareWrongFalsely : Prop := fnLaidBareRow.holds Try.pinned (OpenSpec.ofChange fnLaidBareWrong)

/-- 'laws.FnTilingsWith': WHATEVER THE INPUT: true; the input reads as it did. -/
def fnTilingsWithSpec : ChangeSpec := { name := "fnTilingsWith", fn := fun _ => fun
  | [d] => { results := [.lit (.bool true)], args := [d] }
  | _ => none }
def fnTilingsWithRow : OpenClaim := { program := "ythdojiaaoaiioaa", sum := "128f1c089e5c616de3402ff9be91c7ff9cb064b9a33b3df8564b65f2b63cb144", func := "loop.example/dominotilings/laws.FnTilingsWith", spec := "fnTilingsWith", apart := false }
def FnTilingsWithSaid : Prop := fnTilingsWithRow.holds Try.pinned (OpenSpec.ofChange fnTilingsWithSpec)

/-- ITS FALSE NEIGHBOUR: 'it returns false'. Refute it at one input. -/
def fnTilingsWithWrong : ChangeSpec := { name := "fnTilingsWith", fn := fun _ => fun
  | [d] => { results := [.lit (.bool false)], args := [d] }
  | _ => none }
def FnTilingsWithWrongFalsely : Prop := fnTilingsWithRow.holds Try.pinned (OpenSpec.ofChange fnTilingsWithWrong)

/-- 'laws.FnLayOne': WHATEVER THE INPUT: true; the input reads as it did. -/
def fnLayOneSpec : ChangeSpec := { name := "fnLayOne", fn := fun _ => fun
  | [d] => { results := [.lit (.bool true)], args := [d] }
  | _ => none }
def fnLayOneRow : OpenClaim := { program := "ythdojiaaoaiioaa", sum := "128f1c089e5c616de3402ff9be91c7ff9cb064b9a33b3df8564b65f2b63cb144", func := "loop.example/dominotilings/laws.FnLayOne", spec := "fnLayOne", recurses := true, apart := false }
def FnLayOneSaid : Prop := fnLayOneRow.holds Try.pinned (OpenSpec.ofChange fnLayOneSpec)

/-- ITS FALSE NEIGHBOUR: 'it returns false'. Refute it at one input. -/
def fnLayOneWrong : ChangeSpec := { name := "fnLayOne", fn := fun _ => fun
  | [d] => { results := [.lit (.bool false)], args := [d] }
  | _ => none }
def FnLayOneWrongFalsely : Prop := fnLayOneRow.holds Try.pinned (OpenSpec.ofChange fnLayOneWrong)

/-- 'laws.FnLiftOne': WHATEVER THE INPUT: true; the input reads as it did. -/
def fnLiftOneSpec : ChangeSpec := { name := "fnLiftOne", fn := fun _ => fun
  | [d] => { results := [.lit (.bool true)], args := [d] }
  | _ => none }
def fnLiftOneRow : OpenClaim := { program := "ythdojiaaoaiioaa", sum := "128f1c089e5c616de3402ff9be91c7ff9cb064b9a33b3df8564b65f2b63cb144", func := "loop.example/dominotilings/laws.FnLiftOne", spec := "fnLiftOne", recurses := true, apart := false }
def FnLiftOneSaid : Prop := fnLiftOneRow.holds Try.pinned (OpenSpec.ofChange fnLiftOneSpec)

/-- ITS FALSE NEIGHBOUR: 'it returns false'. Refute it at one input. -/
def fnLiftOneWrong : ChangeSpec := { name := "fnLiftOne", fn := fun _ => fun
  | [d] => { results := [.lit (.bool false)], args := [d] }
  | _ => none }
def FnLiftOneWrongFalsely : Prop := fnLiftOneRow.holds Try.pinned (OpenSpec.ofChange fnLiftOneWrong)

/-- 'laws.FnLaidOk': WHATEVER THE INPUT: true; the input reads as it did. -/
def fnLaidOkSpec : ChangeSpec := { name := "fnLaidOk", fn := fun _ => fun
  | [d] => { results := [.lit (.bool true)], args := [d] }
  | _ => none }
def fnLaidOkRow : OpenClaim := { program := "ythdojiaaoaiioaa", sum := "128f1c089e5c616de3402ff9be91c7ff9cb064b9a33b3df8564b65f2b63cb144", func := "loop.example/dominotilings/laws.FnLaidOk", spec := "fnLaidOk", recurses := true, apart := false }
def FnLaidOkSaid : Prop := fnLaidOkRow.holds Try.pinned (OpenSpec.ofChange fnLaidOkSpec)

/-- ITS FALSE NEIGHBOUR: 'it returns false'. Refute it at one input. -/
def fnLaidOkWrong : ChangeSpec := { name := "fnLaidOk", fn := fun _ => fun
  | [d] => { results := [.lit (.bool false)], args := [d] }
  | _ => none }
def FnLaidOkWrongFalsely : Prop := fnLaidOkRow.holds Try.pinned (OpenSpec.ofChange fnLaidOkWrong)

/-- 'laws.FnLaidMany': WHATEVER THE INPUT: true; the input reads as it did. -/
def fnLaidManySpec : ChangeSpec := { name := "fnLaidMany", fn := fun _ => fun
  | [d] => { results := [.lit (.bool true)], args := [d] }
  | _ => none }
def fnLaidManyRow : OpenClaim := { program := "ythdojiaaoaiioaa", sum := "128f1c089e5c616de3402ff9be91c7ff9cb064b9a33b3df8564b65f2b63cb144", func := "loop.example/dominotilings/laws.FnLaidMany", spec := "fnLaidMany", recurses := true, apart := false }
def FnLaidManySaid : Prop := fnLaidManyRow.holds Try.pinned (OpenSpec.ofChange fnLaidManySpec)

/-- ITS FALSE NEIGHBOUR: 'it returns false'. Refute it at one input. -/
def fnLaidManyWrong : ChangeSpec := { name := "fnLaidMany", fn := fun _ => fun
  | [d] => { results := [.lit (.bool false)], args := [d] }
  | _ => none }
def FnLaidManyWrongFalsely : Prop := fnLaidManyRow.holds Try.pinned (OpenSpec.ofChange fnLaidManyWrong)

/-- 'laws.FnTilingTurn': WHATEVER THE INPUT: true; the input reads as it did. -/
def fnTilingTurnSpec : ChangeSpec := { name := "fnTilingTurn", fn := fun _ => fun
  | [d] => { results := [.lit (.bool true)], args := [d] }
  | _ => none }
def fnTilingTurnRow : OpenClaim := { program := "ythdojiaaoaiioaa", sum := "128f1c089e5c616de3402ff9be91c7ff9cb064b9a33b3df8564b65f2b63cb144", func := "loop.example/dominotilings/laws.FnTilingTurn", spec := "fnTilingTurn", recurses := true, apart := false }
def FnTilingTurnSaid : Prop := fnTilingTurnRow.holds Try.pinned (OpenSpec.ofChange fnTilingTurnSpec)

/-- ITS FALSE NEIGHBOUR: 'it returns false'. Refute it at one input. -/
def fnTilingTurnWrong : ChangeSpec := { name := "fnTilingTurn", fn := fun _ => fun
  | [d] => { results := [.lit (.bool false)], args := [d] }
  | _ => none }
def FnTilingTurnWrongFalsely : Prop := fnTilingTurnRow.holds Try.pinned (OpenSpec.ofChange fnTilingTurnWrong)

/-- 'laws.FnTilingFlip': WHATEVER THE INPUT: true; the input reads as it did. -/
def fnTilingFlipSpec : ChangeSpec := { name := "fnTilingFlip", fn := fun _ => fun
  | [d] => { results := [.lit (.bool true)], args := [d] }
  | _ => none }
def fnTilingFlipRow : OpenClaim := { program := "ythdojiaaoaiioaa", sum := "128f1c089e5c616de3402ff9be91c7ff9cb064b9a33b3df8564b65f2b63cb144", func := "loop.example/dominotilings/laws.FnTilingFlip", spec := "fnTilingFlip", recurses := true, apart := false }
def FnTilingFlipSaid : Prop := fnTilingFlipRow.holds Try.pinned (OpenSpec.ofChange fnTilingFlipSpec)

/-- ITS FALSE NEIGHBOUR: 'it returns false'. Refute it at one input. -/
def fnTilingFlipWrong : ChangeSpec := { name := "fnTilingFlip", fn := fun _ => fun
  | [d] => { results := [.lit (.bool false)], args := [d] }
  | _ => none }
def FnTilingFlipWrongFalsely : Prop := fnTilingFlipRow.holds Try.pinned (OpenSpec.ofChange fnTilingFlipWrong)

/- THE SECOND FORM. 'bulk': how many values and letters a reading holds, each counted each time it is reached (what is shared counts as often as it is met; a slice's spare places count too). A statement '..UptoSaid' is the law's where the arguments, and the package variables that the reading takes, are together of bulk at most 1048576: NARROWER than '..Said'. Prove '..Said' where nothing that the law and all that it calls make is longer than what came in: it says more and counts as full. Else prove '..UptoSaid'. A law counts once. -/
mutual
def uptoBulk {H : Type} : DataW H → Nat
  | .lit (.string bytes) => bytes.length + 1
  | .lit _ => 1
  | .nil => 1
  | .ptr d => uptoBulk d + 1
  | .slice elems spare => uptoBulkAll elems + uptoBulkAll spare + 1
  | .agg parts => uptoBulkAll parts + 1
  | .iface _ d => uptoBulk d + 1
  | .map entries => uptoBulkEntries entries + 1
  | .held _ => 1
def uptoBulkAll {H : Type} : List (DataW H) → Nat
  | [] => 0
  | d :: r => uptoBulk d + uptoBulkAll r
def uptoBulkEntries {H : Type} : List (Lit × DataW H) → Nat
  | [] => 0
  | x :: r => uptoBulkEntry x + uptoBulkEntries r
def uptoBulkEntry {H : Type} : Lit × DataW H → Nat
  | (.string bytes, d) => bytes.length + uptoBulk d + 1
  | (_, d) => uptoBulk d + 1
 end
def uptoSmall : (H : Type) → List (DataW H) → Bool := fun _ ds => decide (uptoBulkAll ds ≤ 1048576)
def OpenSpec.upto (s : _root_.Go.ChangeSpec) : _root_.Go.OpenSpec := { _root_.Go.OpenSpec.ofChange s with cond := some uptoSmall }

/-- 'laws.FnLaidBare', WHERE WHAT IT READS IS OF BULK AT MOST 1048576: true; the input reads as it did. -/
def fnLaidBareUptoRow : OpenClaim := { program := "ythdojiaaoaiioaa", sum := "128f1c089e5c616de3402ff9be91c7ff9cb064b9a33b3df8564b65f2b63cb144", func := "loop.example/dominotilings/laws.FnLaidBare", spec := "fnLaidBare", apart := false, narrowed := true }
def FnLaidBareUptoSaid : Prop := fnLaidBareUptoRow.holds Try.pinned (OpenSpec.upto fnLaidBareSpec)

/-- 'laws.FnTilingsWith', WHERE WHAT IT READS IS OF BULK AT MOST 1048576: true; the input reads as it did. -/
def fnTilingsWithUptoRow : OpenClaim := { program := "ythdojiaaoaiioaa", sum := "128f1c089e5c616de3402ff9be91c7ff9cb064b9a33b3df8564b65f2b63cb144", func := "loop.example/dominotilings/laws.FnTilingsWith", spec := "fnTilingsWith", apart := false, narrowed := true }
def FnTilingsWithUptoSaid : Prop := fnTilingsWithUptoRow.holds Try.pinned (OpenSpec.upto fnTilingsWithSpec)

/-- 'laws.FnLayOne', WHERE WHAT IT READS IS OF BULK AT MOST 1048576: true; the input reads as it did. -/
def fnLayOneUptoRow : OpenClaim := { program := "ythdojiaaoaiioaa", sum := "128f1c089e5c616de3402ff9be91c7ff9cb064b9a33b3df8564b65f2b63cb144", func := "loop.example/dominotilings/laws.FnLayOne", spec := "fnLayOne", recurses := true, apart := false, narrowed := true }
def FnLayOneUptoSaid : Prop := fnLayOneUptoRow.holds Try.pinned (OpenSpec.upto fnLayOneSpec)

/-- 'laws.FnLiftOne', WHERE WHAT IT READS IS OF BULK AT MOST 1048576: true; the input reads as it did. -/
def fnLiftOneUptoRow : OpenClaim := { program := "ythdojiaaoaiioaa", sum := "128f1c089e5c616de3402ff9be91c7ff9cb064b9a33b3df8564b65f2b63cb144", func := "loop.example/dominotilings/laws.FnLiftOne", spec := "fnLiftOne", recurses := true, apart := false, narrowed := true }
def FnLiftOneUptoSaid : Prop := fnLiftOneUptoRow.holds Try.pinned (OpenSpec.upto fnLiftOneSpec)

/-- 'laws.FnLaidOk', WHERE WHAT IT READS IS OF BULK AT MOST 1048576: true; the input reads as it did. -/
def fnLaidOkUptoRow : OpenClaim := { program := "ythdojiaaoaiioaa", sum := "128f1c089e5c616de3402ff9be91c7ff9cb064b9a33b3df8564b65f2b63cb144", func := "loop.example/dominotilings/laws.FnLaidOk", spec := "fnLaidOk", recurses := true, apart := false, narrowed := true }
def FnLaidOkUptoSaid : Prop := fnLaidOkUptoRow.holds Try.pinned (OpenSpec.upto fnLaidOkSpec)

/-- 'laws.FnLaidMany', WHERE WHAT IT READS IS OF BULK AT MOST 1048576: true; the input reads as it did. -/
def fnLaidManyUptoRow : OpenClaim := { program := "ythdojiaaoaiioaa", sum := "128f1c089e5c616de3402ff9be91c7ff9cb064b9a33b3df8564b65f2b63cb144", func := "loop.example/dominotilings/laws.FnLaidMany", spec := "fnLaidMany", recurses := true, apart := false, narrowed := true }
def FnLaidManyUptoSaid : Prop := fnLaidManyUptoRow.holds Try.pinned (OpenSpec.upto fnLaidManySpec)

/-- 'laws.FnTilingTurn', WHERE WHAT IT READS IS OF BULK AT MOST 1048576: true; the input reads as it did. -/
def fnTilingTurnUptoRow : OpenClaim := { program := "ythdojiaaoaiioaa", sum := "128f1c089e5c616de3402ff9be91c7ff9cb064b9a33b3df8564b65f2b63cb144", func := "loop.example/dominotilings/laws.FnTilingTurn", spec := "fnTilingTurn", recurses := true, apart := false, narrowed := true }
def FnTilingTurnUptoSaid : Prop := fnTilingTurnUptoRow.holds Try.pinned (OpenSpec.upto fnTilingTurnSpec)

/-- 'laws.FnTilingFlip', WHERE WHAT IT READS IS OF BULK AT MOST 1048576: true; the input reads as it did. -/
def fnTilingFlipUptoRow : OpenClaim := { program := "ythdojiaaoaiioaa", sum := "128f1c089e5c616de3402ff9be91c7ff9cb064b9a33b3df8564b65f2b63cb144", func := "loop.example/dominotilings/laws.FnTilingFlip", spec := "fnTilingFlip", recurses := true, apart := false, narrowed := true }
def FnTilingFlipUptoSaid : Prop := fnTilingFlipUptoRow.holds Try.pinned (OpenSpec.upto fnTilingFlipSpec)

end Rows
end Go.Proofs.Ythdojiaaoaiioaa
