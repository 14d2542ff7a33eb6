/-
  No cell of these rows narrows 'for every input' (looked for: loops, veiled, ifaces, maps, wideKeys, modest, calm, conditions, laid).
  DERIVED. THE GIVEN ROWS OF THIS SEAT. 12 by the template 'for every input the law returns true; each argument reads behind the call as it read before'; 0 by the template 'total and deterministic' (their statements: YtlnnoeojgdeagaaTotals.lean).
  GIVEN WITH THE SEED: the statements are not yours to turn. If you find one false, say at which input.
  Laid BY PROGRAM, IN A SANDBOX (cutbox-rows.mjs): the forced cells as the released guide's own fill.sh prints them over the translation b2cfe3898065447f… (all of the seat's roots in one cut). By AI agents, Wed Nov 11 2026. No macro, syntax, notation, axiom, sorry.
-/
import Derived.Test.YtlnnoeojgdeagaaChecked
import GoSem.Claim
import GoSem.ClaimJoined
import GoSem.ClaimMapViews
import Derived.JoinedTies
import Derived.KernelRfl
namespace Go.Proofs.Ytlnnoeojgdeagaa
/- THE CELL 'sum', in the pinned program and in every row, IS THE sha256 OF THE DUMP (.gsa) THAT YtlnnoeojgdeagaaProg.lean LOADS. Nothing in Lean hashes anything: it is a label: what it is worth is what the hold of that sum in a sandbox is worth. -/
noncomputable def Try.pinned : Pinned := { name := "ytlnnoeojgdeagaa", sum := "b2cfe3898065447f5cdc85f89c6ac1f1091cae5dd1db91e09a849d74401e3e68", checked := Try.checked }
namespace Rows
def none {H : Type} : Left H := { results := [], args := [] }

/-- 'laws.FnExactTilingsAll': WHATEVER THE INPUT: true; the input reads as it did. -/
def fnExactTilingsAllSpec : ChangeSpec := { name := "fnExactTilingsAll", fn := fun _ => fun
  | [d] => { results := [.lit (.bool true)], args := [d] }
  | _ => none }
def fnExactTilingsAllRow : OpenClaim := { program := "ytlnnoeojgdeagaa", sum := "b2cfe3898065447f5cdc85f89c6ac1f1091cae5dd1db91e09a849d74401e3e68", func := "loop.example/dominotilings/laws.FnExactTilingsAll", spec := "fnExactTilingsAll", unfollowed := true, recurses := true, apart := false }
def FnExactTilingsAllSaid : Prop := fnExactTilingsAllRow.holds Try.pinned (OpenSpec.ofChange fnExactTilingsAllSpec)

/-- ITS FALSE NEIGHBOUR: 'it returns false'. Refute it at one input. -/
def fnExactTilingsAllWrong : ChangeSpec := { name := "fnExactTilingsAll", fn := fun _ => fun
  | [d] => { results := [.lit (.bool false)], args := [d] }
  | _ => none }
def FnExactTilingsAllWrongFalsely : Prop := fnExactTilingsAllRow.holds Try.pinned (OpenSpec.ofChange fnExactTilingsAllWrong)

/-- 'laws.FnExactComplete': WHATEVER THE INPUT: true; the input reads as it did. -/
def fnExactCompleteSpec : ChangeSpec := { name := "fnExactComplete", fn := fun _ => fun
  | [d1, d2] => { results := [.lit (.bool true)], args := [d1, d2] }
  | _ => none }
def fnExactCompleteRow : OpenClaim := { program := "ytlnnoeojgdeagaa", sum := "b2cfe3898065447f5cdc85f89c6ac1f1091cae5dd1db91e09a849d74401e3e68", func := "loop.example/dominotilings/laws.FnExactComplete", spec := "fnExactComplete", unfollowed := true, recurses := true, apart := false }
def FnExactCompleteSaid : Prop := fnExactCompleteRow.holds Try.pinned (OpenSpec.ofChange fnExactCompleteSpec)

/-- ITS FALSE NEIGHBOUR: 'it returns false'. Refute it at one input. -/
def fnExactCompleteWrong : ChangeSpec := { name := "fnExactComplete", fn := fun _ => fun
  | [d1, d2] => { results := [.lit (.bool false)], args := [d1, d2] }
  | _ => none }
def FnExactCompleteWrongFalsely : Prop := fnExactCompleteRow.holds Try.pinned (OpenSpec.ofChange fnExactCompleteWrong)

/-- 'laws.FnExactTilingFirst': WHATEVER THE INPUT: true; the input reads as it did. -/
def fnExactTilingFirstSpec : ChangeSpec := { name := "fnExactTilingFirst", fn := fun _ => fun
  | [d] => { results := [.lit (.bool true)], args := [d] }
  | _ => none }
def fnExactTilingFirstRow : OpenClaim := { program := "ytlnnoeojgdeagaa", sum := "b2cfe3898065447f5cdc85f89c6ac1f1091cae5dd1db91e09a849d74401e3e68", func := "loop.example/dominotilings/laws.FnExactTilingFirst", spec := "fnExactTilingFirst", unfollowed := true, recurses := true, apart := false }
def FnExactTilingFirstSaid : Prop := fnExactTilingFirstRow.holds Try.pinned (OpenSpec.ofChange fnExactTilingFirstSpec)

/-- ITS FALSE NEIGHBOUR: 'it returns false'. Refute it at one input. -/
def fnExactTilingFirstWrong : ChangeSpec := { name := "fnExactTilingFirst", fn := fun _ => fun
  | [d] => { results := [.lit (.bool false)], args := [d] }
  | _ => none }
def FnExactTilingFirstWrongFalsely : Prop := fnExactTilingFirstRow.holds Try.pinned (OpenSpec.ofChange fnExactTilingFirstWrong)

/-- 'laws.FnTilingOk': WHATEVER THE INPUT: true; the input reads as it did. -/
def fnTilingOkSpec : ChangeSpec := { name := "fnTilingOk", fn := fun _ => fun
  | [d] => { results := [.lit (.bool true)], args := [d] }
  | _ => none }
def fnTilingOkRow : OpenClaim := { program := "ytlnnoeojgdeagaa", sum := "b2cfe3898065447f5cdc85f89c6ac1f1091cae5dd1db91e09a849d74401e3e68", func := "loop.example/dominotilings/laws.FnTilingOk", spec := "fnTilingOk", unfollowed := true, recurses := true, apart := false }
def FnTilingOkSaid : Prop := fnTilingOkRow.holds Try.pinned (OpenSpec.ofChange fnTilingOkSpec)

/-- ITS FALSE NEIGHBOUR: 'it returns false'. Refute it at one input. -/
def fnTilingOkWrong : ChangeSpec := { name := "fnTilingOk", fn := fun _ => fun
  | [d] => { results := [.lit (.bool false)], args := [d] }
  | _ => none }
def FnTilingOkWrongFalsely : Prop := fnTilingOkRow.holds Try.pinned (OpenSpec.ofChange fnTilingOkWrong)

/-- 'laws.FnFlatMany': WHATEVER THE INPUT: true; the input reads as it did. -/
def fnFlatManySpec : ChangeSpec := { name := "fnFlatMany", fn := fun _ => fun
  | [d] => { results := [.lit (.bool true)], args := [d] }
  | _ => none }
def fnFlatManyRow : OpenClaim := { program := "ytlnnoeojgdeagaa", sum := "b2cfe3898065447f5cdc85f89c6ac1f1091cae5dd1db91e09a849d74401e3e68", func := "loop.example/dominotilings/laws.FnFlatMany", spec := "fnFlatMany", unfollowed := true, recurses := true, apart := false }
def FnFlatManySaid : Prop := fnFlatManyRow.holds Try.pinned (OpenSpec.ofChange fnFlatManySpec)

/-- ITS FALSE NEIGHBOUR: 'it returns false'. Refute it at one input. -/
def fnFlatManyWrong : ChangeSpec := { name := "fnFlatMany", fn := fun _ => fun
  | [d] => { results := [.lit (.bool false)], args := [d] }
  | _ => none }
def FnFlatManyWrongFalsely : Prop := fnFlatManyRow.holds Try.pinned (OpenSpec.ofChange fnFlatManyWrong)

/-- 'laws.FnComplete': WHATEVER THE INPUT: true; the input reads as it did. -/
def fnCompleteSpec : ChangeSpec := { name := "fnComplete", fn := fun _ => fun
  | [d] => { results := [.lit (.bool true)], args := [d] }
  | _ => none }
def fnCompleteRow : OpenClaim := { program := "ytlnnoeojgdeagaa", sum := "b2cfe3898065447f5cdc85f89c6ac1f1091cae5dd1db91e09a849d74401e3e68", func := "loop.example/dominotilings/laws.FnComplete", spec := "fnComplete", unfollowed := true, recurses := true, apart := false }
def FnCompleteSaid : Prop := fnCompleteRow.holds Try.pinned (OpenSpec.ofChange fnCompleteSpec)

/-- ITS FALSE NEIGHBOUR: 'it returns false'. Refute it at one input. -/
def fnCompleteWrong : ChangeSpec := { name := "fnComplete", fn := fun _ => fun
  | [d] => { results := [.lit (.bool false)], args := [d] }
  | _ => none }
def FnCompleteWrongFalsely : Prop := fnCompleteRow.holds Try.pinned (OpenSpec.ofChange fnCompleteWrong)

/-- 'laws.FnTilingFirst': WHATEVER THE INPUT: true; the input reads as it did. -/
def fnTilingFirstSpec : ChangeSpec := { name := "fnTilingFirst", fn := fun _ => fun
  | [d] => { results := [.lit (.bool true)], args := [d] }
  | _ => none }
def fnTilingFirstRow : OpenClaim := { program := "ytlnnoeojgdeagaa", sum := "b2cfe3898065447f5cdc85f89c6ac1f1091cae5dd1db91e09a849d74401e3e68", func := "loop.example/dominotilings/laws.FnTilingFirst", spec := "fnTilingFirst", unfollowed := true, recurses := true, apart := false }
def FnTilingFirstSaid : Prop := fnTilingFirstRow.holds Try.pinned (OpenSpec.ofChange fnTilingFirstSpec)

/-- ITS FALSE NEIGHBOUR: 'it returns false'. Refute it at one input. -/
def fnTilingFirstWrong : ChangeSpec := { name := "fnTilingFirst", fn := fun _ => fun
  | [d] => { results := [.lit (.bool false)], args := [d] }
  | _ => none }
def FnTilingFirstWrongFalsely : Prop := fnTilingFirstRow.holds Try.pinned (OpenSpec.ofChange fnTilingFirstWrong)

/-- 'laws.FnTilingsAll': WHATEVER THE INPUT: true; the input reads as it did. -/
def fnTilingsAllSpec : ChangeSpec := { name := "fnTilingsAll", fn := fun _ => fun
  | [d] => { results := [.lit (.bool true)], args := [d] }
  | _ => none }
def fnTilingsAllRow : OpenClaim := { program := "ytlnnoeojgdeagaa", sum := "b2cfe3898065447f5cdc85f89c6ac1f1091cae5dd1db91e09a849d74401e3e68", func := "loop.example/dominotilings/laws.FnTilingsAll", spec := "fnTilingsAll", unfollowed := true, recurses := true, apart := false }
def FnTilingsAllSaid : Prop := fnTilingsAllRow.holds Try.pinned (OpenSpec.ofChange fnTilingsAllSpec)

/-- ITS FALSE NEIGHBOUR: 'it returns false'. Refute it at one input. -/
def fnTilingsAllWrong : ChangeSpec := { name := "fnTilingsAll", fn := fun _ => fun
  | [d] => { results := [.lit (.bool false)], args := [d] }
  | _ => none }
def FnTilingsAllWrongFalsely : Prop := fnTilingsAllRow.holds Try.pinned (OpenSpec.ofChange fnTilingsAllWrong)

/-- 'laws.FnTilingTurn': WHATEVER THE INPUT: true; the input reads as it did. -/
def fnTilingTurnSpec : ChangeSpec := { name := "fnTilingTurn", fn := fun _ => fun
  | [d] => { results := [.lit (.bool true)], args := [d] }
  | _ => none }
def fnTilingTurnRow : OpenClaim := { program := "ytlnnoeojgdeagaa", sum := "b2cfe3898065447f5cdc85f89c6ac1f1091cae5dd1db91e09a849d74401e3e68", func := "loop.example/dominotilings/laws.FnTilingTurn", spec := "fnTilingTurn", recurses := true, apart := false }
def FnTilingTurnSaid : Prop := fnTilingTurnRow.holds Try.pinned (OpenSpec.ofChange fnTilingTurnSpec)

/-- ITS FALSE NEIGHBOUR: 'it returns false'. Refute it at one input. -/
def fnTilingTurnWrong : ChangeSpec := { name := "fnTilingTurn", fn := fun _ => fun
  | [d] => { results := [.lit (.bool false)], args := [d] }
  | _ => none }
def FnTilingTurnWrongFalsely : Prop := fnTilingTurnRow.holds Try.pinned (OpenSpec.ofChange fnTilingTurnWrong)

/-- 'laws.FnTilingFlip': WHATEVER THE INPUT: true; the input reads as it did. -/
def fnTilingFlipSpec : ChangeSpec := { name := "fnTilingFlip", fn := fun _ => fun
  | [d] => { results := [.lit (.bool true)], args := [d] }
  | _ => none }
def fnTilingFlipRow : OpenClaim := { program := "ytlnnoeojgdeagaa", sum := "b2cfe3898065447f5cdc85f89c6ac1f1091cae5dd1db91e09a849d74401e3e68", func := "loop.example/dominotilings/laws.FnTilingFlip", spec := "fnTilingFlip", recurses := true, apart := false }
def FnTilingFlipSaid : Prop := fnTilingFlipRow.holds Try.pinned (OpenSpec.ofChange fnTilingFlipSpec)

/-- ITS FALSE NEIGHBOUR: 'it returns false'. Refute it at one input. -/
def fnTilingFlipWrong : ChangeSpec := { name := "fnTilingFlip", fn := fun _ => fun
  | [d] => { results := [.lit (.bool false)], args := [d] }
  | _ => none }
def FnTilingFlipWrongFalsely : Prop := fnTilingFlipRow.holds Try.pinned (OpenSpec.ofChange fnTilingFlipWrong)

/-- 'laws.FnFaultsOf': WHATEVER THE INPUT: true; the input reads as it did. -/
def fnFaultsOfSpec : ChangeSpec := { name := "fnFaultsOf", fn := fun _ => fun
  | [d] => { results := [.lit (.bool true)], args := [d] }
  | _ => none }
def fnFaultsOfRow : OpenClaim := { program := "ytlnnoeojgdeagaa", sum := "b2cfe3898065447f5cdc85f89c6ac1f1091cae5dd1db91e09a849d74401e3e68", func := "loop.example/dominotilings/laws.FnFaultsOf", spec := "fnFaultsOf", recurses := true, apart := false }
def FnFaultsOfSaid : Prop := fnFaultsOfRow.holds Try.pinned (OpenSpec.ofChange fnFaultsOfSpec)

/-- ITS FALSE NEIGHBOUR: 'it returns false'. Refute it at one input. -/
def fnFaultsOfWrong : ChangeSpec := { name := "fnFaultsOf", fn := fun _ => fun
  | [d] => { results := [.lit (.bool false)], args := [d] }
  | _ => none }
def FnFaultsOfWrongFalsely : Prop := fnFaultsOfRow.holds Try.pinned (OpenSpec.ofChange fnFaultsOfWrong)

/-- 'laws.FnExactPartsOf': WHATEVER THE INPUT: true; the input reads as it did. -/
def fnExactPartsOfSpec : ChangeSpec := { name := "fnExactPartsOf", fn := fun _ => fun
  | [d] => { results := [.lit (.bool true)], args := [d] }
  | _ => none }
def fnExactPartsOfRow : OpenClaim := { program := "ytlnnoeojgdeagaa", sum := "b2cfe3898065447f5cdc85f89c6ac1f1091cae5dd1db91e09a849d74401e3e68", func := "loop.example/dominotilings/laws.FnExactPartsOf", spec := "fnExactPartsOf", apart := false }
def FnExactPartsOfSaid : Prop := fnExactPartsOfRow.holds Try.pinned (OpenSpec.ofChange fnExactPartsOfSpec)

/-- ITS FALSE NEIGHBOUR: 'it returns false'. Refute it at one input. -/
def fnExactPartsOfWrong : ChangeSpec := { name := "fnExactPartsOf", fn := fun _ => fun
  | [d] => { results := [.lit (.bool false)], args := [d] }
  | _ => none }
def FnExactPartsOfWrongFalsely : Prop := fnExactPartsOfRow.holds Try.pinned (OpenSpec.ofChange fnExactPartsOfWrong)

/- THE SECOND FORM. 'bulk': how many values and letters a reading holds, each counted each time it is reached (what is shared counts as often as it is met; a slice's spare places count too). A statement '..UptoSaid' is the law's where the arguments, and the package variables that the reading takes, are together of bulk at most 1048576: NARROWER than '..Said'. Prove '..Said' where nothing that the law and all that it calls make is longer than what came in: it says more and counts as full. Else prove '..UptoSaid'. A law counts once. -/
mutual
def uptoBulk {H : Type} : DataW H → Nat
  | .lit (.string bytes) => bytes.length + 1
  | .lit _ => 1
  | .nil => 1
  | .ptr d => uptoBulk d + 1
  | .slice elems spare => uptoBulkAll elems + uptoBulkAll spare + 1
  | .agg parts => uptoBulkAll parts + 1
  | .iface _ d => uptoBulk d + 1
  | .map entries => uptoBulkEntries entries + 1
  | .held _ => 1
def uptoBulkAll {H : Type} : List (DataW H) → Nat
  | [] => 0
  | d :: r => uptoBulk d + uptoBulkAll r
def uptoBulkEntries {H : Type} : List (Lit × DataW H) → Nat
  | [] => 0
  | x :: r => uptoBulkEntry x + uptoBulkEntries r
def uptoBulkEntry {H : Type} : Lit × DataW H → Nat
  | (.string bytes, d) => bytes.length + uptoBulk d + 1
  | (_, d) => uptoBulk d + 1
 end
def uptoSmall : (H : Type) → List (DataW H) → Bool := fun _ ds => decide (uptoBulkAll ds ≤ 1048576)
def OpenSpec.upto (s : _root_.Go.ChangeSpec) : _root_.Go.OpenSpec := { _root_.Go.OpenSpec.ofChange s with cond := some uptoSmall }

/-- 'laws.FnExactTilingsAll', WHERE WHAT IT READS IS OF BULK AT MOST 1048576: true; the input reads as it did. -/
def fnExactTilingsAllUptoRow : OpenClaim := { program := "ytlnnoeojgdeagaa", sum := "b2cfe3898065447f5cdc85f89c6ac1f1091cae5dd1db91e09a849d74401e3e68", func := "loop.example/dominotilings/laws.FnExactTilingsAll", spec := "fnExactTilingsAll", unfollowed := true, recurses := true, apart := false, narrowed := true }
def FnExactTilingsAllUptoSaid : Prop := fnExactTilingsAllUptoRow.holds Try.pinned (OpenSpec.upto fnExactTilingsAllSpec)

/-- 'laws.FnExactComplete', WHERE WHAT IT READS IS OF BULK AT MOST 1048576: true; the input reads as it did. -/
def fnExactCompleteUptoRow : OpenClaim := { program := "ytlnnoeojgdeagaa", sum := "b2cfe3898065447f5cdc85f89c6ac1f1091cae5dd1db91e09a849d74401e3e68", func := "loop.example/dominotilings/laws.FnExactComplete", spec := "fnExactComplete", unfollowed := true, recurses := true, apart := false, narrowed := true }
def FnExactCompleteUptoSaid : Prop := fnExactCompleteUptoRow.holds Try.pinned (OpenSpec.upto fnExactCompleteSpec)

/-- 'laws.FnExactTilingFirst', WHERE WHAT IT READS IS OF BULK AT MOST 1048576: true; the input reads as it did. -/
def fnExactTilingFirstUptoRow : OpenClaim := { program := "ytlnnoeojgdeagaa", sum := "b2cfe3898065447f5cdc85f89c6ac1f1091cae5dd1db91e09a849d74401e3e68", func := "loop.example/dominotilings/laws.FnExactTilingFirst", spec := "fnExactTilingFirst", unfollowed := true, recurses := true, apart := false, narrowed := true }
def FnExactTilingFirstUptoSaid : Prop := fnExactTilingFirstUptoRow.holds Try.pinned (OpenSpec.upto fnExactTilingFirstSpec)

/-- 'laws.FnTilingOk', WHERE WHAT IT READS IS OF BULK AT MOST 1048576: true; the input reads as it did. -/
def fnTilingOkUptoRow : OpenClaim := { program := "ytlnnoeojgdeagaa", sum := "b2cfe3898065447f5cdc85f89c6ac1f1091cae5dd1db91e09a849d74401e3e68", func := "loop.example/dominotilings/laws.FnTilingOk", spec := "fnTilingOk", unfollowed := true, recurses := true, apart := false, narrowed := true }
def FnTilingOkUptoSaid : Prop := fnTilingOkUptoRow.holds Try.pinned (OpenSpec.upto fnTilingOkSpec)

/-- 'laws.FnFlatMany', WHERE WHAT IT READS IS OF BULK AT MOST 1048576: true; the input reads as it did. -/
def fnFlatManyUptoRow : OpenClaim := { program := "ytlnnoeojgdeagaa", sum := "b2cfe3898065447f5cdc85f89c6ac1f1091cae5dd1db91e09a849d74401e3e68", func := "loop.example/dominotilings/laws.FnFlatMany", spec := "fnFlatMany", unfollowed := true, recurses := true, apart := false, narrowed := true }
def FnFlatManyUptoSaid : Prop := fnFlatManyUptoRow.holds Try.pinned (OpenSpec.upto fnFlatManySpec)

/-- 'laws.FnComplete', WHERE WHAT IT READS IS OF BULK AT MOST 1048576: true; the input reads as it did. -/
def fnCompleteUptoRow : OpenClaim := { program := "ytlnnoeojgdeagaa", sum := "b2cfe3898065447f5cdc85f89c6ac1f1091cae5dd1db91e09a849d74401e3e68", func := "loop.example/dominotilings/laws.FnComplete", spec := "fnComplete", unfollowed := true, recurses := true, apart := false, narrowed := true }
def FnCompleteUptoSaid : Prop := fnCompleteUptoRow.holds Try.pinned (OpenSpec.upto fnCompleteSpec)

/-- 'laws.FnTilingFirst', WHERE WHAT IT READS IS OF BULK AT MOST 1048576: true; the input reads as it did. -/
def fnTilingFirstUptoRow : OpenClaim := { program := "ytlnnoeojgdeagaa", sum := "b2cfe3898065447f5cdc85f89c6ac1f1091cae5dd1db91e09a849d74401e3e68", func := "loop.example/dominotilings/laws.FnTilingFirst", spec := "fnTilingFirst", unfollowed := true, recurses := true, apart := false, narrowed := true }
def FnTilingFirstUptoSaid : Prop := fnTilingFirstUptoRow.holds Try.pinned (OpenSpec.upto fnTilingFirstSpec)

/-- 'laws.FnTilingsAll', WHERE WHAT IT READS IS OF BULK AT MOST 1048576: true; the input reads as it did. -/
def fnTilingsAllUptoRow : OpenClaim := { program := "ytlnnoeojgdeagaa", sum := "b2cfe3898065447f5cdc85f89c6ac1f1091cae5dd1db91e09a849d74401e3e68", func := "loop.example/dominotilings/laws.FnTilingsAll", spec := "fnTilingsAll", unfollowed := true, recurses := true, apart := false, narrowed := true }
def FnTilingsAllUptoSaid : Prop := fnTilingsAllUptoRow.holds Try.pinned (OpenSpec.upto fnTilingsAllSpec)

/-- 'laws.FnTilingTurn', WHERE WHAT IT READS IS OF BULK AT MOST 1048576: true; the input reads as it did. -/
def fnTilingTurnUptoRow : OpenClaim := { program := "ytlnnoeojgdeagaa", sum := "b2cfe3898065447f5cdc85f89c6ac1f1091cae5dd1db91e09a849d74401e3e68", func := "loop.example/dominotilings/laws.FnTilingTurn", spec := "fnTilingTurn", recurses := true, apart := false, narrowed := true }
def FnTilingTurnUptoSaid : Prop := fnTilingTurnUptoRow.holds Try.pinned (OpenSpec.upto fnTilingTurnSpec)

/-- 'laws.FnTilingFlip', WHERE WHAT IT READS IS OF BULK AT MOST 1048576: true; the input reads as it did. -/
def fnTilingFlipUptoRow : OpenClaim := { program := "ytlnnoeojgdeagaa", sum := "b2cfe3898065447f5cdc85f89c6ac1f1091cae5dd1db91e09a849d74401e3e68", func := "loop.example/dominotilings/laws.FnTilingFlip", spec := "fnTilingFlip", recurses := true, apart := false, narrowed := true }
def FnTilingFlipUptoSaid : Prop := fnTilingFlipUptoRow.holds Try.pinned (OpenSpec.upto fnTilingFlipSpec)

/-- 'laws.FnFaultsOf', WHERE WHAT IT READS IS OF BULK AT MOST 1048576: true; the input reads as it did. -/
def fnFaultsOfUptoRow : OpenClaim := { program := "ytlnnoeojgdeagaa", sum := "b2cfe3898065447f5cdc85f89c6ac1f1091cae5dd1db91e09a849d74401e3e68", func := "loop.example/dominotilings/laws.FnFaultsOf", spec := "fnFaultsOf", recurses := true, apart := false, narrowed := true }
def FnFaultsOfUptoSaid : Prop := fnFaultsOfUptoRow.holds Try.pinned (OpenSpec.upto fnFaultsOfSpec)

/-- 'laws.FnExactPartsOf', WHERE WHAT IT READS IS OF BULK AT MOST 1048576: true; the input reads as it did. -/
def fnExactPartsOfUptoRow : OpenClaim := { program := "ytlnnoeojgdeagaa", sum := "b2cfe3898065447f5cdc85f89c6ac1f1091cae5dd1db91e09a849d74401e3e68", func := "loop.example/dominotilings/laws.FnExactPartsOf", spec := "fnExactPartsOf", apart := false, narrowed := true }
def FnExactPartsOfUptoSaid : Prop := fnExactPartsOfUptoRow.holds Try.pinned (OpenSpec.upto fnExactPartsOfSpec)

end Rows
end Go.Proofs.Ytlnnoeojgdeagaa
