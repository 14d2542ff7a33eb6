/-
  No cell of these rows narrows 'for every input' (looked for: loops, veiled, ifaces, maps, wideKeys, modest, calm, conditions, laid).
  DERIVED. THE GIVEN ROWS OF THIS SEAT. 12 by the template 'for every input the law returns true; each argument reads behind the call as it read before'; 0 by the template 'total and deterministic' (their statements: YtbbinbgepbkihaaTotals.lean).
  GIVEN WITH THE SEED: the statements are not yours to turn. If you find one false, say at which input.
  Laid BY PROGRAM, IN A SANDBOX (cutbox-rows.mjs): the forced cells as the released guide's own fill.sh prints them over the translation a201a48149a26e4b… (all of the seat's roots in one cut). By AI agents, Wed Nov 11 2026. No macro, syntax, notation, axiom, sorry.
-/
import Derived.Test.YtbbinbgepbkihaaChecked
import GoSem.Claim
import GoSem.ClaimJoined
import GoSem.ClaimMapViews
import Derived.JoinedTies
import Derived.KernelRfl
namespace Go.Proofs.Ytbbinbgepbkihaa
/- THE CELL 'sum', in the pinned program and in every row, IS THE sha256 OF THE DUMP (.gsa) THAT YtbbinbgepbkihaaProg.lean LOADS. Nothing in Lean hashes anything: it is a label: what it is worth is what the hold of that sum in a sandbox is worth. -/
noncomputable def Try.pinned : Pinned := { name := "ytbbinbgepbkihaa", sum := "a201a48149a26e4b74bc4ddcbc407405325d75229b5cb9a69e609e5632b90e65", checked := Try.checked }
namespace Rows
def none {H : Type} : Left H := { results := [], args := [] }

/-- 'laws.FnExactStepTo': WHATEVER THE INPUT: true; the input reads as it did. -/
def fnExactStepToSpec : ChangeSpec := { name := "fnExactStepTo", fn := fun _ => fun
  | [d1, d2, d3] => { results := [.lit (.bool true)], args := [d1, d2, d3] }
  | _ => none }
def fnExactStepToRow : OpenClaim := { program := "ytbbinbgepbkihaa", sum := "a201a48149a26e4b74bc4ddcbc407405325d75229b5cb9a69e609e5632b90e65", func := "loop.example/dominotilings/laws.FnExactStepTo", spec := "fnExactStepTo", apart := false }
def FnExactStepToSaid : Prop := fnExactStepToRow.holds Try.pinned (OpenSpec.ofChange fnExactStepToSpec)

/-- ITS FALSE NEIGHBOUR: 'it returns false'. Refute it at one input. -/
def fnExactStepToWrong : ChangeSpec := { name := "fnExactStepTo", fn := fun _ => fun
  | [d1, d2, d3] => { results := [.lit (.bool false)], args := [d1, d2, d3] }
  | _ => none }
def FnExactStepToWrongFalsely : Prop := fnExactStepToRow.holds Try.pinned (OpenSpec.ofChange fnExactStepToWrong)

/-- 'laws.FnExactLaidOk': WHATEVER THE INPUT: true; the input reads as it did. -/
def fnExactLaidOkSpec : ChangeSpec := { name := "fnExactLaidOk", fn := fun _ => fun
  | [d1, d2] => { results := [.lit (.bool true)], args := [d1, d2] }
  | _ => none }
def fnExactLaidOkRow : OpenClaim := { program := "ytbbinbgepbkihaa", sum := "a201a48149a26e4b74bc4ddcbc407405325d75229b5cb9a69e609e5632b90e65", func := "loop.example/dominotilings/laws.FnExactLaidOk", spec := "fnExactLaidOk", apart := false }
def FnExactLaidOkSaid : Prop := fnExactLaidOkRow.holds Try.pinned (OpenSpec.ofChange fnExactLaidOkSpec)

/-- ITS FALSE NEIGHBOUR: 'it returns false'. Refute it at one input. -/
def fnExactLaidOkWrong : ChangeSpec := { name := "fnExactLaidOk", fn := fun _ => fun
  | [d1, d2] => { results := [.lit (.bool false)], args := [d1, d2] }
  | _ => none }
def FnExactLaidOkWrongFalsely : Prop := fnExactLaidOkRow.holds Try.pinned (OpenSpec.ofChange fnExactLaidOkWrong)

/-- 'laws.FnExactTilingOk': WHATEVER THE INPUT: true; the input reads as it did. -/
def fnExactTilingOkSpec : ChangeSpec := { name := "fnExactTilingOk", fn := fun _ => fun
  | [d1, d2] => { results := [.lit (.bool true)], args := [d1, d2] }
  | _ => none }
def fnExactTilingOkRow : OpenClaim := { program := "ytbbinbgepbkihaa", sum := "a201a48149a26e4b74bc4ddcbc407405325d75229b5cb9a69e609e5632b90e65", func := "loop.example/dominotilings/laws.FnExactTilingOk", spec := "fnExactTilingOk", apart := false }
def FnExactTilingOkSaid : Prop := fnExactTilingOkRow.holds Try.pinned (OpenSpec.ofChange fnExactTilingOkSpec)

/-- ITS FALSE NEIGHBOUR: 'it returns false'. Refute it at one input. -/
def fnExactTilingOkWrong : ChangeSpec := { name := "fnExactTilingOk", fn := fun _ => fun
  | [d1, d2] => { results := [.lit (.bool false)], args := [d1, d2] }
  | _ => none }
def FnExactTilingOkWrongFalsely : Prop := fnExactTilingOkRow.holds Try.pinned (OpenSpec.ofChange fnExactTilingOkWrong)

/-- 'laws.FnExactLaidMany': WHATEVER THE INPUT: true; the input reads as it did. -/
def fnExactLaidManySpec : ChangeSpec := { name := "fnExactLaidMany", fn := fun _ => fun
  | [d1, d2] => { results := [.lit (.bool true)], args := [d1, d2] }
  | _ => none }
def fnExactLaidManyRow : OpenClaim := { program := "ytbbinbgepbkihaa", sum := "a201a48149a26e4b74bc4ddcbc407405325d75229b5cb9a69e609e5632b90e65", func := "loop.example/dominotilings/laws.FnExactLaidMany", spec := "fnExactLaidMany", apart := false }
def FnExactLaidManySaid : Prop := fnExactLaidManyRow.holds Try.pinned (OpenSpec.ofChange fnExactLaidManySpec)

/-- ITS FALSE NEIGHBOUR: 'it returns false'. Refute it at one input. -/
def fnExactLaidManyWrong : ChangeSpec := { name := "fnExactLaidMany", fn := fun _ => fun
  | [d1, d2] => { results := [.lit (.bool false)], args := [d1, d2] }
  | _ => none }
def FnExactLaidManyWrongFalsely : Prop := fnExactLaidManyRow.holds Try.pinned (OpenSpec.ofChange fnExactLaidManyWrong)

/-- 'laws.FnExactFlatMany': WHATEVER THE INPUT: true; the input reads as it did. -/
def fnExactFlatManySpec : ChangeSpec := { name := "fnExactFlatMany", fn := fun _ => fun
  | [d1, d2] => { results := [.lit (.bool true)], args := [d1, d2] }
  | _ => none }
def fnExactFlatManyRow : OpenClaim := { program := "ytbbinbgepbkihaa", sum := "a201a48149a26e4b74bc4ddcbc407405325d75229b5cb9a69e609e5632b90e65", func := "loop.example/dominotilings/laws.FnExactFlatMany", spec := "fnExactFlatMany", apart := false }
def FnExactFlatManySaid : Prop := fnExactFlatManyRow.holds Try.pinned (OpenSpec.ofChange fnExactFlatManySpec)

/-- ITS FALSE NEIGHBOUR: 'it returns false'. Refute it at one input. -/
def fnExactFlatManyWrong : ChangeSpec := { name := "fnExactFlatMany", fn := fun _ => fun
  | [d1, d2] => { results := [.lit (.bool false)], args := [d1, d2] }
  | _ => none }
def FnExactFlatManyWrongFalsely : Prop := fnExactFlatManyRow.holds Try.pinned (OpenSpec.ofChange fnExactFlatManyWrong)

/-- 'laws.FnExactLaidBare': WHATEVER THE INPUT: true; the input reads as it did. -/
def fnExactLaidBareSpec : ChangeSpec := { name := "fnExactLaidBare", fn := fun _ => fun
  | [d] => { results := [.lit (.bool true)], args := [d] }
  | _ => none }
def fnExactLaidBareRow : OpenClaim := { program := "ytbbinbgepbkihaa", sum := "a201a48149a26e4b74bc4ddcbc407405325d75229b5cb9a69e609e5632b90e65", func := "loop.example/dominotilings/laws.FnExactLaidBare", spec := "fnExactLaidBare", apart := false }
def FnExactLaidBareSaid : Prop := fnExactLaidBareRow.holds Try.pinned (OpenSpec.ofChange fnExactLaidBareSpec)

/-- ITS FALSE NEIGHBOUR: 'it returns false'. Refute it at one input. -/
def fnExactLaidBareWrong : ChangeSpec := { name := "fnExactLaidBare", fn := fun _ => fun
  | [d] => { results := [.lit (.bool false)], args := [d] }
  | _ => none }
def FnExactLaidBareWrongFalsely : Prop := fnExactLaidBareRow.holds Try.pinned (OpenSpec.ofChange fnExactLaidBareWrong)

/-- 'laws.FnExactLayOne': WHATEVER THE INPUT: true; the input reads as it did. -/
def fnExactLayOneSpec : ChangeSpec := { name := "fnExactLayOne", fn := fun _ => fun
  | [d1, d2, d3, d4] => { results := [.lit (.bool true)], args := [d1, d2, d3, d4] }
  | _ => none }
def fnExactLayOneRow : OpenClaim := { program := "ytbbinbgepbkihaa", sum := "a201a48149a26e4b74bc4ddcbc407405325d75229b5cb9a69e609e5632b90e65", func := "loop.example/dominotilings/laws.FnExactLayOne", spec := "fnExactLayOne", apart := false }
def FnExactLayOneSaid : Prop := fnExactLayOneRow.holds Try.pinned (OpenSpec.ofChange fnExactLayOneSpec)

/-- ITS FALSE NEIGHBOUR: 'it returns false'. Refute it at one input. -/
def fnExactLayOneWrong : ChangeSpec := { name := "fnExactLayOne", fn := fun _ => fun
  | [d1, d2, d3, d4] => { results := [.lit (.bool false)], args := [d1, d2, d3, d4] }
  | _ => none }
def FnExactLayOneWrongFalsely : Prop := fnExactLayOneRow.holds Try.pinned (OpenSpec.ofChange fnExactLayOneWrong)

/-- 'laws.FnExactLiftOne': WHATEVER THE INPUT: true; the input reads as it did. -/
def fnExactLiftOneSpec : ChangeSpec := { name := "fnExactLiftOne", fn := fun _ => fun
  | [d1, d2, d3] => { results := [.lit (.bool true)], args := [d1, d2, d3] }
  | _ => none }
def fnExactLiftOneRow : OpenClaim := { program := "ytbbinbgepbkihaa", sum := "a201a48149a26e4b74bc4ddcbc407405325d75229b5cb9a69e609e5632b90e65", func := "loop.example/dominotilings/laws.FnExactLiftOne", spec := "fnExactLiftOne", apart := false }
def FnExactLiftOneSaid : Prop := fnExactLiftOneRow.holds Try.pinned (OpenSpec.ofChange fnExactLiftOneSpec)

/-- ITS FALSE NEIGHBOUR: 'it returns false'. Refute it at one input. -/
def fnExactLiftOneWrong : ChangeSpec := { name := "fnExactLiftOne", fn := fun _ => fun
  | [d1, d2, d3] => { results := [.lit (.bool false)], args := [d1, d2, d3] }
  | _ => none }
def FnExactLiftOneWrongFalsely : Prop := fnExactLiftOneRow.holds Try.pinned (OpenSpec.ofChange fnExactLiftOneWrong)

/-- 'laws.FnExactTilingTurn': WHATEVER THE INPUT: true; the input reads as it did. -/
def fnExactTilingTurnSpec : ChangeSpec := { name := "fnExactTilingTurn", fn := fun _ => fun
  | [d1, d2] => { results := [.lit (.bool true)], args := [d1, d2] }
  | _ => none }
def fnExactTilingTurnRow : OpenClaim := { program := "ytbbinbgepbkihaa", sum := "a201a48149a26e4b74bc4ddcbc407405325d75229b5cb9a69e609e5632b90e65", func := "loop.example/dominotilings/laws.FnExactTilingTurn", spec := "fnExactTilingTurn", apart := false }
def FnExactTilingTurnSaid : Prop := fnExactTilingTurnRow.holds Try.pinned (OpenSpec.ofChange fnExactTilingTurnSpec)

/-- ITS FALSE NEIGHBOUR: 'it returns false'. Refute it at one input. -/
def fnExactTilingTurnWrong : ChangeSpec := { name := "fnExactTilingTurn", fn := fun _ => fun
  | [d1, d2] => { results := [.lit (.bool false)], args := [d1, d2] }
  | _ => none }
def FnExactTilingTurnWrongFalsely : Prop := fnExactTilingTurnRow.holds Try.pinned (OpenSpec.ofChange fnExactTilingTurnWrong)

/-- 'laws.FnExactTilingFlip': WHATEVER THE INPUT: true; the input reads as it did. -/
def fnExactTilingFlipSpec : ChangeSpec := { name := "fnExactTilingFlip", fn := fun _ => fun
  | [d1, d2] => { results := [.lit (.bool true)], args := [d1, d2] }
  | _ => none }
def fnExactTilingFlipRow : OpenClaim := { program := "ytbbinbgepbkihaa", sum := "a201a48149a26e4b74bc4ddcbc407405325d75229b5cb9a69e609e5632b90e65", func := "loop.example/dominotilings/laws.FnExactTilingFlip", spec := "fnExactTilingFlip", apart := false }
def FnExactTilingFlipSaid : Prop := fnExactTilingFlipRow.holds Try.pinned (OpenSpec.ofChange fnExactTilingFlipSpec)

/-- ITS FALSE NEIGHBOUR: 'it returns false'. Refute it at one input. -/
def fnExactTilingFlipWrong : ChangeSpec := { name := "fnExactTilingFlip", fn := fun _ => fun
  | [d1, d2] => { results := [.lit (.bool false)], args := [d1, d2] }
  | _ => none }
def FnExactTilingFlipWrongFalsely : Prop := fnExactTilingFlipRow.holds Try.pinned (OpenSpec.ofChange fnExactTilingFlipWrong)

/-- 'laws.FnExactFaultsOf': WHATEVER THE INPUT: true; the input reads as it did. -/
def fnExactFaultsOfSpec : ChangeSpec := { name := "fnExactFaultsOf", fn := fun _ => fun
  | [d1, d2] => { results := [.lit (.bool true)], args := [d1, d2] }
  | _ => none }
def fnExactFaultsOfRow : OpenClaim := { program := "ytbbinbgepbkihaa", sum := "a201a48149a26e4b74bc4ddcbc407405325d75229b5cb9a69e609e5632b90e65", func := "loop.example/dominotilings/laws.FnExactFaultsOf", spec := "fnExactFaultsOf", apart := false }
def FnExactFaultsOfSaid : Prop := fnExactFaultsOfRow.holds Try.pinned (OpenSpec.ofChange fnExactFaultsOfSpec)

/-- ITS FALSE NEIGHBOUR: 'it returns false'. Refute it at one input. -/
def fnExactFaultsOfWrong : ChangeSpec := { name := "fnExactFaultsOf", fn := fun _ => fun
  | [d1, d2] => { results := [.lit (.bool false)], args := [d1, d2] }
  | _ => none }
def FnExactFaultsOfWrongFalsely : Prop := fnExactFaultsOfRow.holds Try.pinned (OpenSpec.ofChange fnExactFaultsOfWrong)

/-- 'laws.FnExactRegionTurn': WHATEVER THE INPUT: true; the input reads as it did. -/
def fnExactRegionTurnSpec : ChangeSpec := { name := "fnExactRegionTurn", fn := fun _ => fun
  | [d] => { results := [.lit (.bool true)], args := [d] }
  | _ => none }
def fnExactRegionTurnRow : OpenClaim := { program := "ytbbinbgepbkihaa", sum := "a201a48149a26e4b74bc4ddcbc407405325d75229b5cb9a69e609e5632b90e65", func := "loop.example/dominotilings/laws.FnExactRegionTurn", spec := "fnExactRegionTurn", apart := false }
def FnExactRegionTurnSaid : Prop := fnExactRegionTurnRow.holds Try.pinned (OpenSpec.ofChange fnExactRegionTurnSpec)

/-- ITS FALSE NEIGHBOUR: 'it returns false'. Refute it at one input. -/
def fnExactRegionTurnWrong : ChangeSpec := { name := "fnExactRegionTurn", fn := fun _ => fun
  | [d] => { results := [.lit (.bool false)], args := [d] }
  | _ => none }
def FnExactRegionTurnWrongFalsely : Prop := fnExactRegionTurnRow.holds Try.pinned (OpenSpec.ofChange fnExactRegionTurnWrong)

/- THE SECOND FORM. 'bulk': how many values and letters a reading holds, each counted each time it is reached (what is shared counts as often as it is met; a slice's spare places count too). A statement '..UptoSaid' is the law's where the arguments, and the package variables that the reading takes, are together of bulk at most 1048576: NARROWER than '..Said'. Prove '..Said' where nothing that the law and all that it calls make is longer than what came in: it says more and counts as full. Else prove '..UptoSaid'. A law counts once. -/
mutual
def uptoBulk {H : Type} : DataW H → Nat
  | .lit (.string bytes) => bytes.length + 1
  | .lit _ => 1
  | .nil => 1
  | .ptr d => uptoBulk d + 1
  | .slice elems spare => uptoBulkAll elems + uptoBulkAll spare + 1
  | .agg parts => uptoBulkAll parts + 1
  | .iface _ d => uptoBulk d + 1
  | .map entries => uptoBulkEntries entries + 1
  | .held _ => 1
def uptoBulkAll {H : Type} : List (DataW H) → Nat
  | [] => 0
  | d :: r => uptoBulk d + uptoBulkAll r
def uptoBulkEntries {H : Type} : List (Lit × DataW H) → Nat
  | [] => 0
  | x :: r => uptoBulkEntry x + uptoBulkEntries r
def uptoBulkEntry {H : Type} : Lit × DataW H → Nat
  | (.string bytes, d) => bytes.length + uptoBulk d + 1
  | (_, d) => uptoBulk d + 1
 end
def uptoSmall : (H : Type) → List (DataW H) → Bool := fun _ ds => decide (uptoBulkAll ds ≤ 1048576)
def OpenSpec.upto (s : _root_.Go.ChangeSpec) : _root_.Go.OpenSpec := { _root_.Go.OpenSpec.ofChange s with cond := some uptoSmall }

/-- 'laws.FnExactStepTo', WHERE WHAT IT READS IS OF BULK AT MOST 1048576: true; the input reads as it did. -/
def fnExactStepToUptoRow : OpenClaim := { program := "ytbbinbgepbkihaa", sum := "a201a48149a26e4b74bc4ddcbc407405325d75229b5cb9a69e609e5632b90e65", func := "loop.example/dominotilings/laws.FnExactStepTo", spec := "fnExactStepTo", apart := false, narrowed := true }
def FnExactStepToUptoSaid : Prop := fnExactStepToUptoRow.holds Try.pinned (OpenSpec.upto fnExactStepToSpec)

/-- 'laws.FnExactLaidOk', WHERE WHAT IT READS IS OF BULK AT MOST 1048576: true; the input reads as it did. -/
def fnExactLaidOkUptoRow : OpenClaim := { program := "ytbbinbgepbkihaa", sum := "a201a48149a26e4b74bc4ddcbc407405325d75229b5cb9a69e609e5632b90e65", func := "loop.example/dominotilings/laws.FnExactLaidOk", spec := "fnExactLaidOk", apart := false, narrowed := true }
def FnExactLaidOkUptoSaid : Prop := fnExactLaidOkUptoRow.holds Try.pinned (OpenSpec.upto fnExactLaidOkSpec)

/-- 'laws.FnExactTilingOk', WHERE WHAT IT READS IS OF BULK AT MOST 1048576: true; the input reads as it did. -/
def fnExactTilingOkUptoRow : OpenClaim := { program := "ytbbinbgepbkihaa", sum := "a201a48149a26e4b74bc4ddcbc407405325d75229b5cb9a69e609e5632b90e65", func := "loop.example/dominotilings/laws.FnExactTilingOk", spec := "fnExactTilingOk", apart := false, narrowed := true }
def FnExactTilingOkUptoSaid : Prop := fnExactTilingOkUptoRow.holds Try.pinned (OpenSpec.upto fnExactTilingOkSpec)

/-- 'laws.FnExactLaidMany', WHERE WHAT IT READS IS OF BULK AT MOST 1048576: true; the input reads as it did. -/
def fnExactLaidManyUptoRow : OpenClaim := { program := "ytbbinbgepbkihaa", sum := "a201a48149a26e4b74bc4ddcbc407405325d75229b5cb9a69e609e5632b90e65", func := "loop.example/dominotilings/laws.FnExactLaidMany", spec := "fnExactLaidMany", apart := false, narrowed := true }
def FnExactLaidManyUptoSaid : Prop := fnExactLaidManyUptoRow.holds Try.pinned (OpenSpec.upto fnExactLaidManySpec)

/-- 'laws.FnExactFlatMany', WHERE WHAT IT READS IS OF BULK AT MOST 1048576: true; the input reads as it did. -/
def fnExactFlatManyUptoRow : OpenClaim := { program := "ytbbinbgepbkihaa", sum := "a201a48149a26e4b74bc4ddcbc407405325d75229b5cb9a69e609e5632b90e65", func := "loop.example/dominotilings/laws.FnExactFlatMany", spec := "fnExactFlatMany", apart := false, narrowed := true }
def FnExactFlatManyUptoSaid : Prop := fnExactFlatManyUptoRow.holds Try.pinned (OpenSpec.upto fnExactFlatManySpec)

/-- 'laws.FnExactLaidBare', WHERE WHAT IT READS IS OF BULK AT MOST 1048576: true; the input reads as it did. -/
def fnExactLaidBareUptoRow : OpenClaim := { program := "ytbbinbgepbkihaa", sum := "a201a48149a26e4b74bc4ddcbc407405325d75229b5cb9a69e609e5632b90e65", func := "loop.example/dominotilings/laws.FnExactLaidBare", spec := "fnExactLaidBare", apart := false, narrowed := true }
def FnExactLaidBareUptoSaid : Prop := fnExactLaidBareUptoRow.holds Try.pinned (OpenSpec.upto fnExactLaidBareSpec)

/-- 'laws.FnExactLayOne', WHERE WHAT IT READS IS OF BULK AT MOST 1048576: true; the input reads as it did. -/
def fnExactLayOneUptoRow : OpenClaim := { program := "ytbbinbgepbkihaa", sum := "a201a48149a26e4b74bc4ddcbc407405325d75229b5cb9a69e609e5632b90e65", func := "loop.example/dominotilings/laws.FnExactLayOne", spec := "fnExactLayOne", apart := false, narrowed := true }
def FnExactLayOneUptoSaid : Prop := fnExactLayOneUptoRow.holds Try.pinned (OpenSpec.upto fnExactLayOneSpec)

/-- 'laws.FnExactLiftOne', WHERE WHAT IT READS IS OF BULK AT MOST 1048576: true; the input reads as it did. -/
def fnExactLiftOneUptoRow : OpenClaim := { program := "ytbbinbgepbkihaa", sum := "a201a48149a26e4b74bc4ddcbc407405325d75229b5cb9a69e609e5632b90e65", func := "loop.example/dominotilings/laws.FnExactLiftOne", spec := "fnExactLiftOne", apart := false, narrowed := true }
def FnExactLiftOneUptoSaid : Prop := fnExactLiftOneUptoRow.holds Try.pinned (OpenSpec.upto fnExactLiftOneSpec)

/-- 'laws.FnExactTilingTurn', WHERE WHAT IT READS IS OF BULK AT MOST 1048576: true; the input reads as it did. -/
def fnExactTilingTurnUptoRow : OpenClaim := { program := "ytbbinbgepbkihaa", sum := "a201a48149a26e4b74bc4ddcbc407405325d75229b5cb9a69e609e5632b90e65", func := "loop.example/dominotilings/laws.FnExactTilingTurn", spec := "fnExactTilingTurn", apart := false, narrowed := true }
def FnExactTilingTurnUptoSaid : Prop := fnExactTilingTurnUptoRow.holds Try.pinned (OpenSpec.upto fnExactTilingTurnSpec)

/-- 'laws.FnExactTilingFlip', WHERE WHAT IT READS IS OF BULK AT MOST 1048576: true; the input reads as it did. -/
def fnExactTilingFlipUptoRow : OpenClaim := { program := "ytbbinbgepbkihaa", sum := "a201a48149a26e4b74bc4ddcbc407405325d75229b5cb9a69e609e5632b90e65", func := "loop.example/dominotilings/laws.FnExactTilingFlip", spec := "fnExactTilingFlip", apart := false, narrowed := true }
def FnExactTilingFlipUptoSaid : Prop := fnExactTilingFlipUptoRow.holds Try.pinned (OpenSpec.upto fnExactTilingFlipSpec)

/-- 'laws.FnExactFaultsOf', WHERE WHAT IT READS IS OF BULK AT MOST 1048576: true; the input reads as it did. -/
def fnExactFaultsOfUptoRow : OpenClaim := { program := "ytbbinbgepbkihaa", sum := "a201a48149a26e4b74bc4ddcbc407405325d75229b5cb9a69e609e5632b90e65", func := "loop.example/dominotilings/laws.FnExactFaultsOf", spec := "fnExactFaultsOf", apart := false, narrowed := true }
def FnExactFaultsOfUptoSaid : Prop := fnExactFaultsOfUptoRow.holds Try.pinned (OpenSpec.upto fnExactFaultsOfSpec)

/-- 'laws.FnExactRegionTurn', WHERE WHAT IT READS IS OF BULK AT MOST 1048576: true; the input reads as it did. -/
def fnExactRegionTurnUptoRow : OpenClaim := { program := "ytbbinbgepbkihaa", sum := "a201a48149a26e4b74bc4ddcbc407405325d75229b5cb9a69e609e5632b90e65", func := "loop.example/dominotilings/laws.FnExactRegionTurn", spec := "fnExactRegionTurn", apart := false, narrowed := true }
def FnExactRegionTurnUptoSaid : Prop := fnExactRegionTurnUptoRow.holds Try.pinned (OpenSpec.upto fnExactRegionTurnSpec)

end Rows
end Go.Proofs.Ytbbinbgepbkihaa
