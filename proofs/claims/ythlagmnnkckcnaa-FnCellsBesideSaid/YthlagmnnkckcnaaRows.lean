/-
  No cell of these rows narrows 'for every input' (looked for: loops, veiled, ifaces, maps, wideKeys, modest, calm, conditions, laid).
  DERIVED. THE GIVEN ROWS OF THIS SEAT. 10 by the template 'for every input the law returns true; each argument reads behind the call as it read before'; 0 by the template 'total and deterministic' (their statements: YthlagmnnkckcnaaTotals.lean).
  GIVEN WITH THE SEED: the statements are not yours to turn. If you find one false, say at which input.
  Laid BY PROGRAM, IN A SANDBOX (cutbox-rows.mjs): the forced cells as the released guide's own fill.sh prints them over the translation 5d51dafee7f44e06… (all of the seat's roots in one cut). By AI agents, Wed Nov 11 2026. No macro, syntax, notation, axiom, sorry.
-/
import Derived.Test.YthlagmnnkckcnaaChecked
import GoSem.Claim
import GoSem.ClaimJoined
import GoSem.ClaimMapViews
import Derived.JoinedTies
import Derived.KernelRfl
namespace Go.Proofs.Ythlagmnnkckcnaa
/- THE CELL 'sum', in the pinned program and in every row, IS THE sha256 OF THE DUMP (.gsa) THAT YthlagmnnkckcnaaProg.lean LOADS. Nothing in Lean hashes anything: it is a label: what it is worth is what the hold of that sum in a sandbox is worth. -/
noncomputable def Try.pinned : Pinned := { name := "ythlagmnnkckcnaa", sum := "5d51dafee7f44e069e3dd3c66e686ada38431ae65114ec5e5dfb3771e0093e83", checked := Try.checked }
namespace Rows
def none {H : Type} : Left H := { results := [], args := [] }

/-- 'laws.FnDarkCells': WHATEVER THE INPUT: true; the input reads as it did. -/
def fnDarkCellsSpec : ChangeSpec := { name := "fnDarkCells", fn := fun _ => fun
  | [d] => { results := [.lit (.bool true)], args := [d] }
  | _ => none }
def fnDarkCellsRow : OpenClaim := { program := "ythlagmnnkckcnaa", sum := "5d51dafee7f44e069e3dd3c66e686ada38431ae65114ec5e5dfb3771e0093e83", func := "loop.example/dominotilings/laws.FnDarkCells", spec := "fnDarkCells", apart := false }
def FnDarkCellsSaid : Prop := fnDarkCellsRow.holds Try.pinned (OpenSpec.ofChange fnDarkCellsSpec)

/-- ITS FALSE NEIGHBOUR: 'it returns false'. Refute it at one input. -/
def fnDarkCellsWrong : ChangeSpec := { name := "fnDarkCells", fn := fun _ => fun
  | [d] => { results := [.lit (.bool false)], args := [d] }
  | _ => none }
def FnDarkCellsWrongFalsely : Prop := fnDarkCellsRow.holds Try.pinned (OpenSpec.ofChange fnDarkCellsWrong)

/-- 'laws.FnCellsBeside': WHATEVER THE INPUT: true; the input reads as it did. -/
def fnCellsBesideSpec : ChangeSpec := { name := "fnCellsBeside", fn := fun _ => fun
  | [d] => { results := [.lit (.bool true)], args := [d] }
  | _ => none }
def fnCellsBesideRow : OpenClaim := { program := "ythlagmnnkckcnaa", sum := "5d51dafee7f44e069e3dd3c66e686ada38431ae65114ec5e5dfb3771e0093e83", func := "loop.example/dominotilings/laws.FnCellsBeside", spec := "fnCellsBeside", apart := false }
def FnCellsBesideSaid : Prop := fnCellsBesideRow.holds Try.pinned (OpenSpec.ofChange fnCellsBesideSpec)

/-- ITS FALSE NEIGHBOUR: 'it returns false'. Refute it at one input. -/
def fnCellsBesideWrong : ChangeSpec := { name := "fnCellsBeside", fn := fun _ => fun
  | [d] => { results := [.lit (.bool false)], args := [d] }
  | _ => none }
def FnCellsBesideWrongFalsely : Prop := fnCellsBesideRow.holds Try.pinned (OpenSpec.ofChange fnCellsBesideWrong)

/-- 'laws.FnRoundOf': WHATEVER THE INPUT: true; the input reads as it did. -/
def fnRoundOfSpec : ChangeSpec := { name := "fnRoundOf", fn := fun _ => fun
  | [d] => { results := [.lit (.bool true)], args := [d] }
  | _ => none }
def fnRoundOfRow : OpenClaim := { program := "ythlagmnnkckcnaa", sum := "5d51dafee7f44e069e3dd3c66e686ada38431ae65114ec5e5dfb3771e0093e83", func := "loop.example/dominotilings/laws.FnRoundOf", spec := "fnRoundOf", recurses := true, apart := false }
def FnRoundOfSaid : Prop := fnRoundOfRow.holds Try.pinned (OpenSpec.ofChange fnRoundOfSpec)

/-- ITS FALSE NEIGHBOUR: 'it returns false'. Refute it at one input. -/
def fnRoundOfWrong : ChangeSpec := { name := "fnRoundOf", fn := fun _ => fun
  | [d] => { results := [.lit (.bool false)], args := [d] }
  | _ => none }
def FnRoundOfWrongFalsely : Prop := fnRoundOfRow.holds Try.pinned (OpenSpec.ofChange fnRoundOfWrong)

/-- 'laws.FnColourMany': WHATEVER THE INPUT: true; the input reads as it did. -/
def fnColourManySpec : ChangeSpec := { name := "fnColourMany", fn := fun _ => fun
  | [d] => { results := [.lit (.bool true)], args := [d] }
  | _ => none }
def fnColourManyRow : OpenClaim := { program := "ythlagmnnkckcnaa", sum := "5d51dafee7f44e069e3dd3c66e686ada38431ae65114ec5e5dfb3771e0093e83", func := "loop.example/dominotilings/laws.FnColourMany", spec := "fnColourMany", apart := false }
def FnColourManySaid : Prop := fnColourManyRow.holds Try.pinned (OpenSpec.ofChange fnColourManySpec)

/-- ITS FALSE NEIGHBOUR: 'it returns false'. Refute it at one input. -/
def fnColourManyWrong : ChangeSpec := { name := "fnColourMany", fn := fun _ => fun
  | [d] => { results := [.lit (.bool false)], args := [d] }
  | _ => none }
def FnColourManyWrongFalsely : Prop := fnColourManyRow.holds Try.pinned (OpenSpec.ofChange fnColourManyWrong)

/-- 'laws.FnExactDarkCells': WHATEVER THE INPUT: true; the input reads as it did. -/
def fnExactDarkCellsSpec : ChangeSpec := { name := "fnExactDarkCells", fn := fun _ => fun
  | [d] => { results := [.lit (.bool true)], args := [d] }
  | _ => none }
def fnExactDarkCellsRow : OpenClaim := { program := "ythlagmnnkckcnaa", sum := "5d51dafee7f44e069e3dd3c66e686ada38431ae65114ec5e5dfb3771e0093e83", func := "loop.example/dominotilings/laws.FnExactDarkCells", spec := "fnExactDarkCells", apart := false }
def FnExactDarkCellsSaid : Prop := fnExactDarkCellsRow.holds Try.pinned (OpenSpec.ofChange fnExactDarkCellsSpec)

/-- ITS FALSE NEIGHBOUR: 'it returns false'. Refute it at one input. -/
def fnExactDarkCellsWrong : ChangeSpec := { name := "fnExactDarkCells", fn := fun _ => fun
  | [d] => { results := [.lit (.bool false)], args := [d] }
  | _ => none }
def FnExactDarkCellsWrongFalsely : Prop := fnExactDarkCellsRow.holds Try.pinned (OpenSpec.ofChange fnExactDarkCellsWrong)

/-- 'laws.FnExactCellsBeside': WHATEVER THE INPUT: true; the input reads as it did. -/
def fnExactCellsBesideSpec : ChangeSpec := { name := "fnExactCellsBeside", fn := fun _ => fun
  | [d1, d2] => { results := [.lit (.bool true)], args := [d1, d2] }
  | _ => none }
def fnExactCellsBesideRow : OpenClaim := { program := "ythlagmnnkckcnaa", sum := "5d51dafee7f44e069e3dd3c66e686ada38431ae65114ec5e5dfb3771e0093e83", func := "loop.example/dominotilings/laws.FnExactCellsBeside", spec := "fnExactCellsBeside", apart := false }
def FnExactCellsBesideSaid : Prop := fnExactCellsBesideRow.holds Try.pinned (OpenSpec.ofChange fnExactCellsBesideSpec)

/-- ITS FALSE NEIGHBOUR: 'it returns false'. Refute it at one input. -/
def fnExactCellsBesideWrong : ChangeSpec := { name := "fnExactCellsBeside", fn := fun _ => fun
  | [d1, d2] => { results := [.lit (.bool false)], args := [d1, d2] }
  | _ => none }
def FnExactCellsBesideWrongFalsely : Prop := fnExactCellsBesideRow.holds Try.pinned (OpenSpec.ofChange fnExactCellsBesideWrong)

/-- 'laws.FnExactRoundOf': WHATEVER THE INPUT: true; the input reads as it did. -/
def fnExactRoundOfSpec : ChangeSpec := { name := "fnExactRoundOf", fn := fun _ => fun
  | [d1, d2] => { results := [.lit (.bool true)], args := [d1, d2] }
  | _ => none }
def fnExactRoundOfRow : OpenClaim := { program := "ythlagmnnkckcnaa", sum := "5d51dafee7f44e069e3dd3c66e686ada38431ae65114ec5e5dfb3771e0093e83", func := "loop.example/dominotilings/laws.FnExactRoundOf", spec := "fnExactRoundOf", recurses := true, apart := false }
def FnExactRoundOfSaid : Prop := fnExactRoundOfRow.holds Try.pinned (OpenSpec.ofChange fnExactRoundOfSpec)

/-- ITS FALSE NEIGHBOUR: 'it returns false'. Refute it at one input. -/
def fnExactRoundOfWrong : ChangeSpec := { name := "fnExactRoundOf", fn := fun _ => fun
  | [d1, d2] => { results := [.lit (.bool false)], args := [d1, d2] }
  | _ => none }
def FnExactRoundOfWrongFalsely : Prop := fnExactRoundOfRow.holds Try.pinned (OpenSpec.ofChange fnExactRoundOfWrong)

/-- 'laws.FnExactColourMany': WHATEVER THE INPUT: true; the input reads as it did. -/
def fnExactColourManySpec : ChangeSpec := { name := "fnExactColourMany", fn := fun _ => fun
  | [d1, d2, d3] => { results := [.lit (.bool true)], args := [d1, d2, d3] }
  | _ => none }
def fnExactColourManyRow : OpenClaim := { program := "ythlagmnnkckcnaa", sum := "5d51dafee7f44e069e3dd3c66e686ada38431ae65114ec5e5dfb3771e0093e83", func := "loop.example/dominotilings/laws.FnExactColourMany", spec := "fnExactColourMany", apart := false }
def FnExactColourManySaid : Prop := fnExactColourManyRow.holds Try.pinned (OpenSpec.ofChange fnExactColourManySpec)

/-- ITS FALSE NEIGHBOUR: 'it returns false'. Refute it at one input. -/
def fnExactColourManyWrong : ChangeSpec := { name := "fnExactColourMany", fn := fun _ => fun
  | [d1, d2, d3] => { results := [.lit (.bool false)], args := [d1, d2, d3] }
  | _ => none }
def FnExactColourManyWrongFalsely : Prop := fnExactColourManyRow.holds Try.pinned (OpenSpec.ofChange fnExactColourManyWrong)

/-- 'laws.FnExactColoursEven': WHATEVER THE INPUT: true; the input reads as it did. -/
def fnExactColoursEvenSpec : ChangeSpec := { name := "fnExactColoursEven", fn := fun _ => fun
  | [d1, d2] => { results := [.lit (.bool true)], args := [d1, d2] }
  | _ => none }
def fnExactColoursEvenRow : OpenClaim := { program := "ythlagmnnkckcnaa", sum := "5d51dafee7f44e069e3dd3c66e686ada38431ae65114ec5e5dfb3771e0093e83", func := "loop.example/dominotilings/laws.FnExactColoursEven", spec := "fnExactColoursEven", apart := false }
def FnExactColoursEvenSaid : Prop := fnExactColoursEvenRow.holds Try.pinned (OpenSpec.ofChange fnExactColoursEvenSpec)

/-- ITS FALSE NEIGHBOUR: 'it returns false'. Refute it at one input. -/
def fnExactColoursEvenWrong : ChangeSpec := { name := "fnExactColoursEven", fn := fun _ => fun
  | [d1, d2] => { results := [.lit (.bool false)], args := [d1, d2] }
  | _ => none }
def FnExactColoursEvenWrongFalsely : Prop := fnExactColoursEvenRow.holds Try.pinned (OpenSpec.ofChange fnExactColoursEvenWrong)

/-- 'laws.FnExactBarsMany': WHATEVER THE INPUT: true; the input reads as it did. -/
def fnExactBarsManySpec : ChangeSpec := { name := "fnExactBarsMany", fn := fun _ => fun
  | [d1, d2] => { results := [.lit (.bool true)], args := [d1, d2] }
  | _ => none }
def fnExactBarsManyRow : OpenClaim := { program := "ythlagmnnkckcnaa", sum := "5d51dafee7f44e069e3dd3c66e686ada38431ae65114ec5e5dfb3771e0093e83", func := "loop.example/dominotilings/laws.FnExactBarsMany", spec := "fnExactBarsMany", recurses := true, apart := false }
def FnExactBarsManySaid : Prop := fnExactBarsManyRow.holds Try.pinned (OpenSpec.ofChange fnExactBarsManySpec)

/-- ITS FALSE NEIGHBOUR: 'it returns false'. Refute it at one input. -/
def fnExactBarsManyWrong : ChangeSpec := { name := "fnExactBarsMany", fn := fun _ => fun
  | [d1, d2] => { results := [.lit (.bool false)], args := [d1, d2] }
  | _ => none }
def FnExactBarsManyWrongFalsely : Prop := fnExactBarsManyRow.holds Try.pinned (OpenSpec.ofChange fnExactBarsManyWrong)

/- THE SECOND FORM. 'bulk': how many values and letters a reading holds, each counted each time it is reached (what is shared counts as often as it is met; a slice's spare places count too). A statement '..UptoSaid' is the law's where the arguments, and the package variables that the reading takes, are together of bulk at most 1048576: NARROWER than '..Said'. Prove '..Said' where nothing that the law and all that it calls make is longer than what came in: it says more and counts as full. Else prove '..UptoSaid'. A law counts once. -/
mutual
def uptoBulk {H : Type} : DataW H → Nat
  | .lit (.string bytes) => bytes.length + 1
  | .lit _ => 1
  | .nil => 1
  | .ptr d => uptoBulk d + 1
  | .slice elems spare => uptoBulkAll elems + uptoBulkAll spare + 1
  | .agg parts => uptoBulkAll parts + 1
  | .iface _ d => uptoBulk d + 1
  | .map entries => uptoBulkEntries entries + 1
  | .held _ => 1
def uptoBulkAll {H : Type} : List (DataW H) → Nat
  | [] => 0
  | d :: r => uptoBulk d + uptoBulkAll r
def uptoBulkEntries {H : Type} : List (Lit × DataW H) → Nat
  | [] => 0
  | x :: r => uptoBulkEntry x + uptoBulkEntries r
def uptoBulkEntry {H : Type} : Lit × DataW H → Nat
  | (.string bytes, d) => bytes.length + uptoBulk d + 1
  | (_, d) => uptoBulk d + 1
 end
def uptoSmall : (H : Type) → List (DataW H) → Bool := fun _ ds => decide (uptoBulkAll ds ≤ 1048576)
def OpenSpec.upto (s : _root_.Go.ChangeSpec) : _root_.Go.OpenSpec := { _root_.Go.OpenSpec.ofChange s with cond := some uptoSmall }

/-- 'laws.FnDarkCells', WHERE WHAT IT READS IS OF BULK AT MOST 1048576: true; the input reads as it did. -/
def fnDarkCellsUptoRow : OpenClaim := { program := "ythlagmnnkckcnaa", sum := "5d51dafee7f44e069e3dd3c66e686ada38431ae65114ec5e5dfb3771e0093e83", func := "loop.example/dominotilings/laws.FnDarkCells", spec := "fnDarkCells", apart := false, narrowed := true }
def FnDarkCellsUptoSaid : Prop := fnDarkCellsUptoRow.holds Try.pinned (OpenSpec.upto fnDarkCellsSpec)

/-- 'laws.FnCellsBeside', WHERE WHAT IT READS IS OF BULK AT MOST 1048576: true; the input reads as it did. -/
def fnCellsBesideUptoRow : OpenClaim := { program := "ythlagmnnkckcnaa", sum := "5d51dafee7f44e069e3dd3c66e686ada38431ae65114ec5e5dfb3771e0093e83", func := "loop.example/dominotilings/laws.FnCellsBeside", spec := "fnCellsBeside", apart := false, narrowed := true }
def FnCellsBesideUptoSaid : Prop := fnCellsBesideUptoRow.holds Try.pinned (OpenSpec.upto fnCellsBesideSpec)

/-- 'laws.FnRoundOf', WHERE WHAT IT READS IS OF BULK AT MOST 1048576: true; the input reads as it did. -/
def fnRoundOfUptoRow : OpenClaim := { program := "ythlagmnnkckcnaa", sum := "5d51dafee7f44e069e3dd3c66e686ada38431ae65114ec5e5dfb3771e0093e83", func := "loop.example/dominotilings/laws.FnRoundOf", spec := "fnRoundOf", recurses := true, apart := false, narrowed := true }
def FnRoundOfUptoSaid : Prop := fnRoundOfUptoRow.holds Try.pinned (OpenSpec.upto fnRoundOfSpec)

/-- 'laws.FnColourMany', WHERE WHAT IT READS IS OF BULK AT MOST 1048576: true; the input reads as it did. -/
def fnColourManyUptoRow : OpenClaim := { program := "ythlagmnnkckcnaa", sum := "5d51dafee7f44e069e3dd3c66e686ada38431ae65114ec5e5dfb3771e0093e83", func := "loop.example/dominotilings/laws.FnColourMany", spec := "fnColourMany", apart := false, narrowed := true }
def FnColourManyUptoSaid : Prop := fnColourManyUptoRow.holds Try.pinned (OpenSpec.upto fnColourManySpec)

/-- 'laws.FnExactDarkCells', WHERE WHAT IT READS IS OF BULK AT MOST 1048576: true; the input reads as it did. -/
def fnExactDarkCellsUptoRow : OpenClaim := { program := "ythlagmnnkckcnaa", sum := "5d51dafee7f44e069e3dd3c66e686ada38431ae65114ec5e5dfb3771e0093e83", func := "loop.example/dominotilings/laws.FnExactDarkCells", spec := "fnExactDarkCells", apart := false, narrowed := true }
def FnExactDarkCellsUptoSaid : Prop := fnExactDarkCellsUptoRow.holds Try.pinned (OpenSpec.upto fnExactDarkCellsSpec)

/-- 'laws.FnExactCellsBeside', WHERE WHAT IT READS IS OF BULK AT MOST 1048576: true; the input reads as it did. -/
def fnExactCellsBesideUptoRow : OpenClaim := { program := "ythlagmnnkckcnaa", sum := "5d51dafee7f44e069e3dd3c66e686ada38431ae65114ec5e5dfb3771e0093e83", func := "loop.example/dominotilings/laws.FnExactCellsBeside", spec := "fnExactCellsBeside", apart := false, narrowed := true }
def FnExactCellsBesideUptoSaid : Prop := fnExactCellsBesideUptoRow.holds Try.pinned (OpenSpec.upto fnExactCellsBesideSpec)

/-- 'laws.FnExactRoundOf', WHERE WHAT IT READS IS OF BULK AT MOST 1048576: true; the input reads as it did. -/
def fnExactRoundOfUptoRow : OpenClaim := { program := "ythlagmnnkckcnaa", sum := "5d51dafee7f44e069e3dd3c66e686ada38431ae65114ec5e5dfb3771e0093e83", func := "loop.example/dominotilings/laws.FnExactRoundOf", spec := "fnExactRoundOf", recurses := true, apart := false, narrowed := true }
def FnExactRoundOfUptoSaid : Prop := fnExactRoundOfUptoRow.holds Try.pinned (OpenSpec.upto fnExactRoundOfSpec)

/-- 'laws.FnExactColourMany', WHERE WHAT IT READS IS OF BULK AT MOST 1048576: true; the input reads as it did. -/
def fnExactColourManyUptoRow : OpenClaim := { program := "ythlagmnnkckcnaa", sum := "5d51dafee7f44e069e3dd3c66e686ada38431ae65114ec5e5dfb3771e0093e83", func := "loop.example/dominotilings/laws.FnExactColourMany", spec := "fnExactColourMany", apart := false, narrowed := true }
def FnExactColourManyUptoSaid : Prop := fnExactColourManyUptoRow.holds Try.pinned (OpenSpec.upto fnExactColourManySpec)

/-- 'laws.FnExactColoursEven', WHERE WHAT IT READS IS OF BULK AT MOST 1048576: true; the input reads as it did. -/
def fnExactColoursEvenUptoRow : OpenClaim := { program := "ythlagmnnkckcnaa", sum := "5d51dafee7f44e069e3dd3c66e686ada38431ae65114ec5e5dfb3771e0093e83", func := "loop.example/dominotilings/laws.FnExactColoursEven", spec := "fnExactColoursEven", apart := false, narrowed := true }
def FnExactColoursEvenUptoSaid : Prop := fnExactColoursEvenUptoRow.holds Try.pinned (OpenSpec.upto fnExactColoursEvenSpec)

/-- 'laws.FnExactBarsMany', WHERE WHAT IT READS IS OF BULK AT MOST 1048576: true; the input reads as it did. -/
def fnExactBarsManyUptoRow : OpenClaim := { program := "ythlagmnnkckcnaa", sum := "5d51dafee7f44e069e3dd3c66e686ada38431ae65114ec5e5dfb3771e0093e83", func := "loop.example/dominotilings/laws.FnExactBarsMany", spec := "fnExactBarsMany", recurses := true, apart := false, narrowed := true }
def FnExactBarsManyUptoSaid : Prop := fnExactBarsManyUptoRow.holds Try.pinned (OpenSpec.upto fnExactBarsManySpec)

end Rows
end Go.Proofs.Ythlagmnnkckcnaa
