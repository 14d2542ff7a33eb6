/-
  No cell of these rows narrows 'for every input' (looked for: loops, veiled, ifaces, maps, wideKeys, modest, calm, conditions, laid).
  DERIVED. THE GIVEN ROWS OF THIS SEAT. 6 by the template 'for every input the law returns true; each argument reads behind the call as it read before'; 0 by the template 'total and deterministic' (their statements: YtjhonkhholehkaaTotals.lean).
  GIVEN WITH THE SEED: the statements are not yours to turn. If you find one false, say at which input.
  Laid BY PROGRAM, IN A SANDBOX (cutbox-rows.mjs): the forced cells as the released guide's own fill.sh prints them over the translation 880350139bdee0e0… (all of the seat's roots in one cut). By AI agents, Wed Nov 11 2026. No macro, syntax, notation, axiom, sorry.
-/
import Derived.Test.YtjhonkhholehkaaChecked
import GoSem.Claim
import GoSem.ClaimJoined
import GoSem.ClaimMapViews
import Derived.JoinedTies
import Derived.KernelRfl
namespace Go.Proofs.Ytjhonkhholehkaa
/- THE CELL 'sum', in the pinned program and in every row, IS THE sha256 OF THE DUMP (.gsa) THAT YtjhonkhholehkaaProg.lean LOADS. Nothing in Lean hashes anything: it is a label: what it is worth is what the hold of that sum in a sandbox is worth. -/
noncomputable def Try.pinned : Pinned := { name := "ytjhonkhholehkaa", sum := "880350139bdee0e0562bad3c840c0a6d1084fc4c011e82117774b56abd97ca5b", checked := Try.checked }
namespace Rows
def none {H : Type} : Left H := { results := [], args := [] }

/-- 'laws.FnExactFlipMay': WHATEVER THE INPUT: true; the input reads as it did. -/
def fnExactFlipMaySpec : ChangeSpec := { name := "fnExactFlipMay", fn := fun _ => fun
  | [d1, d2, d3] => { results := [.lit (.bool true)], args := [d1, d2, d3] }
  | _ => none }
def fnExactFlipMayRow : OpenClaim := { program := "ytjhonkhholehkaa", sum := "880350139bdee0e0562bad3c840c0a6d1084fc4c011e82117774b56abd97ca5b", func := "loop.example/dominotilings/laws.FnExactFlipMay", spec := "fnExactFlipMay", apart := false }
def FnExactFlipMaySaid : Prop := fnExactFlipMayRow.holds Try.pinned (OpenSpec.ofChange fnExactFlipMaySpec)

/-- ITS FALSE NEIGHBOUR: 'it returns false'. Refute it at one input. -/
def fnExactFlipMayWrong : ChangeSpec := { name := "fnExactFlipMay", fn := fun _ => fun
  | [d1, d2, d3] => { results := [.lit (.bool false)], args := [d1, d2, d3] }
  | _ => none }
def FnExactFlipMayWrongFalsely : Prop := fnExactFlipMayRow.holds Try.pinned (OpenSpec.ofChange fnExactFlipMayWrong)

/-- 'laws.FnExactFlipOne': WHATEVER THE INPUT: true; the input reads as it did. -/
def fnExactFlipOneSpec : ChangeSpec := { name := "fnExactFlipOne", fn := fun _ => fun
  | [d1, d2, d3] => { results := [.lit (.bool true)], args := [d1, d2, d3] }
  | _ => none }
def fnExactFlipOneRow : OpenClaim := { program := "ytjhonkhholehkaa", sum := "880350139bdee0e0562bad3c840c0a6d1084fc4c011e82117774b56abd97ca5b", func := "loop.example/dominotilings/laws.FnExactFlipOne", spec := "fnExactFlipOne", apart := false }
def FnExactFlipOneSaid : Prop := fnExactFlipOneRow.holds Try.pinned (OpenSpec.ofChange fnExactFlipOneSpec)

/-- ITS FALSE NEIGHBOUR: 'it returns false'. Refute it at one input. -/
def fnExactFlipOneWrong : ChangeSpec := { name := "fnExactFlipOne", fn := fun _ => fun
  | [d1, d2, d3] => { results := [.lit (.bool false)], args := [d1, d2, d3] }
  | _ => none }
def FnExactFlipOneWrongFalsely : Prop := fnExactFlipOneRow.holds Try.pinned (OpenSpec.ofChange fnExactFlipOneWrong)

/-- 'laws.FnExactFlipsOf': WHATEVER THE INPUT: true; the input reads as it did. -/
def fnExactFlipsOfSpec : ChangeSpec := { name := "fnExactFlipsOf", fn := fun _ => fun
  | [d1, d2] => { results := [.lit (.bool true)], args := [d1, d2] }
  | _ => none }
def fnExactFlipsOfRow : OpenClaim := { program := "ytjhonkhholehkaa", sum := "880350139bdee0e0562bad3c840c0a6d1084fc4c011e82117774b56abd97ca5b", func := "loop.example/dominotilings/laws.FnExactFlipsOf", spec := "fnExactFlipsOf", unfollowed := true, recurses := true, apart := false }
def FnExactFlipsOfSaid : Prop := fnExactFlipsOfRow.holds Try.pinned (OpenSpec.ofChange fnExactFlipsOfSpec)

/-- ITS FALSE NEIGHBOUR: 'it returns false'. Refute it at one input. -/
def fnExactFlipsOfWrong : ChangeSpec := { name := "fnExactFlipsOf", fn := fun _ => fun
  | [d1, d2] => { results := [.lit (.bool false)], args := [d1, d2] }
  | _ => none }
def FnExactFlipsOfWrongFalsely : Prop := fnExactFlipsOfRow.holds Try.pinned (OpenSpec.ofChange fnExactFlipsOfWrong)

/-- 'laws.FnExactFlipRun': WHATEVER THE INPUT: true; the input reads as it did. -/
def fnExactFlipRunSpec : ChangeSpec := { name := "fnExactFlipRun", fn := fun _ => fun
  | [d1, d2, d3] => { results := [.lit (.bool true)], args := [d1, d2, d3] }
  | _ => none }
def fnExactFlipRunRow : OpenClaim := { program := "ytjhonkhholehkaa", sum := "880350139bdee0e0562bad3c840c0a6d1084fc4c011e82117774b56abd97ca5b", func := "loop.example/dominotilings/laws.FnExactFlipRun", spec := "fnExactFlipRun", apart := false }
def FnExactFlipRunSaid : Prop := fnExactFlipRunRow.holds Try.pinned (OpenSpec.ofChange fnExactFlipRunSpec)

/-- ITS FALSE NEIGHBOUR: 'it returns false'. Refute it at one input. -/
def fnExactFlipRunWrong : ChangeSpec := { name := "fnExactFlipRun", fn := fun _ => fun
  | [d1, d2, d3] => { results := [.lit (.bool false)], args := [d1, d2, d3] }
  | _ => none }
def FnExactFlipRunWrongFalsely : Prop := fnExactFlipRunRow.holds Try.pinned (OpenSpec.ofChange fnExactFlipRunWrong)

/-- 'laws.FnExactFrozen': WHATEVER THE INPUT: true; the input reads as it did. -/
def fnExactFrozenSpec : ChangeSpec := { name := "fnExactFrozen", fn := fun _ => fun
  | [d1, d2] => { results := [.lit (.bool true)], args := [d1, d2] }
  | _ => none }
def fnExactFrozenRow : OpenClaim := { program := "ytjhonkhholehkaa", sum := "880350139bdee0e0562bad3c840c0a6d1084fc4c011e82117774b56abd97ca5b", func := "loop.example/dominotilings/laws.FnExactFrozen", spec := "fnExactFrozen", unfollowed := true, recurses := true, apart := false }
def FnExactFrozenSaid : Prop := fnExactFrozenRow.holds Try.pinned (OpenSpec.ofChange fnExactFrozenSpec)

/-- ITS FALSE NEIGHBOUR: 'it returns false'. Refute it at one input. -/
def fnExactFrozenWrong : ChangeSpec := { name := "fnExactFrozen", fn := fun _ => fun
  | [d1, d2] => { results := [.lit (.bool false)], args := [d1, d2] }
  | _ => none }
def FnExactFrozenWrongFalsely : Prop := fnExactFrozenRow.holds Try.pinned (OpenSpec.ofChange fnExactFrozenWrong)

/-- 'laws.FnExactFlipLines': WHATEVER THE INPUT: true; the input reads as it did. -/
def fnExactFlipLinesSpec : ChangeSpec := { name := "fnExactFlipLines", fn := fun _ => fun
  | [d] => { results := [.lit (.bool true)], args := [d] }
  | _ => none }
def fnExactFlipLinesRow : OpenClaim := { program := "ytjhonkhholehkaa", sum := "880350139bdee0e0562bad3c840c0a6d1084fc4c011e82117774b56abd97ca5b", func := "loop.example/dominotilings/laws.FnExactFlipLines", spec := "fnExactFlipLines", unfollowed := true, recurses := true, apart := false }
def FnExactFlipLinesSaid : Prop := fnExactFlipLinesRow.holds Try.pinned (OpenSpec.ofChange fnExactFlipLinesSpec)

/-- ITS FALSE NEIGHBOUR: 'it returns false'. Refute it at one input. -/
def fnExactFlipLinesWrong : ChangeSpec := { name := "fnExactFlipLines", fn := fun _ => fun
  | [d] => { results := [.lit (.bool false)], args := [d] }
  | _ => none }
def FnExactFlipLinesWrongFalsely : Prop := fnExactFlipLinesRow.holds Try.pinned (OpenSpec.ofChange fnExactFlipLinesWrong)

/- THE SECOND FORM. 'bulk': how many values and letters a reading holds, each counted each time it is reached (what is shared counts as often as it is met; a slice's spare places count too). A statement '..UptoSaid' is the law's where the arguments, and the package variables that the reading takes, are together of bulk at most 1048576: NARROWER than '..Said'. Prove '..Said' where nothing that the law and all that it calls make is longer than what came in: it says more and counts as full. Else prove '..UptoSaid'. A law counts once. -/
mutual
def uptoBulk {H : Type} : DataW H → Nat
  | .lit (.string bytes) => bytes.length + 1
  | .lit _ => 1
  | .nil => 1
  | .ptr d => uptoBulk d + 1
  | .slice elems spare => uptoBulkAll elems + uptoBulkAll spare + 1
  | .agg parts => uptoBulkAll parts + 1
  | .iface _ d => uptoBulk d + 1
  | .map entries => uptoBulkEntries entries + 1
  | .held _ => 1
def uptoBulkAll {H : Type} : List (DataW H) → Nat
  | [] => 0
  | d :: r => uptoBulk d + uptoBulkAll r
def uptoBulkEntries {H : Type} : List (Lit × DataW H) → Nat
  | [] => 0
  | x :: r => uptoBulkEntry x + uptoBulkEntries r
def uptoBulkEntry {H : Type} : Lit × DataW H → Nat
  | (.string bytes, d) => bytes.length + uptoBulk d + 1
  | (_, d) => uptoBulk d + 1
 end
def uptoSmall : (H : Type) → List (DataW H) → Bool := fun _ ds => decide (uptoBulkAll ds ≤ 1048576)
def OpenSpec.upto (s : _root_.Go.ChangeSpec) : _root_.Go.OpenSpec := { _root_.Go.OpenSpec.ofChange s with cond := some uptoSmall }

/-- 'laws.FnExactFlipMay', WHERE WHAT IT READS IS OF BULK AT MOST 1048576: true; the input reads as it did. -/
def fnExactFlipMayUptoRow : OpenClaim := { program := "ytjhonkhholehkaa", sum := "880350139bdee0e0562bad3c840c0a6d1084fc4c011e82117774b56abd97ca5b", func := "loop.example/dominotilings/laws.FnExactFlipMay", spec := "fnExactFlipMay", apart := false, narrowed := true }
def FnExactFlipMayUptoSaid : Prop := fnExactFlipMayUptoRow.holds Try.pinned (OpenSpec.upto fnExactFlipMaySpec)

/-- 'laws.FnExactFlipOne', WHERE WHAT IT READS IS OF BULK AT MOST 1048576: true; the input reads as it did. -/
def fnExactFlipOneUptoRow : OpenClaim := { program := "ytjhonkhholehkaa", sum := "880350139bdee0e0562bad3c840c0a6d1084fc4c011e82117774b56abd97ca5b", func := "loop.example/dominotilings/laws.FnExactFlipOne", spec := "fnExactFlipOne", apart := false, narrowed := true }
def FnExactFlipOneUptoSaid : Prop := fnExactFlipOneUptoRow.holds Try.pinned (OpenSpec.upto fnExactFlipOneSpec)

/-- 'laws.FnExactFlipsOf', WHERE WHAT IT READS IS OF BULK AT MOST 1048576: true; the input reads as it did. -/
def fnExactFlipsOfUptoRow : OpenClaim := { program := "ytjhonkhholehkaa", sum := "880350139bdee0e0562bad3c840c0a6d1084fc4c011e82117774b56abd97ca5b", func := "loop.example/dominotilings/laws.FnExactFlipsOf", spec := "fnExactFlipsOf", unfollowed := true, recurses := true, apart := false, narrowed := true }
def FnExactFlipsOfUptoSaid : Prop := fnExactFlipsOfUptoRow.holds Try.pinned (OpenSpec.upto fnExactFlipsOfSpec)

/-- 'laws.FnExactFlipRun', WHERE WHAT IT READS IS OF BULK AT MOST 1048576: true; the input reads as it did. -/
def fnExactFlipRunUptoRow : OpenClaim := { program := "ytjhonkhholehkaa", sum := "880350139bdee0e0562bad3c840c0a6d1084fc4c011e82117774b56abd97ca5b", func := "loop.example/dominotilings/laws.FnExactFlipRun", spec := "fnExactFlipRun", apart := false, narrowed := true }
def FnExactFlipRunUptoSaid : Prop := fnExactFlipRunUptoRow.holds Try.pinned (OpenSpec.upto fnExactFlipRunSpec)

/-- 'laws.FnExactFrozen', WHERE WHAT IT READS IS OF BULK AT MOST 1048576: true; the input reads as it did. -/
def fnExactFrozenUptoRow : OpenClaim := { program := "ytjhonkhholehkaa", sum := "880350139bdee0e0562bad3c840c0a6d1084fc4c011e82117774b56abd97ca5b", func := "loop.example/dominotilings/laws.FnExactFrozen", spec := "fnExactFrozen", unfollowed := true, recurses := true, apart := false, narrowed := true }
def FnExactFrozenUptoSaid : Prop := fnExactFrozenUptoRow.holds Try.pinned (OpenSpec.upto fnExactFrozenSpec)

/-- 'laws.FnExactFlipLines', WHERE WHAT IT READS IS OF BULK AT MOST 1048576: true; the input reads as it did. -/
def fnExactFlipLinesUptoRow : OpenClaim := { program := "ytjhonkhholehkaa", sum := "880350139bdee0e0562bad3c840c0a6d1084fc4c011e82117774b56abd97ca5b", func := "loop.example/dominotilings/laws.FnExactFlipLines", spec := "fnExactFlipLines", unfollowed := true, recurses := true, apart := false, narrowed := true }
def FnExactFlipLinesUptoSaid : Prop := fnExactFlipLinesUptoRow.holds Try.pinned (OpenSpec.upto fnExactFlipLinesSpec)

end Rows
end Go.Proofs.Ytjhonkhholehkaa
