/-
  No cell of these rows narrows 'for every input' (looked for: loops, veiled, ifaces, maps, wideKeys, modest, calm, conditions, laid).
  DERIVED. THE GIVEN ROWS OF THIS SEAT. 4 by the template 'for every input the law returns true; each argument reads behind the call as it read before'; 0 by the template 'total and deterministic' (their statements: YtagbjhiagkkahaaTotals.lean).
  GIVEN WITH THE SEED: the statements are not yours to turn. If you find one false, say at which input.
  Laid BY PROGRAM, IN A SANDBOX (cutbox-rows.mjs): the forced cells as the released guide's own fill.sh prints them over the translation 572aa7c6e00e50d8… (all of the seat's roots in one cut). By AI agents, Wed Nov 11 2026. No macro, syntax, notation, axiom, sorry.
-/
import Derived.Test.YtagbjhiagkkahaaChecked
import GoSem.Claim
import GoSem.ClaimJoined
import GoSem.ClaimMapViews
import Derived.JoinedTies
import Derived.KernelRfl
namespace Go.Proofs.Ytagbjhiagkkahaa
/- THE CELL 'sum', in the pinned program and in every row, IS THE sha256 OF THE DUMP (.gsa) THAT YtagbjhiagkkahaaProg.lean LOADS. Nothing in Lean hashes anything: it is a label: what it is worth is what the hold of that sum in a sandbox is worth. -/
noncomputable def Try.pinned : Pinned := { name := "ytagbjhiagkkahaa", sum := "572aa7c6e00e50d8f2f3efc949c668ed62e8fe9d363c71783afb23d0291fb47a", checked := Try.checked }
namespace Rows
def none {H : Type} : Left H := { results := [], args := [] }

/-- 'laws.FnFlipMay': WHATEVER THE INPUT: true; the input reads as it did. -/
def fnFlipMaySpec : ChangeSpec := { name := "fnFlipMay", fn := fun _ => fun
  | [d] => { results := [.lit (.bool true)], args := [d] }
  | _ => none }
def fnFlipMayRow : OpenClaim := { program := "ytagbjhiagkkahaa", sum := "572aa7c6e00e50d8f2f3efc949c668ed62e8fe9d363c71783afb23d0291fb47a", func := "loop.example/dominotilings/laws.FnFlipMay", spec := "fnFlipMay", recurses := true, apart := false }
def FnFlipMaySaid : Prop := fnFlipMayRow.holds Try.pinned (OpenSpec.ofChange fnFlipMaySpec)

/-- ITS FALSE NEIGHBOUR: 'it returns false'. Refute it at one input. -/
def fnFlipMayWrong : ChangeSpec := { name := "fnFlipMay", fn := fun _ => fun
  | [d] => { results := [.lit (.bool false)], args := [d] }
  | _ => none }
def FnFlipMayWrongFalsely : Prop := fnFlipMayRow.holds Try.pinned (OpenSpec.ofChange fnFlipMayWrong)

/-- 'laws.FnFlipOne': WHATEVER THE INPUT: true; the input reads as it did. -/
def fnFlipOneSpec : ChangeSpec := { name := "fnFlipOne", fn := fun _ => fun
  | [d] => { results := [.lit (.bool true)], args := [d] }
  | _ => none }
def fnFlipOneRow : OpenClaim := { program := "ytagbjhiagkkahaa", sum := "572aa7c6e00e50d8f2f3efc949c668ed62e8fe9d363c71783afb23d0291fb47a", func := "loop.example/dominotilings/laws.FnFlipOne", spec := "fnFlipOne", recurses := true, apart := false }
def FnFlipOneSaid : Prop := fnFlipOneRow.holds Try.pinned (OpenSpec.ofChange fnFlipOneSpec)

/-- ITS FALSE NEIGHBOUR: 'it returns false'. Refute it at one input. -/
def fnFlipOneWrong : ChangeSpec := { name := "fnFlipOne", fn := fun _ => fun
  | [d] => { results := [.lit (.bool false)], args := [d] }
  | _ => none }
def FnFlipOneWrongFalsely : Prop := fnFlipOneRow.holds Try.pinned (OpenSpec.ofChange fnFlipOneWrong)

/-- 'laws.FnFlipRun': WHATEVER THE INPUT: true; the input reads as it did. -/
def fnFlipRunSpec : ChangeSpec := { name := "fnFlipRun", fn := fun _ => fun
  | [d] => { results := [.lit (.bool true)], args := [d] }
  | _ => none }
def fnFlipRunRow : OpenClaim := { program := "ytagbjhiagkkahaa", sum := "572aa7c6e00e50d8f2f3efc949c668ed62e8fe9d363c71783afb23d0291fb47a", func := "loop.example/dominotilings/laws.FnFlipRun", spec := "fnFlipRun", recurses := true, apart := false }
def FnFlipRunSaid : Prop := fnFlipRunRow.holds Try.pinned (OpenSpec.ofChange fnFlipRunSpec)

/-- ITS FALSE NEIGHBOUR: 'it returns false'. Refute it at one input. -/
def fnFlipRunWrong : ChangeSpec := { name := "fnFlipRun", fn := fun _ => fun
  | [d] => { results := [.lit (.bool false)], args := [d] }
  | _ => none }
def FnFlipRunWrongFalsely : Prop := fnFlipRunRow.holds Try.pinned (OpenSpec.ofChange fnFlipRunWrong)

/-- 'laws.FnFlipsOf': WHATEVER THE INPUT: true; the input reads as it did. -/
def fnFlipsOfSpec : ChangeSpec := { name := "fnFlipsOf", fn := fun _ => fun
  | [d] => { results := [.lit (.bool true)], args := [d] }
  | _ => none }
def fnFlipsOfRow : OpenClaim := { program := "ytagbjhiagkkahaa", sum := "572aa7c6e00e50d8f2f3efc949c668ed62e8fe9d363c71783afb23d0291fb47a", func := "loop.example/dominotilings/laws.FnFlipsOf", spec := "fnFlipsOf", unfollowed := true, recurses := true, apart := false }
def FnFlipsOfSaid : Prop := fnFlipsOfRow.holds Try.pinned (OpenSpec.ofChange fnFlipsOfSpec)

/-- ITS FALSE NEIGHBOUR: 'it returns false'. Refute it at one input. -/
def fnFlipsOfWrong : ChangeSpec := { name := "fnFlipsOf", fn := fun _ => fun
  | [d] => { results := [.lit (.bool false)], args := [d] }
  | _ => none }
def FnFlipsOfWrongFalsely : Prop := fnFlipsOfRow.holds Try.pinned (OpenSpec.ofChange fnFlipsOfWrong)

/- THE SECOND FORM. 'bulk': how many values and letters a reading holds, each counted each time it is reached (what is shared counts as often as it is met; a slice's spare places count too). A statement '..UptoSaid' is the law's where the arguments, and the package variables that the reading takes, are together of bulk at most 1048576: NARROWER than '..Said'. Prove '..Said' where nothing that the law and all that it calls make is longer than what came in: it says more and counts as full. Else prove '..UptoSaid'. A law counts once. -/
mutual
def uptoBulk {H : Type} : DataW H → Nat
  | .lit (.string bytes) => bytes.length + 1
  | .lit _ => 1
  | .nil => 1
  | .ptr d => uptoBulk d + 1
  | .slice elems spare => uptoBulkAll elems + uptoBulkAll spare + 1
  | .agg parts => uptoBulkAll parts + 1
  | .iface _ d => uptoBulk d + 1
  | .map entries => uptoBulkEntries entries + 1
  | .held _ => 1
def uptoBulkAll {H : Type} : List (DataW H) → Nat
  | [] => 0
  | d :: r => uptoBulk d + uptoBulkAll r
def uptoBulkEntries {H : Type} : List (Lit × DataW H) → Nat
  | [] => 0
  | x :: r => uptoBulkEntry x + uptoBulkEntries r
def uptoBulkEntry {H : Type} : Lit × DataW H → Nat
  | (.string bytes, d) => bytes.length + uptoBulk d + 1
  | (_, d) => uptoBulk d + 1
 end
def uptoSmall : (H : Type) → List (DataW H) → Bool := fun _ ds => decide (uptoBulkAll ds ≤ 1048576)
def OpenSpec.upto (s : _root_.Go.ChangeSpec) : _root_.Go.OpenSpec := { _root_.Go.OpenSpec.ofChange s with cond := some uptoSmall }

/-- 'laws.FnFlipMay', WHERE WHAT IT READS IS OF BULK AT MOST 1048576: true; the input reads as it did. -/
def fnFlipMayUptoRow : OpenClaim := { program := "ytagbjhiagkkahaa", sum := "572aa7c6e00e50d8f2f3efc949c668ed62e8fe9d363c71783afb23d0291fb47a", func := "loop.example/dominotilings/laws.FnFlipMay", spec := "fnFlipMay", recurses := true, apart := false, narrowed := true }
def FnFlipMayUptoSaid : Prop := fnFlipMayUptoRow.holds Try.pinned (OpenSpec.upto fnFlipMaySpec)

/-- 'laws.FnFlipOne', WHERE WHAT IT READS IS OF BULK AT MOST 1048576: true; the input reads as it did. -/
def fnFlipOneUptoRow : OpenClaim := { program := "ytagbjhiagkkahaa", sum := "572aa7c6e00e50d8f2f3efc949c668ed62e8fe9d363c71783afb23d0291fb47a", func := "loop.example/dominotilings/laws.FnFlipOne", spec := "fnFlipOne", recurses := true, apart := false, narrowed := true }
def FnFlipOneUptoSaid : Prop := fnFlipOneUptoRow.holds Try.pinned (OpenSpec.upto fnFlipOneSpec)

/-- 'laws.FnFlipRun', WHERE WHAT IT READS IS OF BULK AT MOST 1048576: true; the input reads as it did. -/
def fnFlipRunUptoRow : OpenClaim := { program := "ytagbjhiagkkahaa", sum := "572aa7c6e00e50d8f2f3efc949c668ed62e8fe9d363c71783afb23d0291fb47a", func := "loop.example/dominotilings/laws.FnFlipRun", spec := "fnFlipRun", recurses := true, apart := false, narrowed := true }
def FnFlipRunUptoSaid : Prop := fnFlipRunUptoRow.holds Try.pinned (OpenSpec.upto fnFlipRunSpec)

/-- 'laws.FnFlipsOf', WHERE WHAT IT READS IS OF BULK AT MOST 1048576: true; the input reads as it did. -/
def fnFlipsOfUptoRow : OpenClaim := { program := "ytagbjhiagkkahaa", sum := "572aa7c6e00e50d8f2f3efc949c668ed62e8fe9d363c71783afb23d0291fb47a", func := "loop.example/dominotilings/laws.FnFlipsOf", spec := "fnFlipsOf", unfollowed := true, recurses := true, apart := false, narrowed := true }
def FnFlipsOfUptoSaid : Prop := fnFlipsOfUptoRow.holds Try.pinned (OpenSpec.upto fnFlipsOfSpec)

end Rows
end Go.Proofs.Ytagbjhiagkkahaa
