/-
  No cell of these rows narrows 'for every input' (looked for: loops, veiled, ifaces, maps, wideKeys, modest, calm, conditions, laid).
  DERIVED. THE GIVEN ROWS OF THIS SEAT. 3 by the template 'for every input the law returns true; each argument reads behind the call as it read before'; 0 by the template 'total and deterministic' (their statements: YtpcajacekmidbaaGreatTotals.lean).
  GIVEN WITH THE SEED: the statements are not yours to turn. If you find one false, say at which input.
  Laid BY PROGRAM, IN A SANDBOX (cutbox-rows.mjs): the forced cells as the released guide's own fill.sh prints them over the translation 30e91026639afda7… (all of the seat's roots in one cut). By AI agents, Wed Nov 11 2026. No macro, syntax, notation, axiom, sorry.
-/
import Derived.Test.YtpcajacekmidbaaGreatChecked
import GoSem.Claim
import GoSem.ClaimJoined
import GoSem.ClaimMapViews
import Derived.JoinedTies
import Derived.KernelRfl
namespace Go.Proofs.YtpcajacekmidbaaGreat
/- THE CELL 'sum', in the pinned program and in every row, IS THE sha256 OF THE DUMP (.gsa) THAT YtpcajacekmidbaaGreatProg.lean LOADS. Nothing in Lean hashes anything: it is a label: what it is worth is what the hold of that sum in a sandbox is worth. -/
noncomputable def Tryz.pinned : Pinned := { name := "ytpcajacekmidbaagreat", sum := "30e91026639afda797c6ed58ed8f43a281d9e4212b5f70ff88c5a8c145d77f88", checked := Tryz.checked }
namespace Rows
def none {H : Type} : Left H := { results := [], args := [] }

/-- 'laws.FnDownOf': WHATEVER THE INPUT: true; the input reads as it did. -/
def fnDownOfSpec : ChangeSpec := { name := "fnDownOf", fn := fun _ => fun
  | [d] => { results := [.lit (.bool true)], args := [d] }
  | _ => none }
def fnDownOfRow : OpenClaim := { program := "ytpcajacekmidbaagreat", sum := "30e91026639afda797c6ed58ed8f43a281d9e4212b5f70ff88c5a8c145d77f88", func := "loop.example/dominotilings/laws.FnDownOf", spec := "fnDownOf", unfollowed := true, recurses := true, apart := false }
def FnDownOfSaid : Prop := fnDownOfRow.holds Tryz.pinned (OpenSpec.ofChange fnDownOfSpec)

/-- ITS FALSE NEIGHBOUR: 'it returns false'. Refute it at one input. -/
def fnDownOfWrong : ChangeSpec := { name := "fnDownOf", fn := fun _ => fun
  | [d] => { results := [.lit (.bool false)], args := [d] }
  | _ => none }
def FnDownOfWrongFalsely : Prop := fnDownOfRow.holds Tryz.pinned (OpenSpec.ofChange fnDownOfWrong)

/-- 'laws.FnUpOf': WHATEVER THE INPUT: true; the input reads as it did. -/
def fnUpOfSpec : ChangeSpec := { name := "fnUpOf", fn := fun _ => fun
  | [d] => { results := [.lit (.bool true)], args := [d] }
  | _ => none }
def fnUpOfRow : OpenClaim := { program := "ytpcajacekmidbaagreat", sum := "30e91026639afda797c6ed58ed8f43a281d9e4212b5f70ff88c5a8c145d77f88", func := "loop.example/dominotilings/laws.FnUpOf", spec := "fnUpOf", unfollowed := true, recurses := true, apart := false }
def FnUpOfSaid : Prop := fnUpOfRow.holds Tryz.pinned (OpenSpec.ofChange fnUpOfSpec)

/-- ITS FALSE NEIGHBOUR: 'it returns false'. Refute it at one input. -/
def fnUpOfWrong : ChangeSpec := { name := "fnUpOf", fn := fun _ => fun
  | [d] => { results := [.lit (.bool false)], args := [d] }
  | _ => none }
def FnUpOfWrongFalsely : Prop := fnUpOfRow.holds Tryz.pinned (OpenSpec.ofChange fnUpOfWrong)

/-- 'laws.FnDownAll': WHATEVER THE INPUT: true; the input reads as it did. -/
def fnDownAllSpec : ChangeSpec := { name := "fnDownAll", fn := fun _ => fun
  | [d] => { results := [.lit (.bool true)], args := [d] }
  | _ => none }
def fnDownAllRow : OpenClaim := { program := "ytpcajacekmidbaagreat", sum := "30e91026639afda797c6ed58ed8f43a281d9e4212b5f70ff88c5a8c145d77f88", func := "loop.example/dominotilings/laws.FnDownAll", spec := "fnDownAll", unfollowed := true, recurses := true, apart := false }
def FnDownAllSaid : Prop := fnDownAllRow.holds Tryz.pinned (OpenSpec.ofChange fnDownAllSpec)

/-- ITS FALSE NEIGHBOUR: 'it returns false'. Refute it at one input. -/
def fnDownAllWrong : ChangeSpec := { name := "fnDownAll", fn := fun _ => fun
  | [d] => { results := [.lit (.bool false)], args := [d] }
  | _ => none }
def FnDownAllWrongFalsely : Prop := fnDownAllRow.holds Tryz.pinned (OpenSpec.ofChange fnDownAllWrong)

/- THE SECOND FORM. 'bulk': how many values and letters a reading holds, each counted each time it is reached (what is shared counts as often as it is met; a slice's spare places count too). A statement '..UptoSaid' is the law's where the arguments, and the package variables that the reading takes, are together of bulk at most 1048576: NARROWER than '..Said'. Prove '..Said' where nothing that the law and all that it calls make is longer than what came in: it says more and counts as full. Else prove '..UptoSaid'. A law counts once. -/
mutual
def uptoBulk {H : Type} : DataW H → Nat
  | .lit (.string bytes) => bytes.length + 1
  | .lit _ => 1
  | .nil => 1
  | .ptr d => uptoBulk d + 1
  | .slice elems spare => uptoBulkAll elems + uptoBulkAll spare + 1
  | .agg parts => uptoBulkAll parts + 1
  | .iface _ d => uptoBulk d + 1
  | .map entries => uptoBulkEntries entries + 1
  | .held _ => 1
def uptoBulkAll {H : Type} : List (DataW H) → Nat
  | [] => 0
  | d :: r => uptoBulk d + uptoBulkAll r
def uptoBulkEntries {H : Type} : List (Lit × DataW H) → Nat
  | [] => 0
  | x :: r => uptoBulkEntry x + uptoBulkEntries r
def uptoBulkEntry {H : Type} : Lit × DataW H → Nat
  | (.string bytes, d) => bytes.length + uptoBulk d + 1
  | (_, d) => uptoBulk d + 1
 end
def uptoSmall : (H : Type) → List (DataW H) → Bool := fun _ ds => decide (uptoBulkAll ds ≤ 1048576)
def OpenSpec.upto (s : _root_.Go.ChangeSpec) : _root_.Go.OpenSpec := { _root_.Go.OpenSpec.ofChange s with cond := some uptoSmall }

/-- 'laws.FnDownOf', WHERE WHAT IT READS IS OF BULK AT MOST 1048576: true; the input reads as it did. -/
def fnDownOfUptoRow : OpenClaim := { program := "ytpcajacekmidbaagreat", sum := "30e91026639afda797c6ed58ed8f43a281d9e4212b5f70ff88c5a8c145d77f88", func := "loop.example/dominotilings/laws.FnDownOf", spec := "fnDownOf", unfollowed := true, recurses := true, apart := false, narrowed := true }
def FnDownOfUptoSaid : Prop := fnDownOfUptoRow.holds Tryz.pinned (OpenSpec.upto fnDownOfSpec)

/-- 'laws.FnUpOf', WHERE WHAT IT READS IS OF BULK AT MOST 1048576: true; the input reads as it did. -/
def fnUpOfUptoRow : OpenClaim := { program := "ytpcajacekmidbaagreat", sum := "30e91026639afda797c6ed58ed8f43a281d9e4212b5f70ff88c5a8c145d77f88", func := "loop.example/dominotilings/laws.FnUpOf", spec := "fnUpOf", unfollowed := true, recurses := true, apart := false, narrowed := true }
def FnUpOfUptoSaid : Prop := fnUpOfUptoRow.holds Tryz.pinned (OpenSpec.upto fnUpOfSpec)

/-- 'laws.FnDownAll', WHERE WHAT IT READS IS OF BULK AT MOST 1048576: true; the input reads as it did. -/
def fnDownAllUptoRow : OpenClaim := { program := "ytpcajacekmidbaagreat", sum := "30e91026639afda797c6ed58ed8f43a281d9e4212b5f70ff88c5a8c145d77f88", func := "loop.example/dominotilings/laws.FnDownAll", spec := "fnDownAll", unfollowed := true, recurses := true, apart := false, narrowed := true }
def FnDownAllUptoSaid : Prop := fnDownAllUptoRow.holds Tryz.pinned (OpenSpec.upto fnDownAllSpec)

end Rows
end Go.Proofs.YtpcajacekmidbaaGreat
