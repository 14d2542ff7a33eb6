/-
  No cell of these rows narrows 'for every input' (looked for: loops, veiled, ifaces, maps, wideKeys, modest, calm, conditions, laid).
  DERIVED. THE GIVEN ROWS OF THIS SEAT. 4 by the template 'for every input the law returns true; each argument reads behind the call as it read before'; 0 by the template 'total and deterministic' (their statements: YtdmnfafmbdmjmaaTotals.lean).
  GIVEN WITH THE SEED: the statements are not yours to turn. If you find one false, say at which input.
  Laid BY PROGRAM, IN A SANDBOX (cutbox-rows.mjs): the forced cells as the released guide's own fill.sh prints them over the translation 9063def57bd2a774… (all of the seat's roots in one cut). By AI agents, Wed Nov 11 2026. No macro, syntax, notation, axiom, sorry.
-/
import Derived.Test.YtdmnfafmbdmjmaaChecked
import GoSem.Claim
import GoSem.ClaimJoined
import GoSem.ClaimMapViews
import Derived.JoinedTies
import Derived.KernelRfl
namespace Go.Proofs.Ytdmnfafmbdmjmaa
/- THE CELL 'sum', in the pinned program and in every row, IS THE sha256 OF THE DUMP (.gsa) THAT YtdmnfafmbdmjmaaProg.lean LOADS. Nothing in Lean hashes anything: it is a label: what it is worth is what the hold of that sum in a sandbox is worth. -/
noncomputable def Try.pinned : Pinned := { name := "ytdmnfafmbdmjmaa", sum := "9063def57bd2a774d500ecff7999fa94483fd2972dbeab4f0ef5722647848653", checked := Try.checked }
namespace Rows
def none {H : Type} : Left H := { results := [], args := [] }

/-- 'laws.FnTilingsMany': WHATEVER THE INPUT: true; the input reads as it did. -/
def fnTilingsManySpec : ChangeSpec := { name := "fnTilingsMany", fn := fun _ => fun
  | [d] => { results := [.lit (.bool true)], args := [d] }
  | _ => none }
def fnTilingsManyRow : OpenClaim := { program := "ytdmnfafmbdmjmaa", sum := "9063def57bd2a774d500ecff7999fa94483fd2972dbeab4f0ef5722647848653", func := "loop.example/dominotilings/laws.FnTilingsMany", spec := "fnTilingsMany", unfollowed := true, recurses := true, apart := false }
def FnTilingsManySaid : Prop := fnTilingsManyRow.holds Try.pinned (OpenSpec.ofChange fnTilingsManySpec)

/-- ITS FALSE NEIGHBOUR: 'it returns false'. Refute it at one input. -/
def fnTilingsManyWrong : ChangeSpec := { name := "fnTilingsMany", fn := fun _ => fun
  | [d] => { results := [.lit (.bool false)], args := [d] }
  | _ => none }
def FnTilingsManyWrongFalsely : Prop := fnTilingsManyRow.holds Try.pinned (OpenSpec.ofChange fnTilingsManyWrong)

/-- 'laws.FnForcedOf': WHATEVER THE INPUT: true; the input reads as it did. -/
def fnForcedOfSpec : ChangeSpec := { name := "fnForcedOf", fn := fun _ => fun
  | [d] => { results := [.lit (.bool true)], args := [d] }
  | _ => none }
def fnForcedOfRow : OpenClaim := { program := "ytdmnfafmbdmjmaa", sum := "9063def57bd2a774d500ecff7999fa94483fd2972dbeab4f0ef5722647848653", func := "loop.example/dominotilings/laws.FnForcedOf", spec := "fnForcedOf", unfollowed := true, recurses := true, apart := false }
def FnForcedOfSaid : Prop := fnForcedOfRow.holds Try.pinned (OpenSpec.ofChange fnForcedOfSpec)

/-- ITS FALSE NEIGHBOUR: 'it returns false'. Refute it at one input. -/
def fnForcedOfWrong : ChangeSpec := { name := "fnForcedOf", fn := fun _ => fun
  | [d] => { results := [.lit (.bool false)], args := [d] }
  | _ => none }
def FnForcedOfWrongFalsely : Prop := fnForcedOfRow.holds Try.pinned (OpenSpec.ofChange fnForcedOfWrong)

/-- 'laws.FnRankOf': WHATEVER THE INPUT: true; the input reads as it did. -/
def fnRankOfSpec : ChangeSpec := { name := "fnRankOf", fn := fun _ => fun
  | [d] => { results := [.lit (.bool true)], args := [d] }
  | _ => none }
def fnRankOfRow : OpenClaim := { program := "ytdmnfafmbdmjmaa", sum := "9063def57bd2a774d500ecff7999fa94483fd2972dbeab4f0ef5722647848653", func := "loop.example/dominotilings/laws.FnRankOf", spec := "fnRankOf", recurses := true, apart := false }
def FnRankOfSaid : Prop := fnRankOfRow.holds Try.pinned (OpenSpec.ofChange fnRankOfSpec)

/-- ITS FALSE NEIGHBOUR: 'it returns false'. Refute it at one input. -/
def fnRankOfWrong : ChangeSpec := { name := "fnRankOf", fn := fun _ => fun
  | [d] => { results := [.lit (.bool false)], args := [d] }
  | _ => none }
def FnRankOfWrongFalsely : Prop := fnRankOfRow.holds Try.pinned (OpenSpec.ofChange fnRankOfWrong)

/-- 'laws.FnTilingOf': WHATEVER THE INPUT: true; the input reads as it did. -/
def fnTilingOfSpec : ChangeSpec := { name := "fnTilingOf", fn := fun _ => fun
  | [d] => { results := [.lit (.bool true)], args := [d] }
  | _ => none }
def fnTilingOfRow : OpenClaim := { program := "ytdmnfafmbdmjmaa", sum := "9063def57bd2a774d500ecff7999fa94483fd2972dbeab4f0ef5722647848653", func := "loop.example/dominotilings/laws.FnTilingOf", spec := "fnTilingOf", unfollowed := true, recurses := true, apart := false }
def FnTilingOfSaid : Prop := fnTilingOfRow.holds Try.pinned (OpenSpec.ofChange fnTilingOfSpec)

/-- ITS FALSE NEIGHBOUR: 'it returns false'. Refute it at one input. -/
def fnTilingOfWrong : ChangeSpec := { name := "fnTilingOf", fn := fun _ => fun
  | [d] => { results := [.lit (.bool false)], args := [d] }
  | _ => none }
def FnTilingOfWrongFalsely : Prop := fnTilingOfRow.holds Try.pinned (OpenSpec.ofChange fnTilingOfWrong)

/- THE SECOND FORM. 'bulk': how many values and letters a reading holds, each counted each time it is reached (what is shared counts as often as it is met; a slice's spare places count too). A statement '..UptoSaid' is the law's where the arguments, and the package variables that the reading takes, are together of bulk at most 1048576: NARROWER than '..Said'. Prove '..Said' where nothing that the law and all that it calls make is longer than what came in: it says more and counts as full. Else prove '..UptoSaid'. A law counts once. -/
mutual
def uptoBulk {H : Type} : DataW H → Nat
  | .lit (.string bytes) => bytes.length + 1
  | .lit _ => 1
  | .nil => 1
  | .ptr d => uptoBulk d + 1
  | .slice elems spare => uptoBulkAll elems + uptoBulkAll spare + 1
  | .agg parts => uptoBulkAll parts + 1
  | .iface _ d => uptoBulk d + 1
  | .map entries => uptoBulkEntries entries + 1
  | .held _ => 1
def uptoBulkAll {H : Type} : List (DataW H) → Nat
  | [] => 0
  | d :: r => uptoBulk d + uptoBulkAll r
def uptoBulkEntries {H : Type} : List (Lit × DataW H) → Nat
  | [] => 0
  | x :: r => uptoBulkEntry x + uptoBulkEntries r
def uptoBulkEntry {H : Type} : Lit × DataW H → Nat
  | (.string bytes, d) => bytes.length + uptoBulk d + 1
  | (_, d) => uptoBulk d + 1
 end
def uptoSmall : (H : Type) → List (DataW H) → Bool := fun _ ds => decide (uptoBulkAll ds ≤ 1048576)
def OpenSpec.upto (s : _root_.Go.ChangeSpec) : _root_.Go.OpenSpec := { _root_.Go.OpenSpec.ofChange s with cond := some uptoSmall }

/-- 'laws.FnTilingsMany', WHERE WHAT IT READS IS OF BULK AT MOST 1048576: true; the input reads as it did. -/
def fnTilingsManyUptoRow : OpenClaim := { program := "ytdmnfafmbdmjmaa", sum := "9063def57bd2a774d500ecff7999fa94483fd2972dbeab4f0ef5722647848653", func := "loop.example/dominotilings/laws.FnTilingsMany", spec := "fnTilingsMany", unfollowed := true, recurses := true, apart := false, narrowed := true }
def FnTilingsManyUptoSaid : Prop := fnTilingsManyUptoRow.holds Try.pinned (OpenSpec.upto fnTilingsManySpec)

/-- 'laws.FnForcedOf', WHERE WHAT IT READS IS OF BULK AT MOST 1048576: true; the input reads as it did. -/
def fnForcedOfUptoRow : OpenClaim := { program := "ytdmnfafmbdmjmaa", sum := "9063def57bd2a774d500ecff7999fa94483fd2972dbeab4f0ef5722647848653", func := "loop.example/dominotilings/laws.FnForcedOf", spec := "fnForcedOf", unfollowed := true, recurses := true, apart := false, narrowed := true }
def FnForcedOfUptoSaid : Prop := fnForcedOfUptoRow.holds Try.pinned (OpenSpec.upto fnForcedOfSpec)

/-- 'laws.FnRankOf', WHERE WHAT IT READS IS OF BULK AT MOST 1048576: true; the input reads as it did. -/
def fnRankOfUptoRow : OpenClaim := { program := "ytdmnfafmbdmjmaa", sum := "9063def57bd2a774d500ecff7999fa94483fd2972dbeab4f0ef5722647848653", func := "loop.example/dominotilings/laws.FnRankOf", spec := "fnRankOf", recurses := true, apart := false, narrowed := true }
def FnRankOfUptoSaid : Prop := fnRankOfUptoRow.holds Try.pinned (OpenSpec.upto fnRankOfSpec)

/-- 'laws.FnTilingOf', WHERE WHAT IT READS IS OF BULK AT MOST 1048576: true; the input reads as it did. -/
def fnTilingOfUptoRow : OpenClaim := { program := "ytdmnfafmbdmjmaa", sum := "9063def57bd2a774d500ecff7999fa94483fd2972dbeab4f0ef5722647848653", func := "loop.example/dominotilings/laws.FnTilingOf", spec := "fnTilingOf", unfollowed := true, recurses := true, apart := false, narrowed := true }
def FnTilingOfUptoSaid : Prop := fnTilingOfUptoRow.holds Try.pinned (OpenSpec.upto fnTilingOfSpec)

end Rows
end Go.Proofs.Ytdmnfafmbdmjmaa
