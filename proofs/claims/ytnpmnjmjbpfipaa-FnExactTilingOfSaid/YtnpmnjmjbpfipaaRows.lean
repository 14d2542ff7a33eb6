/-
  No cell of these rows narrows 'for every input' (looked for: loops, veiled, ifaces, maps, wideKeys, modest, calm, conditions, laid).
  DERIVED. THE GIVEN ROWS OF THIS SEAT. 12 by the template 'for every input the law returns true; each argument reads behind the call as it read before'; 0 by the template 'total and deterministic' (their statements: YtnpmnjmjbpfipaaTotals.lean).
  GIVEN WITH THE SEED: the statements are not yours to turn. If you find one false, say at which input.
  Laid BY PROGRAM, IN A SANDBOX (cutbox-rows.mjs): the forced cells as the released guide's own fill.sh prints them over the translation 14032ed9239093d6… (all of the seat's roots in one cut). By AI agents, Wed Nov 11 2026. No macro, syntax, notation, axiom, sorry.
-/
import Derived.Test.YtnpmnjmjbpfipaaChecked
import GoSem.Claim
import GoSem.ClaimJoined
import GoSem.ClaimMapViews
import Derived.JoinedTies
import Derived.KernelRfl
namespace Go.Proofs.Ytnpmnjmjbpfipaa
/- THE CELL 'sum', in the pinned program and in every row, IS THE sha256 OF THE DUMP (.gsa) THAT YtnpmnjmjbpfipaaProg.lean LOADS. Nothing in Lean hashes anything: it is a label: what it is worth is what the hold of that sum in a sandbox is worth. -/
noncomputable def Try.pinned : Pinned := { name := "ytnpmnjmjbpfipaa", sum := "14032ed9239093d678e764a6600bc4c98d7fc4655e349a81cab0d8871f3be0db", checked := Try.checked }
namespace Rows
def none {H : Type} : Left H := { results := [], args := [] }

/-- 'laws.FnExactTwoRows': WHATEVER THE INPUT: true; the input reads as it did. -/
def fnExactTwoRowsSpec : ChangeSpec := { name := "fnExactTwoRows", fn := fun _ => fun
  | [d] => { results := [.lit (.bool true)], args := [d] }
  | _ => none }
def fnExactTwoRowsRow : OpenClaim := { program := "ytnpmnjmjbpfipaa", sum := "14032ed9239093d678e764a6600bc4c98d7fc4655e349a81cab0d8871f3be0db", func := "loop.example/dominotilings/laws.FnExactTwoRows", spec := "fnExactTwoRows", apart := false }
def FnExactTwoRowsSaid : Prop := fnExactTwoRowsRow.holds Try.pinned (OpenSpec.ofChange fnExactTwoRowsSpec)

/-- ITS FALSE NEIGHBOUR: 'it returns false'. Refute it at one input. -/
def fnExactTwoRowsWrong : ChangeSpec := { name := "fnExactTwoRows", fn := fun _ => fun
  | [d] => { results := [.lit (.bool false)], args := [d] }
  | _ => none }
def FnExactTwoRowsWrongFalsely : Prop := fnExactTwoRowsRow.holds Try.pinned (OpenSpec.ofChange fnExactTwoRowsWrong)

/-- 'laws.FnExactThreeRows': WHATEVER THE INPUT: true; the input reads as it did. -/
def fnExactThreeRowsSpec : ChangeSpec := { name := "fnExactThreeRows", fn := fun _ => fun
  | [d] => { results := [.lit (.bool true)], args := [d] }
  | _ => none }
def fnExactThreeRowsRow : OpenClaim := { program := "ytnpmnjmjbpfipaa", sum := "14032ed9239093d678e764a6600bc4c98d7fc4655e349a81cab0d8871f3be0db", func := "loop.example/dominotilings/laws.FnExactThreeRows", spec := "fnExactThreeRows", apart := false }
def FnExactThreeRowsSaid : Prop := fnExactThreeRowsRow.holds Try.pinned (OpenSpec.ofChange fnExactThreeRowsSpec)

/-- ITS FALSE NEIGHBOUR: 'it returns false'. Refute it at one input. -/
def fnExactThreeRowsWrong : ChangeSpec := { name := "fnExactThreeRows", fn := fun _ => fun
  | [d] => { results := [.lit (.bool false)], args := [d] }
  | _ => none }
def FnExactThreeRowsWrongFalsely : Prop := fnExactThreeRowsRow.holds Try.pinned (OpenSpec.ofChange fnExactThreeRowsWrong)

/-- 'laws.FnExactMatrixValid': WHATEVER THE INPUT: true; the input reads as it did. -/
def fnExactMatrixValidSpec : ChangeSpec := { name := "fnExactMatrixValid", fn := fun _ => fun
  | [d] => { results := [.lit (.bool true)], args := [d] }
  | _ => none }
def fnExactMatrixValidRow : OpenClaim := { program := "ytnpmnjmjbpfipaa", sum := "14032ed9239093d678e764a6600bc4c98d7fc4655e349a81cab0d8871f3be0db", func := "loop.example/dominotilings/laws.FnExactMatrixValid", spec := "fnExactMatrixValid", unfollowed := true, recurses := true, apart := false }
def FnExactMatrixValidSaid : Prop := fnExactMatrixValidRow.holds Try.pinned (OpenSpec.ofChange fnExactMatrixValidSpec)

/-- ITS FALSE NEIGHBOUR: 'it returns false'. Refute it at one input. -/
def fnExactMatrixValidWrong : ChangeSpec := { name := "fnExactMatrixValid", fn := fun _ => fun
  | [d] => { results := [.lit (.bool false)], args := [d] }
  | _ => none }
def FnExactMatrixValidWrongFalsely : Prop := fnExactMatrixValidRow.holds Try.pinned (OpenSpec.ofChange fnExactMatrixValidWrong)

/-- 'laws.FnExactDet': WHATEVER THE INPUT: true; the input reads as it did. -/
def fnExactDetSpec : ChangeSpec := { name := "fnExactDet", fn := fun _ => fun
  | [d] => { results := [.lit (.bool true)], args := [d] }
  | _ => none }
def fnExactDetRow : OpenClaim := { program := "ytnpmnjmjbpfipaa", sum := "14032ed9239093d678e764a6600bc4c98d7fc4655e349a81cab0d8871f3be0db", func := "loop.example/dominotilings/laws.FnExactDet", spec := "fnExactDet", unfollowed := true, recurses := true, apart := false }
def FnExactDetSaid : Prop := fnExactDetRow.holds Try.pinned (OpenSpec.ofChange fnExactDetSpec)

/-- ITS FALSE NEIGHBOUR: 'it returns false'. Refute it at one input. -/
def fnExactDetWrong : ChangeSpec := { name := "fnExactDet", fn := fun _ => fun
  | [d] => { results := [.lit (.bool false)], args := [d] }
  | _ => none }
def FnExactDetWrongFalsely : Prop := fnExactDetRow.holds Try.pinned (OpenSpec.ofChange fnExactDetWrong)

/-- 'laws.FnExactTilingsMany': WHATEVER THE INPUT: true; the input reads as it did. -/
def fnExactTilingsManySpec : ChangeSpec := { name := "fnExactTilingsMany", fn := fun _ => fun
  | [d] => { results := [.lit (.bool true)], args := [d] }
  | _ => none }
def fnExactTilingsManyRow : OpenClaim := { program := "ytnpmnjmjbpfipaa", sum := "14032ed9239093d678e764a6600bc4c98d7fc4655e349a81cab0d8871f3be0db", func := "loop.example/dominotilings/laws.FnExactTilingsMany", spec := "fnExactTilingsMany", apart := false }
def FnExactTilingsManySaid : Prop := fnExactTilingsManyRow.holds Try.pinned (OpenSpec.ofChange fnExactTilingsManySpec)

/-- ITS FALSE NEIGHBOUR: 'it returns false'. Refute it at one input. -/
def fnExactTilingsManyWrong : ChangeSpec := { name := "fnExactTilingsMany", fn := fun _ => fun
  | [d] => { results := [.lit (.bool false)], args := [d] }
  | _ => none }
def FnExactTilingsManyWrongFalsely : Prop := fnExactTilingsManyRow.holds Try.pinned (OpenSpec.ofChange fnExactTilingsManyWrong)

/-- 'laws.FnExactTilingsWith': WHATEVER THE INPUT: true; the input reads as it did. -/
def fnExactTilingsWithSpec : ChangeSpec := { name := "fnExactTilingsWith", fn := fun _ => fun
  | [d1, d2, d3] => { results := [.lit (.bool true)], args := [d1, d2, d3] }
  | _ => none }
def fnExactTilingsWithRow : OpenClaim := { program := "ytnpmnjmjbpfipaa", sum := "14032ed9239093d678e764a6600bc4c98d7fc4655e349a81cab0d8871f3be0db", func := "loop.example/dominotilings/laws.FnExactTilingsWith", spec := "fnExactTilingsWith", apart := false }
def FnExactTilingsWithSaid : Prop := fnExactTilingsWithRow.holds Try.pinned (OpenSpec.ofChange fnExactTilingsWithSpec)

/-- ITS FALSE NEIGHBOUR: 'it returns false'. Refute it at one input. -/
def fnExactTilingsWithWrong : ChangeSpec := { name := "fnExactTilingsWith", fn := fun _ => fun
  | [d1, d2, d3] => { results := [.lit (.bool false)], args := [d1, d2, d3] }
  | _ => none }
def FnExactTilingsWithWrongFalsely : Prop := fnExactTilingsWithRow.holds Try.pinned (OpenSpec.ofChange fnExactTilingsWithWrong)

/-- 'laws.FnExactForcedOf': WHATEVER THE INPUT: true; the input reads as it did. -/
def fnExactForcedOfSpec : ChangeSpec := { name := "fnExactForcedOf", fn := fun _ => fun
  | [d] => { results := [.lit (.bool true)], args := [d] }
  | _ => none }
def fnExactForcedOfRow : OpenClaim := { program := "ytnpmnjmjbpfipaa", sum := "14032ed9239093d678e764a6600bc4c98d7fc4655e349a81cab0d8871f3be0db", func := "loop.example/dominotilings/laws.FnExactForcedOf", spec := "fnExactForcedOf", apart := false }
def FnExactForcedOfSaid : Prop := fnExactForcedOfRow.holds Try.pinned (OpenSpec.ofChange fnExactForcedOfSpec)

/-- ITS FALSE NEIGHBOUR: 'it returns false'. Refute it at one input. -/
def fnExactForcedOfWrong : ChangeSpec := { name := "fnExactForcedOf", fn := fun _ => fun
  | [d] => { results := [.lit (.bool false)], args := [d] }
  | _ => none }
def FnExactForcedOfWrongFalsely : Prop := fnExactForcedOfRow.holds Try.pinned (OpenSpec.ofChange fnExactForcedOfWrong)

/-- 'laws.FnExactAcrossMany': WHATEVER THE INPUT: true; the input reads as it did. -/
def fnExactAcrossManySpec : ChangeSpec := { name := "fnExactAcrossMany", fn := fun _ => fun
  | [d1, d2, d3] => { results := [.lit (.bool true)], args := [d1, d2, d3] }
  | _ => none }
def fnExactAcrossManyRow : OpenClaim := { program := "ytnpmnjmjbpfipaa", sum := "14032ed9239093d678e764a6600bc4c98d7fc4655e349a81cab0d8871f3be0db", func := "loop.example/dominotilings/laws.FnExactAcrossMany", spec := "fnExactAcrossMany", apart := false }
def FnExactAcrossManySaid : Prop := fnExactAcrossManyRow.holds Try.pinned (OpenSpec.ofChange fnExactAcrossManySpec)

/-- ITS FALSE NEIGHBOUR: 'it returns false'. Refute it at one input. -/
def fnExactAcrossManyWrong : ChangeSpec := { name := "fnExactAcrossMany", fn := fun _ => fun
  | [d1, d2, d3] => { results := [.lit (.bool false)], args := [d1, d2, d3] }
  | _ => none }
def FnExactAcrossManyWrongFalsely : Prop := fnExactAcrossManyRow.holds Try.pinned (OpenSpec.ofChange fnExactAcrossManyWrong)

/-- 'laws.FnExactAcrossSum': WHATEVER THE INPUT: true; the input reads as it did. -/
def fnExactAcrossSumSpec : ChangeSpec := { name := "fnExactAcrossSum", fn := fun _ => fun
  | [d1, d2] => { results := [.lit (.bool true)], args := [d1, d2] }
  | _ => none }
def fnExactAcrossSumRow : OpenClaim := { program := "ytnpmnjmjbpfipaa", sum := "14032ed9239093d678e764a6600bc4c98d7fc4655e349a81cab0d8871f3be0db", func := "loop.example/dominotilings/laws.FnExactAcrossSum", spec := "fnExactAcrossSum", apart := false }
def FnExactAcrossSumSaid : Prop := fnExactAcrossSumRow.holds Try.pinned (OpenSpec.ofChange fnExactAcrossSumSpec)

/-- ITS FALSE NEIGHBOUR: 'it returns false'. Refute it at one input. -/
def fnExactAcrossSumWrong : ChangeSpec := { name := "fnExactAcrossSum", fn := fun _ => fun
  | [d1, d2] => { results := [.lit (.bool false)], args := [d1, d2] }
  | _ => none }
def FnExactAcrossSumWrongFalsely : Prop := fnExactAcrossSumRow.holds Try.pinned (OpenSpec.ofChange fnExactAcrossSumWrong)

/-- 'laws.FnExactRankOf': WHATEVER THE INPUT: true; the input reads as it did. -/
def fnExactRankOfSpec : ChangeSpec := { name := "fnExactRankOf", fn := fun _ => fun
  | [d1, d2] => { results := [.lit (.bool true)], args := [d1, d2] }
  | _ => none }
def fnExactRankOfRow : OpenClaim := { program := "ytnpmnjmjbpfipaa", sum := "14032ed9239093d678e764a6600bc4c98d7fc4655e349a81cab0d8871f3be0db", func := "loop.example/dominotilings/laws.FnExactRankOf", spec := "fnExactRankOf", apart := false }
def FnExactRankOfSaid : Prop := fnExactRankOfRow.holds Try.pinned (OpenSpec.ofChange fnExactRankOfSpec)

/-- ITS FALSE NEIGHBOUR: 'it returns false'. Refute it at one input. -/
def fnExactRankOfWrong : ChangeSpec := { name := "fnExactRankOf", fn := fun _ => fun
  | [d1, d2] => { results := [.lit (.bool false)], args := [d1, d2] }
  | _ => none }
def FnExactRankOfWrongFalsely : Prop := fnExactRankOfRow.holds Try.pinned (OpenSpec.ofChange fnExactRankOfWrong)

/-- 'laws.FnExactTilingOf': WHATEVER THE INPUT: true; the input reads as it did. -/
def fnExactTilingOfSpec : ChangeSpec := { name := "fnExactTilingOf", fn := fun _ => fun
  | [d1, d2] => { results := [.lit (.bool true)], args := [d1, d2] }
  | _ => none }
def fnExactTilingOfRow : OpenClaim := { program := "ytnpmnjmjbpfipaa", sum := "14032ed9239093d678e764a6600bc4c98d7fc4655e349a81cab0d8871f3be0db", func := "loop.example/dominotilings/laws.FnExactTilingOf", spec := "fnExactTilingOf", apart := false }
def FnExactTilingOfSaid : Prop := fnExactTilingOfRow.holds Try.pinned (OpenSpec.ofChange fnExactTilingOfSpec)

/-- ITS FALSE NEIGHBOUR: 'it returns false'. Refute it at one input. -/
def fnExactTilingOfWrong : ChangeSpec := { name := "fnExactTilingOf", fn := fun _ => fun
  | [d1, d2] => { results := [.lit (.bool false)], args := [d1, d2] }
  | _ => none }
def FnExactTilingOfWrongFalsely : Prop := fnExactTilingOfRow.holds Try.pinned (OpenSpec.ofChange fnExactTilingOfWrong)

/-- 'laws.FnExactSignMatrix': WHATEVER THE INPUT: true; the input reads as it did. -/
def fnExactSignMatrixSpec : ChangeSpec := { name := "fnExactSignMatrix", fn := fun _ => fun
  | [d] => { results := [.lit (.bool true)], args := [d] }
  | _ => none }
def fnExactSignMatrixRow : OpenClaim := { program := "ytnpmnjmjbpfipaa", sum := "14032ed9239093d678e764a6600bc4c98d7fc4655e349a81cab0d8871f3be0db", func := "loop.example/dominotilings/laws.FnExactSignMatrix", spec := "fnExactSignMatrix", apart := false }
def FnExactSignMatrixSaid : Prop := fnExactSignMatrixRow.holds Try.pinned (OpenSpec.ofChange fnExactSignMatrixSpec)

/-- ITS FALSE NEIGHBOUR: 'it returns false'. Refute it at one input. -/
def fnExactSignMatrixWrong : ChangeSpec := { name := "fnExactSignMatrix", fn := fun _ => fun
  | [d] => { results := [.lit (.bool false)], args := [d] }
  | _ => none }
def FnExactSignMatrixWrongFalsely : Prop := fnExactSignMatrixRow.holds Try.pinned (OpenSpec.ofChange fnExactSignMatrixWrong)

/- THE SECOND FORM. 'bulk': how many values and letters a reading holds, each counted each time it is reached (what is shared counts as often as it is met; a slice's spare places count too). A statement '..UptoSaid' is the law's where the arguments, and the package variables that the reading takes, are together of bulk at most 1048576: NARROWER than '..Said'. Prove '..Said' where nothing that the law and all that it calls make is longer than what came in: it says more and counts as full. Else prove '..UptoSaid'. A law counts once. -/
mutual
def uptoBulk {H : Type} : DataW H → Nat
  | .lit (.string bytes) => bytes.length + 1
  | .lit _ => 1
  | .nil => 1
  | .ptr d => uptoBulk d + 1
  | .slice elems spare => uptoBulkAll elems + uptoBulkAll spare + 1
  | .agg parts => uptoBulkAll parts + 1
  | .iface _ d => uptoBulk d + 1
  | .map entries => uptoBulkEntries entries + 1
  | .held _ => 1
def uptoBulkAll {H : Type} : List (DataW H) → Nat
  | [] => 0
  | d :: r => uptoBulk d + uptoBulkAll r
def uptoBulkEntries {H : Type} : List (Lit × DataW H) → Nat
  | [] => 0
  | x :: r => uptoBulkEntry x + uptoBulkEntries r
def uptoBulkEntry {H : Type} : Lit × DataW H → Nat
  | (.string bytes, d) => bytes.length + uptoBulk d + 1
  | (_, d) => uptoBulk d + 1
 end
def uptoSmall : (H : Type) → List (DataW H) → Bool := fun _ ds => decide (uptoBulkAll ds ≤ 1048576)
def OpenSpec.upto (s : _root_.Go.ChangeSpec) : _root_.Go.OpenSpec := { _root_.Go.OpenSpec.ofChange s with cond := some uptoSmall }

/-- 'laws.FnExactTwoRows', WHERE WHAT IT READS IS OF BULK AT MOST 1048576: true; the input reads as it did. -/
def fnExactTwoRowsUptoRow : OpenClaim := { program := "ytnpmnjmjbpfipaa", sum := "14032ed9239093d678e764a6600bc4c98d7fc4655e349a81cab0d8871f3be0db", func := "loop.example/dominotilings/laws.FnExactTwoRows", spec := "fnExactTwoRows", apart := false, narrowed := true }
def FnExactTwoRowsUptoSaid : Prop := fnExactTwoRowsUptoRow.holds Try.pinned (OpenSpec.upto fnExactTwoRowsSpec)

/-- 'laws.FnExactThreeRows', WHERE WHAT IT READS IS OF BULK AT MOST 1048576: true; the input reads as it did. -/
def fnExactThreeRowsUptoRow : OpenClaim := { program := "ytnpmnjmjbpfipaa", sum := "14032ed9239093d678e764a6600bc4c98d7fc4655e349a81cab0d8871f3be0db", func := "loop.example/dominotilings/laws.FnExactThreeRows", spec := "fnExactThreeRows", apart := false, narrowed := true }
def FnExactThreeRowsUptoSaid : Prop := fnExactThreeRowsUptoRow.holds Try.pinned (OpenSpec.upto fnExactThreeRowsSpec)

/-- 'laws.FnExactMatrixValid', WHERE WHAT IT READS IS OF BULK AT MOST 1048576: true; the input reads as it did. -/
def fnExactMatrixValidUptoRow : OpenClaim := { program := "ytnpmnjmjbpfipaa", sum := "14032ed9239093d678e764a6600bc4c98d7fc4655e349a81cab0d8871f3be0db", func := "loop.example/dominotilings/laws.FnExactMatrixValid", spec := "fnExactMatrixValid", unfollowed := true, recurses := true, apart := false, narrowed := true }
def FnExactMatrixValidUptoSaid : Prop := fnExactMatrixValidUptoRow.holds Try.pinned (OpenSpec.upto fnExactMatrixValidSpec)

/-- 'laws.FnExactDet', WHERE WHAT IT READS IS OF BULK AT MOST 1048576: true; the input reads as it did. -/
def fnExactDetUptoRow : OpenClaim := { program := "ytnpmnjmjbpfipaa", sum := "14032ed9239093d678e764a6600bc4c98d7fc4655e349a81cab0d8871f3be0db", func := "loop.example/dominotilings/laws.FnExactDet", spec := "fnExactDet", unfollowed := true, recurses := true, apart := false, narrowed := true }
def FnExactDetUptoSaid : Prop := fnExactDetUptoRow.holds Try.pinned (OpenSpec.upto fnExactDetSpec)

/-- 'laws.FnExactTilingsMany', WHERE WHAT IT READS IS OF BULK AT MOST 1048576: true; the input reads as it did. -/
def fnExactTilingsManyUptoRow : OpenClaim := { program := "ytnpmnjmjbpfipaa", sum := "14032ed9239093d678e764a6600bc4c98d7fc4655e349a81cab0d8871f3be0db", func := "loop.example/dominotilings/laws.FnExactTilingsMany", spec := "fnExactTilingsMany", apart := false, narrowed := true }
def FnExactTilingsManyUptoSaid : Prop := fnExactTilingsManyUptoRow.holds Try.pinned (OpenSpec.upto fnExactTilingsManySpec)

/-- 'laws.FnExactTilingsWith', WHERE WHAT IT READS IS OF BULK AT MOST 1048576: true; the input reads as it did. -/
def fnExactTilingsWithUptoRow : OpenClaim := { program := "ytnpmnjmjbpfipaa", sum := "14032ed9239093d678e764a6600bc4c98d7fc4655e349a81cab0d8871f3be0db", func := "loop.example/dominotilings/laws.FnExactTilingsWith", spec := "fnExactTilingsWith", apart := false, narrowed := true }
def FnExactTilingsWithUptoSaid : Prop := fnExactTilingsWithUptoRow.holds Try.pinned (OpenSpec.upto fnExactTilingsWithSpec)

/-- 'laws.FnExactForcedOf', WHERE WHAT IT READS IS OF BULK AT MOST 1048576: true; the input reads as it did. -/
def fnExactForcedOfUptoRow : OpenClaim := { program := "ytnpmnjmjbpfipaa", sum := "14032ed9239093d678e764a6600bc4c98d7fc4655e349a81cab0d8871f3be0db", func := "loop.example/dominotilings/laws.FnExactForcedOf", spec := "fnExactForcedOf", apart := false, narrowed := true }
def FnExactForcedOfUptoSaid : Prop := fnExactForcedOfUptoRow.holds Try.pinned (OpenSpec.upto fnExactForcedOfSpec)

/-- 'laws.FnExactAcrossMany', WHERE WHAT IT READS IS OF BULK AT MOST 1048576: true; the input reads as it did. -/
def fnExactAcrossManyUptoRow : OpenClaim := { program := "ytnpmnjmjbpfipaa", sum := "14032ed9239093d678e764a6600bc4c98d7fc4655e349a81cab0d8871f3be0db", func := "loop.example/dominotilings/laws.FnExactAcrossMany", spec := "fnExactAcrossMany", apart := false, narrowed := true }
def FnExactAcrossManyUptoSaid : Prop := fnExactAcrossManyUptoRow.holds Try.pinned (OpenSpec.upto fnExactAcrossManySpec)

/-- 'laws.FnExactAcrossSum', WHERE WHAT IT READS IS OF BULK AT MOST 1048576: true; the input reads as it did. -/
def fnExactAcrossSumUptoRow : OpenClaim := { program := "ytnpmnjmjbpfipaa", sum := "14032ed9239093d678e764a6600bc4c98d7fc4655e349a81cab0d8871f3be0db", func := "loop.example/dominotilings/laws.FnExactAcrossSum", spec := "fnExactAcrossSum", apart := false, narrowed := true }
def FnExactAcrossSumUptoSaid : Prop := fnExactAcrossSumUptoRow.holds Try.pinned (OpenSpec.upto fnExactAcrossSumSpec)

/-- 'laws.FnExactRankOf', WHERE WHAT IT READS IS OF BULK AT MOST 1048576: true; the input reads as it did. -/
def fnExactRankOfUptoRow : OpenClaim := { program := "ytnpmnjmjbpfipaa", sum := "14032ed9239093d678e764a6600bc4c98d7fc4655e349a81cab0d8871f3be0db", func := "loop.example/dominotilings/laws.FnExactRankOf", spec := "fnExactRankOf", apart := false, narrowed := true }
def FnExactRankOfUptoSaid : Prop := fnExactRankOfUptoRow.holds Try.pinned (OpenSpec.upto fnExactRankOfSpec)

/-- 'laws.FnExactTilingOf', WHERE WHAT IT READS IS OF BULK AT MOST 1048576: true; the input reads as it did. -/
def fnExactTilingOfUptoRow : OpenClaim := { program := "ytnpmnjmjbpfipaa", sum := "14032ed9239093d678e764a6600bc4c98d7fc4655e349a81cab0d8871f3be0db", func := "loop.example/dominotilings/laws.FnExactTilingOf", spec := "fnExactTilingOf", apart := false, narrowed := true }
def FnExactTilingOfUptoSaid : Prop := fnExactTilingOfUptoRow.holds Try.pinned (OpenSpec.upto fnExactTilingOfSpec)

/-- 'laws.FnExactSignMatrix', WHERE WHAT IT READS IS OF BULK AT MOST 1048576: true; the input reads as it did. -/
def fnExactSignMatrixUptoRow : OpenClaim := { program := "ytnpmnjmjbpfipaa", sum := "14032ed9239093d678e764a6600bc4c98d7fc4655e349a81cab0d8871f3be0db", func := "loop.example/dominotilings/laws.FnExactSignMatrix", spec := "fnExactSignMatrix", apart := false, narrowed := true }
def FnExactSignMatrixUptoSaid : Prop := fnExactSignMatrixUptoRow.holds Try.pinned (OpenSpec.upto fnExactSignMatrixSpec)

end Rows
end Go.Proofs.Ytnpmnjmjbpfipaa
