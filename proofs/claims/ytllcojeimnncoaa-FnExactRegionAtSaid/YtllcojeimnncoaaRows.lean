/-
  No cell of these rows narrows 'for every input' (looked for: loops, veiled, ifaces, maps, wideKeys, modest, calm, conditions, laid).
  DERIVED. THE GIVEN ROWS OF THIS SEAT. 12 by the template 'for every input the law returns true; each argument reads behind the call as it read before'; 0 by the template 'total and deterministic' (their statements: YtllcojeimnncoaaTotals.lean).
  GIVEN WITH THE SEED: the statements are not yours to turn. If you find one false, say at which input.
  Laid BY PROGRAM, IN A SANDBOX (cutbox-rows.mjs): the forced cells as the released guide's own fill.sh prints them over the translation f955b9eb0c6fcca2… (all of the seat's roots in one cut). By AI agents, Wed Nov 11 2026. No macro, syntax, notation, axiom, sorry.
-/
import Derived.Test.YtllcojeimnncoaaChecked
import GoSem.Claim
import GoSem.ClaimJoined
import GoSem.ClaimMapViews
import Derived.JoinedTies
import Derived.KernelRfl
namespace Go.Proofs.Ytllcojeimnncoaa
/- THE CELL 'sum', in the pinned program and in every row, IS THE sha256 OF THE DUMP (.gsa) THAT YtllcojeimnncoaaProg.lean LOADS. Nothing in Lean hashes anything: it is a label: what it is worth is what the hold of that sum in a sandbox is worth. -/
noncomputable def Try.pinned : Pinned := { name := "ytllcojeimnncoaa", sum := "f955b9eb0c6fcca269471ea48156b98bbbeb5b703c578ef97673ae5a0da470ba", checked := Try.checked }
namespace Rows
def none {H : Type} : Left H := { results := [], args := [] }

/-- 'laws.FnExactPartsOf': WHATEVER THE INPUT: true; the input reads as it did. -/
def fnExactPartsOfSpec : ChangeSpec := { name := "fnExactPartsOf", fn := fun _ => fun
  | [d] => { results := [.lit (.bool true)], args := [d] }
  | _ => none }
def fnExactPartsOfRow : OpenClaim := { program := "ytllcojeimnncoaa", sum := "f955b9eb0c6fcca269471ea48156b98bbbeb5b703c578ef97673ae5a0da470ba", func := "loop.example/dominotilings/laws.FnExactPartsOf", spec := "fnExactPartsOf", apart := false }
def FnExactPartsOfSaid : Prop := fnExactPartsOfRow.holds Try.pinned (OpenSpec.ofChange fnExactPartsOfSpec)

/-- ITS FALSE NEIGHBOUR: 'it returns false'. Refute it at one input. -/
def fnExactPartsOfWrong : ChangeSpec := { name := "fnExactPartsOf", fn := fun _ => fun
  | [d] => { results := [.lit (.bool false)], args := [d] }
  | _ => none }
def FnExactPartsOfWrongFalsely : Prop := fnExactPartsOfRow.holds Try.pinned (OpenSpec.ofChange fnExactPartsOfWrong)

/-- 'laws.FnExactPartsMany': WHATEVER THE INPUT: true; the input reads as it did. -/
def fnExactPartsManySpec : ChangeSpec := { name := "fnExactPartsMany", fn := fun _ => fun
  | [d] => { results := [.lit (.bool true)], args := [d] }
  | _ => none }
def fnExactPartsManyRow : OpenClaim := { program := "ytllcojeimnncoaa", sum := "f955b9eb0c6fcca269471ea48156b98bbbeb5b703c578ef97673ae5a0da470ba", func := "loop.example/dominotilings/laws.FnExactPartsMany", spec := "fnExactPartsMany", apart := false }
def FnExactPartsManySaid : Prop := fnExactPartsManyRow.holds Try.pinned (OpenSpec.ofChange fnExactPartsManySpec)

/-- ITS FALSE NEIGHBOUR: 'it returns false'. Refute it at one input. -/
def fnExactPartsManyWrong : ChangeSpec := { name := "fnExactPartsMany", fn := fun _ => fun
  | [d] => { results := [.lit (.bool false)], args := [d] }
  | _ => none }
def FnExactPartsManyWrongFalsely : Prop := fnExactPartsManyRow.holds Try.pinned (OpenSpec.ofChange fnExactPartsManyWrong)

/-- 'laws.FnExactHolesMany': WHATEVER THE INPUT: true; the input reads as it did. -/
def fnExactHolesManySpec : ChangeSpec := { name := "fnExactHolesMany", fn := fun _ => fun
  | [d] => { results := [.lit (.bool true)], args := [d] }
  | _ => none }
def fnExactHolesManyRow : OpenClaim := { program := "ytllcojeimnncoaa", sum := "f955b9eb0c6fcca269471ea48156b98bbbeb5b703c578ef97673ae5a0da470ba", func := "loop.example/dominotilings/laws.FnExactHolesMany", spec := "fnExactHolesMany", apart := false }
def FnExactHolesManySaid : Prop := fnExactHolesManyRow.holds Try.pinned (OpenSpec.ofChange fnExactHolesManySpec)

/-- ITS FALSE NEIGHBOUR: 'it returns false'. Refute it at one input. -/
def fnExactHolesManyWrong : ChangeSpec := { name := "fnExactHolesMany", fn := fun _ => fun
  | [d] => { results := [.lit (.bool false)], args := [d] }
  | _ => none }
def FnExactHolesManyWrongFalsely : Prop := fnExactHolesManyRow.holds Try.pinned (OpenSpec.ofChange fnExactHolesManyWrong)

/-- 'laws.FnExactPartRegion': WHATEVER THE INPUT: true; the input reads as it did. -/
def fnExactPartRegionSpec : ChangeSpec := { name := "fnExactPartRegion", fn := fun _ => fun
  | [d1, d2] => { results := [.lit (.bool true)], args := [d1, d2] }
  | _ => none }
def fnExactPartRegionRow : OpenClaim := { program := "ytllcojeimnncoaa", sum := "f955b9eb0c6fcca269471ea48156b98bbbeb5b703c578ef97673ae5a0da470ba", func := "loop.example/dominotilings/laws.FnExactPartRegion", spec := "fnExactPartRegion", apart := false }
def FnExactPartRegionSaid : Prop := fnExactPartRegionRow.holds Try.pinned (OpenSpec.ofChange fnExactPartRegionSpec)

/-- ITS FALSE NEIGHBOUR: 'it returns false'. Refute it at one input. -/
def fnExactPartRegionWrong : ChangeSpec := { name := "fnExactPartRegion", fn := fun _ => fun
  | [d1, d2] => { results := [.lit (.bool false)], args := [d1, d2] }
  | _ => none }
def FnExactPartRegionWrongFalsely : Prop := fnExactPartRegionRow.holds Try.pinned (OpenSpec.ofChange fnExactPartRegionWrong)

/-- 'laws.FnExactPartsProduct': WHATEVER THE INPUT: true; the input reads as it did. -/
def fnExactPartsProductSpec : ChangeSpec := { name := "fnExactPartsProduct", fn := fun _ => fun
  | [d] => { results := [.lit (.bool true)], args := [d] }
  | _ => none }
def fnExactPartsProductRow : OpenClaim := { program := "ytllcojeimnncoaa", sum := "f955b9eb0c6fcca269471ea48156b98bbbeb5b703c578ef97673ae5a0da470ba", func := "loop.example/dominotilings/laws.FnExactPartsProduct", spec := "fnExactPartsProduct", apart := false }
def FnExactPartsProductSaid : Prop := fnExactPartsProductRow.holds Try.pinned (OpenSpec.ofChange fnExactPartsProductSpec)

/-- ITS FALSE NEIGHBOUR: 'it returns false'. Refute it at one input. -/
def fnExactPartsProductWrong : ChangeSpec := { name := "fnExactPartsProduct", fn := fun _ => fun
  | [d] => { results := [.lit (.bool false)], args := [d] }
  | _ => none }
def FnExactPartsProductWrongFalsely : Prop := fnExactPartsProductRow.holds Try.pinned (OpenSpec.ofChange fnExactPartsProductWrong)

/-- 'laws.FnExactTilingsDet': WHATEVER THE INPUT: true; the input reads as it did. -/
def fnExactTilingsDetSpec : ChangeSpec := { name := "fnExactTilingsDet", fn := fun _ => fun
  | [d] => { results := [.lit (.bool true)], args := [d] }
  | _ => none }
def fnExactTilingsDetRow : OpenClaim := { program := "ytllcojeimnncoaa", sum := "f955b9eb0c6fcca269471ea48156b98bbbeb5b703c578ef97673ae5a0da470ba", func := "loop.example/dominotilings/laws.FnExactTilingsDet", spec := "fnExactTilingsDet", unfollowed := true, recurses := true, apart := false }
def FnExactTilingsDetSaid : Prop := fnExactTilingsDetRow.holds Try.pinned (OpenSpec.ofChange fnExactTilingsDetSpec)

/-- ITS FALSE NEIGHBOUR: 'it returns false'. Refute it at one input. -/
def fnExactTilingsDetWrong : ChangeSpec := { name := "fnExactTilingsDet", fn := fun _ => fun
  | [d] => { results := [.lit (.bool false)], args := [d] }
  | _ => none }
def FnExactTilingsDetWrongFalsely : Prop := fnExactTilingsDetRow.holds Try.pinned (OpenSpec.ofChange fnExactTilingsDetWrong)

/-- 'laws.FnExactRegionFlip': WHATEVER THE INPUT: true; the input reads as it did. -/
def fnExactRegionFlipSpec : ChangeSpec := { name := "fnExactRegionFlip", fn := fun _ => fun
  | [d] => { results := [.lit (.bool true)], args := [d] }
  | _ => none }
def fnExactRegionFlipRow : OpenClaim := { program := "ytllcojeimnncoaa", sum := "f955b9eb0c6fcca269471ea48156b98bbbeb5b703c578ef97673ae5a0da470ba", func := "loop.example/dominotilings/laws.FnExactRegionFlip", spec := "fnExactRegionFlip", apart := false }
def FnExactRegionFlipSaid : Prop := fnExactRegionFlipRow.holds Try.pinned (OpenSpec.ofChange fnExactRegionFlipSpec)

/-- ITS FALSE NEIGHBOUR: 'it returns false'. Refute it at one input. -/
def fnExactRegionFlipWrong : ChangeSpec := { name := "fnExactRegionFlip", fn := fun _ => fun
  | [d] => { results := [.lit (.bool false)], args := [d] }
  | _ => none }
def FnExactRegionFlipWrongFalsely : Prop := fnExactRegionFlipRow.holds Try.pinned (OpenSpec.ofChange fnExactRegionFlipWrong)

/-- 'laws.FnExactRegionAt': WHATEVER THE INPUT: true; the input reads as it did. -/
def fnExactRegionAtSpec : ChangeSpec := { name := "fnExactRegionAt", fn := fun _ => fun
  | [d1, d2, d3] => { results := [.lit (.bool true)], args := [d1, d2, d3] }
  | _ => none }
def fnExactRegionAtRow : OpenClaim := { program := "ytllcojeimnncoaa", sum := "f955b9eb0c6fcca269471ea48156b98bbbeb5b703c578ef97673ae5a0da470ba", func := "loop.example/dominotilings/laws.FnExactRegionAt", spec := "fnExactRegionAt", apart := false }
def FnExactRegionAtSaid : Prop := fnExactRegionAtRow.holds Try.pinned (OpenSpec.ofChange fnExactRegionAtSpec)

/-- ITS FALSE NEIGHBOUR: 'it returns false'. Refute it at one input. -/
def fnExactRegionAtWrong : ChangeSpec := { name := "fnExactRegionAt", fn := fun _ => fun
  | [d1, d2, d3] => { results := [.lit (.bool false)], args := [d1, d2, d3] }
  | _ => none }
def FnExactRegionAtWrongFalsely : Prop := fnExactRegionAtRow.holds Try.pinned (OpenSpec.ofChange fnExactRegionAtWrong)

/-- 'laws.FnExactBorder': WHATEVER THE INPUT: true; the input reads as it did. -/
def fnExactBorderSpec : ChangeSpec := { name := "fnExactBorder", fn := fun _ => fun
  | [d] => { results := [.lit (.bool true)], args := [d] }
  | _ => none }
def fnExactBorderRow : OpenClaim := { program := "ytllcojeimnncoaa", sum := "f955b9eb0c6fcca269471ea48156b98bbbeb5b703c578ef97673ae5a0da470ba", func := "loop.example/dominotilings/laws.FnExactBorder", spec := "fnExactBorder", apart := false }
def FnExactBorderSaid : Prop := fnExactBorderRow.holds Try.pinned (OpenSpec.ofChange fnExactBorderSpec)

/-- ITS FALSE NEIGHBOUR: 'it returns false'. Refute it at one input. -/
def fnExactBorderWrong : ChangeSpec := { name := "fnExactBorder", fn := fun _ => fun
  | [d] => { results := [.lit (.bool false)], args := [d] }
  | _ => none }
def FnExactBorderWrongFalsely : Prop := fnExactBorderRow.holds Try.pinned (OpenSpec.ofChange fnExactBorderWrong)

/-- 'laws.FnExactComplete': WHATEVER THE INPUT: true; the input reads as it did. -/
def fnExactCompleteSpec : ChangeSpec := { name := "fnExactComplete", fn := fun _ => fun
  | [d1, d2] => { results := [.lit (.bool true)], args := [d1, d2] }
  | _ => none }
def fnExactCompleteRow : OpenClaim := { program := "ytllcojeimnncoaa", sum := "f955b9eb0c6fcca269471ea48156b98bbbeb5b703c578ef97673ae5a0da470ba", func := "loop.example/dominotilings/laws.FnExactComplete", spec := "fnExactComplete", unfollowed := true, recurses := true, apart := false }
def FnExactCompleteSaid : Prop := fnExactCompleteRow.holds Try.pinned (OpenSpec.ofChange fnExactCompleteSpec)

/-- ITS FALSE NEIGHBOUR: 'it returns false'. Refute it at one input. -/
def fnExactCompleteWrong : ChangeSpec := { name := "fnExactComplete", fn := fun _ => fun
  | [d1, d2] => { results := [.lit (.bool false)], args := [d1, d2] }
  | _ => none }
def FnExactCompleteWrongFalsely : Prop := fnExactCompleteRow.holds Try.pinned (OpenSpec.ofChange fnExactCompleteWrong)

/-- 'laws.FnExactTilingFirst': WHATEVER THE INPUT: true; the input reads as it did. -/
def fnExactTilingFirstSpec : ChangeSpec := { name := "fnExactTilingFirst", fn := fun _ => fun
  | [d] => { results := [.lit (.bool true)], args := [d] }
  | _ => none }
def fnExactTilingFirstRow : OpenClaim := { program := "ytllcojeimnncoaa", sum := "f955b9eb0c6fcca269471ea48156b98bbbeb5b703c578ef97673ae5a0da470ba", func := "loop.example/dominotilings/laws.FnExactTilingFirst", spec := "fnExactTilingFirst", unfollowed := true, recurses := true, apart := false }
def FnExactTilingFirstSaid : Prop := fnExactTilingFirstRow.holds Try.pinned (OpenSpec.ofChange fnExactTilingFirstSpec)

/-- ITS FALSE NEIGHBOUR: 'it returns false'. Refute it at one input. -/
def fnExactTilingFirstWrong : ChangeSpec := { name := "fnExactTilingFirst", fn := fun _ => fun
  | [d] => { results := [.lit (.bool false)], args := [d] }
  | _ => none }
def FnExactTilingFirstWrongFalsely : Prop := fnExactTilingFirstRow.holds Try.pinned (OpenSpec.ofChange fnExactTilingFirstWrong)

/-- 'laws.FnExactTilingsAll': WHATEVER THE INPUT: true; the input reads as it did. -/
def fnExactTilingsAllSpec : ChangeSpec := { name := "fnExactTilingsAll", fn := fun _ => fun
  | [d] => { results := [.lit (.bool true)], args := [d] }
  | _ => none }
def fnExactTilingsAllRow : OpenClaim := { program := "ytllcojeimnncoaa", sum := "f955b9eb0c6fcca269471ea48156b98bbbeb5b703c578ef97673ae5a0da470ba", func := "loop.example/dominotilings/laws.FnExactTilingsAll", spec := "fnExactTilingsAll", unfollowed := true, recurses := true, apart := false }
def FnExactTilingsAllSaid : Prop := fnExactTilingsAllRow.holds Try.pinned (OpenSpec.ofChange fnExactTilingsAllSpec)

/-- ITS FALSE NEIGHBOUR: 'it returns false'. Refute it at one input. -/
def fnExactTilingsAllWrong : ChangeSpec := { name := "fnExactTilingsAll", fn := fun _ => fun
  | [d] => { results := [.lit (.bool false)], args := [d] }
  | _ => none }
def FnExactTilingsAllWrongFalsely : Prop := fnExactTilingsAllRow.holds Try.pinned (OpenSpec.ofChange fnExactTilingsAllWrong)

/- THE SECOND FORM. 'bulk': how many values and letters a reading holds, each counted each time it is reached (what is shared counts as often as it is met; a slice's spare places count too). A statement '..UptoSaid' is the law's where the arguments, and the package variables that the reading takes, are together of bulk at most 1048576: NARROWER than '..Said'. Prove '..Said' where nothing that the law and all that it calls make is longer than what came in: it says more and counts as full. Else prove '..UptoSaid'. A law counts once. -/
mutual
def uptoBulk {H : Type} : DataW H → Nat
  | .lit (.string bytes) => bytes.length + 1
  | .lit _ => 1
  | .nil => 1
  | .ptr d => uptoBulk d + 1
  | .slice elems spare => uptoBulkAll elems + uptoBulkAll spare + 1
  | .agg parts => uptoBulkAll parts + 1
  | .iface _ d => uptoBulk d + 1
  | .map entries => uptoBulkEntries entries + 1
  | .held _ => 1
def uptoBulkAll {H : Type} : List (DataW H) → Nat
  | [] => 0
  | d :: r => uptoBulk d + uptoBulkAll r
def uptoBulkEntries {H : Type} : List (Lit × DataW H) → Nat
  | [] => 0
  | x :: r => uptoBulkEntry x + uptoBulkEntries r
def uptoBulkEntry {H : Type} : Lit × DataW H → Nat
  | (.string bytes, d) => bytes.length + uptoBulk d + 1
  | (_, d) => uptoBulk d + 1
 end
def uptoSmall : (H : Type) → List (DataW H) → Bool := fun _ ds => decide (uptoBulkAll ds ≤ 1048576)
def OpenSpec.upto (s : _root_.Go.ChangeSpec) : _root_.Go.OpenSpec := { _root_.Go.OpenSpec.ofChange s with cond := some uptoSmall }

/-- 'laws.FnExactPartsOf', WHERE WHAT IT READS IS OF BULK AT MOST 1048576: true; the input reads as it did. -/
def fnExactPartsOfUptoRow : OpenClaim := { program := "ytllcojeimnncoaa", sum := "f955b9eb0c6fcca269471ea48156b98bbbeb5b703c578ef97673ae5a0da470ba", func := "loop.example/dominotilings/laws.FnExactPartsOf", spec := "fnExactPartsOf", apart := false, narrowed := true }
def FnExactPartsOfUptoSaid : Prop := fnExactPartsOfUptoRow.holds Try.pinned (OpenSpec.upto fnExactPartsOfSpec)

/-- 'laws.FnExactPartsMany', WHERE WHAT IT READS IS OF BULK AT MOST 1048576: true; the input reads as it did. -/
def fnExactPartsManyUptoRow : OpenClaim := { program := "ytllcojeimnncoaa", sum := "f955b9eb0c6fcca269471ea48156b98bbbeb5b703c578ef97673ae5a0da470ba", func := "loop.example/dominotilings/laws.FnExactPartsMany", spec := "fnExactPartsMany", apart := false, narrowed := true }
def FnExactPartsManyUptoSaid : Prop := fnExactPartsManyUptoRow.holds Try.pinned (OpenSpec.upto fnExactPartsManySpec)

/-- 'laws.FnExactHolesMany', WHERE WHAT IT READS IS OF BULK AT MOST 1048576: true; the input reads as it did. -/
def fnExactHolesManyUptoRow : OpenClaim := { program := "ytllcojeimnncoaa", sum := "f955b9eb0c6fcca269471ea48156b98bbbeb5b703c578ef97673ae5a0da470ba", func := "loop.example/dominotilings/laws.FnExactHolesMany", spec := "fnExactHolesMany", apart := false, narrowed := true }
def FnExactHolesManyUptoSaid : Prop := fnExactHolesManyUptoRow.holds Try.pinned (OpenSpec.upto fnExactHolesManySpec)

/-- 'laws.FnExactPartRegion', WHERE WHAT IT READS IS OF BULK AT MOST 1048576: true; the input reads as it did. -/
def fnExactPartRegionUptoRow : OpenClaim := { program := "ytllcojeimnncoaa", sum := "f955b9eb0c6fcca269471ea48156b98bbbeb5b703c578ef97673ae5a0da470ba", func := "loop.example/dominotilings/laws.FnExactPartRegion", spec := "fnExactPartRegion", apart := false, narrowed := true }
def FnExactPartRegionUptoSaid : Prop := fnExactPartRegionUptoRow.holds Try.pinned (OpenSpec.upto fnExactPartRegionSpec)

/-- 'laws.FnExactPartsProduct', WHERE WHAT IT READS IS OF BULK AT MOST 1048576: true; the input reads as it did. -/
def fnExactPartsProductUptoRow : OpenClaim := { program := "ytllcojeimnncoaa", sum := "f955b9eb0c6fcca269471ea48156b98bbbeb5b703c578ef97673ae5a0da470ba", func := "loop.example/dominotilings/laws.FnExactPartsProduct", spec := "fnExactPartsProduct", apart := false, narrowed := true }
def FnExactPartsProductUptoSaid : Prop := fnExactPartsProductUptoRow.holds Try.pinned (OpenSpec.upto fnExactPartsProductSpec)

/-- 'laws.FnExactTilingsDet', WHERE WHAT IT READS IS OF BULK AT MOST 1048576: true; the input reads as it did. -/
def fnExactTilingsDetUptoRow : OpenClaim := { program := "ytllcojeimnncoaa", sum := "f955b9eb0c6fcca269471ea48156b98bbbeb5b703c578ef97673ae5a0da470ba", func := "loop.example/dominotilings/laws.FnExactTilingsDet", spec := "fnExactTilingsDet", unfollowed := true, recurses := true, apart := false, narrowed := true }
def FnExactTilingsDetUptoSaid : Prop := fnExactTilingsDetUptoRow.holds Try.pinned (OpenSpec.upto fnExactTilingsDetSpec)

/-- 'laws.FnExactRegionFlip', WHERE WHAT IT READS IS OF BULK AT MOST 1048576: true; the input reads as it did. -/
def fnExactRegionFlipUptoRow : OpenClaim := { program := "ytllcojeimnncoaa", sum := "f955b9eb0c6fcca269471ea48156b98bbbeb5b703c578ef97673ae5a0da470ba", func := "loop.example/dominotilings/laws.FnExactRegionFlip", spec := "fnExactRegionFlip", apart := false, narrowed := true }
def FnExactRegionFlipUptoSaid : Prop := fnExactRegionFlipUptoRow.holds Try.pinned (OpenSpec.upto fnExactRegionFlipSpec)

/-- 'laws.FnExactRegionAt', WHERE WHAT IT READS IS OF BULK AT MOST 1048576: true; the input reads as it did. -/
def fnExactRegionAtUptoRow : OpenClaim := { program := "ytllcojeimnncoaa", sum := "f955b9eb0c6fcca269471ea48156b98bbbeb5b703c578ef97673ae5a0da470ba", func := "loop.example/dominotilings/laws.FnExactRegionAt", spec := "fnExactRegionAt", apart := false, narrowed := true }
def FnExactRegionAtUptoSaid : Prop := fnExactRegionAtUptoRow.holds Try.pinned (OpenSpec.upto fnExactRegionAtSpec)

/-- 'laws.FnExactBorder', WHERE WHAT IT READS IS OF BULK AT MOST 1048576: true; the input reads as it did. -/
def fnExactBorderUptoRow : OpenClaim := { program := "ytllcojeimnncoaa", sum := "f955b9eb0c6fcca269471ea48156b98bbbeb5b703c578ef97673ae5a0da470ba", func := "loop.example/dominotilings/laws.FnExactBorder", spec := "fnExactBorder", apart := false, narrowed := true }
def FnExactBorderUptoSaid : Prop := fnExactBorderUptoRow.holds Try.pinned (OpenSpec.upto fnExactBorderSpec)

/-- 'laws.FnExactComplete', WHERE WHAT IT READS IS OF BULK AT MOST 1048576: true; the input reads as it did. -/
def fnExactCompleteUptoRow : OpenClaim := { program := "ytllcojeimnncoaa", sum := "f955b9eb0c6fcca269471ea48156b98bbbeb5b703c578ef97673ae5a0da470ba", func := "loop.example/dominotilings/laws.FnExactComplete", spec := "fnExactComplete", unfollowed := true, recurses := true, apart := false, narrowed := true }
def FnExactCompleteUptoSaid : Prop := fnExactCompleteUptoRow.holds Try.pinned (OpenSpec.upto fnExactCompleteSpec)

/-- 'laws.FnExactTilingFirst', WHERE WHAT IT READS IS OF BULK AT MOST 1048576: true; the input reads as it did. -/
def fnExactTilingFirstUptoRow : OpenClaim := { program := "ytllcojeimnncoaa", sum := "f955b9eb0c6fcca269471ea48156b98bbbeb5b703c578ef97673ae5a0da470ba", func := "loop.example/dominotilings/laws.FnExactTilingFirst", spec := "fnExactTilingFirst", unfollowed := true, recurses := true, apart := false, narrowed := true }
def FnExactTilingFirstUptoSaid : Prop := fnExactTilingFirstUptoRow.holds Try.pinned (OpenSpec.upto fnExactTilingFirstSpec)

/-- 'laws.FnExactTilingsAll', WHERE WHAT IT READS IS OF BULK AT MOST 1048576: true; the input reads as it did. -/
def fnExactTilingsAllUptoRow : OpenClaim := { program := "ytllcojeimnncoaa", sum := "f955b9eb0c6fcca269471ea48156b98bbbeb5b703c578ef97673ae5a0da470ba", func := "loop.example/dominotilings/laws.FnExactTilingsAll", spec := "fnExactTilingsAll", unfollowed := true, recurses := true, apart := false, narrowed := true }
def FnExactTilingsAllUptoSaid : Prop := fnExactTilingsAllUptoRow.holds Try.pinned (OpenSpec.upto fnExactTilingsAllSpec)

end Rows
end Go.Proofs.Ytllcojeimnncoaa
