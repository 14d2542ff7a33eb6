/- What is drawn of a code by l20Some and l20Laid: a region that is often tiled; with a list of dominoes, a cell, a direction. -/
import Derived.Test.YtagbjhiagkkahaaLaid20
import Derived.Test.YtagbjhiagkkahaaDrawSet
import Derived.Deep.CutBlock
namespace Go.Proofs.Ytagbjhiagkkahaa
open Go.RowKit
set_option linter.unusedVariables false
set_option maxRecDepth 100000
set_option linter.unusedSimpArgs false

/-- A region and a list of dominoes were drawn of a code. -/
def DrawnRL (w : World) (e : Ending) (w' : World) : Prop :=
  ∃ (W T : Int) (a : Option Addr) (n cap : Nat) (xs : List Bool) (la : Option Addr) (m lcap : Nat) (L : List Int), e = .returned (.tuple #[.agg #[.int .i64 W, .int .i64 T, .slice a n cap], .slice la m lcap]) ∧ n = xs.length ∧ n ≤ 36 ∧ (0 ≤ W ∧ W ≤ 6 ∧ 0 ≤ T ∧ T ≤ 6) ∧ OwnsB w' (w.heap.size + 1) (.slice a n cap) xs ∧ m = L.length ∧ m ≤ 36 ∧ OwnsI w' (w.heap.size + 1) (.slice la m lcap) L ∧ Below w.heap.size w w'
theorem OwnsI.set3 {w : World} {B : Nat} {v : Value} {xs : List Int} (h : OwnsI w B v xs) {b : Nat} (hb : b < B) (x y z : Value) : OwnsI (((w.setCell ⟨b, 0, none⟩ x).setCell ⟨b, 1, none⟩ y).setCell ⟨b, 2, none⟩ z) B v xs :=
  ((h.setBelow (p := ⟨b, 0, none⟩) hb x).setBelow (p := ⟨b, 1, none⟩) hb y).setBelow (p := ⟨b, 2, none⟩) hb z

/-- A region, a list of dominoes and a cell were drawn of a code. -/
def DrawnRLC (w : World) (e : Ending) (w' : World) : Prop :=
  ∃ (W T : Int) (a : Option Addr) (n cap : Nat) (xs : List Bool) (la : Option Addr) (m lcap : Nat) (L : List Int) (k : Int), e = .returned (.tuple #[.agg #[.int .i64 W, .int .i64 T, .slice a n cap], .slice la m lcap, .int .i64 k]) ∧ n = xs.length ∧ n ≤ 36 ∧ (0 ≤ W ∧ W ≤ 6 ∧ 0 ≤ T ∧ T ≤ 6) ∧ OwnsB w' (w.heap.size + 1) (.slice a n cap) xs ∧ m = L.length ∧ m ≤ 36 ∧ OwnsI w' (w.heap.size + 1) (.slice la m lcap) L ∧ (-40 ≤ k ∧ k ≤ 40) ∧ Below w.heap.size w w'
def DrawnRLCW (w : World) (e : Ending) (w' : World) : Prop :=
  ∃ (W T : Int) (a : Option Addr) (n cap : Nat) (xs : List Bool) (la : Option Addr) (m lcap : Nat) (L : List Int) (k way : Int), e = .returned (.tuple #[.agg #[.int .i64 W, .int .i64 T, .slice a n cap], .slice la m lcap, .int .i64 k, .int .i64 way]) ∧ n = xs.length ∧ n ≤ 36 ∧ (0 ≤ W ∧ W ≤ 6 ∧ 0 ≤ T ∧ T ≤ 6) ∧ OwnsB w' (w.heap.size + 1) (.slice a n cap) xs ∧ m = L.length ∧ m ≤ 36 ∧ OwnsI w' (w.heap.size + 1) (.slice la m lcap) L ∧ (-40 ≤ k ∧ k ≤ 40 ∧ 0 ≤ way ∧ way ≤ 5) ∧ Below w.heap.size w w'

end Go.Proofs.Ytagbjhiagkkahaa
