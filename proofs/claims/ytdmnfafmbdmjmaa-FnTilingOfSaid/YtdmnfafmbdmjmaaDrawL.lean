/- What is drawn of a code by l20Some and l20Laid: a region that is often tiled; with a list of dominoes, a cell, a direction. -/
import Derived.Test.YtdmnfafmbdmjmaaLaid20
import Derived.Test.YtdmnfafmbdmjmaaDrawSet
import Derived.Deep.CutBlock
namespace Go.Proofs.Ytdmnfafmbdmjmaa
open Go.RowKit
set_option linter.unusedVariables false
set_option maxRecDepth 100000
set_option linter.unusedSimpArgs false

theorem drawForcedOf_any (cb : Option Addr) (n cap : Nat) (zs : List Int) (w : World) (hn : n = zs.length) (hn' : n ≤ 1048576) (hcap : n ≤ cap) (hb : BytesAt w cb zs) :
    Calls Try.prog 15 #[.slice cb n cap] w (DrawnX w) := by
  have HN := Lib.hid hn; clear hn
  have HB := Lib.hid hb; clear hb
  go_enter Try.func15, Try.ntmps15
  go_wp2_with fail
  refine (l20Open_any _ _ _ zs _ HN.out hn' hcap (HB.out.below (below1 _ _))).mono ?_; rintro e w1 ⟨rfl, r1, b1⟩
  have q1 := heap_later (heap_new w (.cells #[.int .i64 0, .int .i64 0, .slice none 0 0] 25)) b1
  have B1 := Lib.hid (below_seq (below1 w _) b1)
  have R1 : Hid (RD w1 (w.heap.size + 1) 0) := by show RD _ _ _; simpa using r1
  have l1 := heap_lt q1
  have l2 := R1.out.lt
  clear r1 b1
  go_wp2_with fail
  refine (l20Some_any (w.heap.size + 1) 0 9 _ (by omega) (by omega) (by omega) R1.out).mono ?_; rintro e w2 ⟨W, T, a, m, c, xs, rfl, hm, h36, hs, o2, r2, g2⟩
  have q2 := heap_grown q1 g2 (by simp)
  have B2 := Lib.hid (below_grown B1.out g2 (Nat.le_refl _) (fun k e => by cases e; omega))
  have O2 := Lib.hid o2
  have HM := Lib.hid hm
  clear o2 r2 g2 hm
  obtain ⟨d0, d1, d2⟩ := cells3 q2
  have f0 := free3 q2 0
  have f1 := free3 q2 1
  have f2 := free3 q2 2
  go_wp2
  refine bodyPost_ret (v := .agg #[.int .i64 W, .int .i64 T, .slice a m c]) (by simp [results, Try.results15, go_sem, d0, d1, d2]) rfl ⟨W, T, a, m, c, xs, rfl, HM.out, h36, hs, ?_, below_set3 B2.out (Nat.le_refl _) _ _ _⟩
  exact (O2.out.set3 (by omega) _ _ _).lower (by omega)

/-- A region and a list of dominoes were drawn of a code. -/
def DrawnRL (w : World) (e : Ending) (w' : World) : Prop :=
  ∃ (W T : Int) (a : Option Addr) (n cap : Nat) (xs : List Bool) (la : Option Addr) (m lcap : Nat) (L : List Int), e = .returned (.tuple #[.agg #[.int .i64 W, .int .i64 T, .slice a n cap], .slice la m lcap]) ∧ n = xs.length ∧ n ≤ 36 ∧ (0 ≤ W ∧ W ≤ 6 ∧ 0 ≤ T ∧ T ≤ 6) ∧ OwnsB w' (w.heap.size + 1) (.slice a n cap) xs ∧ m = L.length ∧ m ≤ 36 ∧ OwnsI w' (w.heap.size + 1) (.slice la m lcap) L ∧ Below w.heap.size w w'
theorem OwnsI.set3 {w : World} {B : Nat} {v : Value} {xs : List Int} (h : OwnsI w B v xs) {b : Nat} (hb : b < B) (x y z : Value) : OwnsI (((w.setCell ⟨b, 0, none⟩ x).setCell ⟨b, 1, none⟩ y).setCell ⟨b, 2, none⟩ z) B v xs :=
  ((h.setBelow (p := ⟨b, 0, none⟩) hb x).setBelow (p := ⟨b, 1, none⟩) hb y).setBelow (p := ⟨b, 2, none⟩) hb z

/-- A region, a list of dominoes and a cell were drawn of a code. -/
def DrawnRLC (w : World) (e : Ending) (w' : World) : Prop :=
  ∃ (W T : Int) (a : Option Addr) (n cap : Nat) (xs : List Bool) (la : Option Addr) (m lcap : Nat) (L : List Int) (k : Int), e = .returned (.tuple #[.agg #[.int .i64 W, .int .i64 T, .slice a n cap], .slice la m lcap, .int .i64 k]) ∧ n = xs.length ∧ n ≤ 36 ∧ (0 ≤ W ∧ W ≤ 6 ∧ 0 ≤ T ∧ T ≤ 6) ∧ OwnsB w' (w.heap.size + 1) (.slice a n cap) xs ∧ m = L.length ∧ m ≤ 36 ∧ OwnsI w' (w.heap.size + 1) (.slice la m lcap) L ∧ (-40 ≤ k ∧ k ≤ 40) ∧ Below w.heap.size w w'
def DrawnRLCW (w : World) (e : Ending) (w' : World) : Prop :=
  ∃ (W T : Int) (a : Option Addr) (n cap : Nat) (xs : List Bool) (la : Option Addr) (m lcap : Nat) (L : List Int) (k way : Int), e = .returned (.tuple #[.agg #[.int .i64 W, .int .i64 T, .slice a n cap], .slice la m lcap, .int .i64 k, .int .i64 way]) ∧ n = xs.length ∧ n ≤ 36 ∧ (0 ≤ W ∧ W ≤ 6 ∧ 0 ≤ T ∧ T ≤ 6) ∧ OwnsB w' (w.heap.size + 1) (.slice a n cap) xs ∧ m = L.length ∧ m ≤ 36 ∧ OwnsI w' (w.heap.size + 1) (.slice la m lcap) L ∧ (-40 ≤ k ∧ k ≤ 40 ∧ 0 ≤ way ∧ way ≤ 5) ∧ Below w.heap.size w w'

end Go.Proofs.Ytdmnfafmbdmjmaa
