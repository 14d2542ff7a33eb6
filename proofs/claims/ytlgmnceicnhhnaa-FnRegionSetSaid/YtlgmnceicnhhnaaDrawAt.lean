/- A region, a column and a row are drawn. -/
import Derived.Test.YtlgmnceicnhhnaaProm
namespace Go.Proofs.Ytlgmnceicnhhnaa
open Go.RowKit
set_option linter.unusedVariables false
set_option maxRecDepth 100000
set_option linter.unusedSimpArgs false

def DrawnAt (w : World) (e : Ending) (w' : World) : Prop :=
  ∃ (W T : Int) (a : Option Addr) (n cap : Nat) (xs : List Bool) (x y : Int), e = .returned (.tuple #[.agg #[.int .i64 W, .int .i64 T, .slice a n cap], .int .i64 x, .int .i64 y]) ∧ n = xs.length ∧ n ≤ 36 ∧ (0 ≤ W ∧ W ≤ 6 ∧ 0 ≤ T ∧ T ≤ 6) ∧ (-40 ≤ x ∧ x ≤ 40 ∧ -40 ≤ y ∧ y ≤ 40) ∧ OwnsB w' (w.heap.size + 1) (.slice a n cap) xs ∧ Below w.heap.size w w'

set_option maxHeartbeats 1000000 in
theorem drawRegionAt_any (cb : Option Addr) (n cap : Nat) (zs : List Int) (w : World) (hn : n = zs.length) (hn' : n ≤ 1048576) (hcap : n ≤ cap) (hb : BytesAt w cb zs) :
    Calls Try.prog 19 #[.slice cb n cap] w (DrawnAt w) := by
  have HN := Lib.hid hn; clear hn
  have HB := Lib.hid hb; clear hb
  go_enter Try.func19, Try.ntmps19
  go_wp2_with fail
  refine (l20Open_any _ _ _ zs _ HN.out hn' hcap (HB.out.below (below1 _ _))).mono ?_; rintro e w1 ⟨rfl, r1, b1⟩
  have q1 := heap_later (heap_new w (.cells #[.int .i64 0, .int .i64 0, .slice none 0 0] 25)) b1
  have B1 := Lib.hid (below_seq (below1 w _) b1)
  have R1 : Hid (RD w1 (w.heap.size + 1) 0) := by show RD _ _ _; simpa using r1
  have l1 := heap_lt q1
  have l2 := R1.out.lt
  clear r1 b1
  go_wp2_with fail
  refine (l20Region_any (w.heap.size + 1) 0 9 _ (by omega) (by omega) (by omega) R1.out).mono ?_; rintro e w2 ⟨W, T, a, m, c, xs, rfl, hm, h36, hs, o2, r2, g2⟩
  have q2 := heap_grown q1 g2 (by simp)
  have B2 := Lib.hid (below_grown B1.out g2 (Nat.le_refl _) (fun k e => by cases e; omega))
  have O2 := Lib.hid o2
  have R2 := Lib.hid r2
  have HM := Lib.hid hm
  clear o2 r2 g2 hm
  go_wp2_with fail
  refine (pick_any (w.heap.size + 1) (0 + 100) 8 _ (by omega) (by omega) (by omega) R2.out).mono ?_; rintro e w3 ⟨x, hx, rfl, r3, g3⟩
  have q3 := heap_grown q2 g3 (by simp)
  have B3 := Lib.hid (below_grown B2.out g3 (Nat.le_refl _) (fun k e => by cases e; omega))
  have O3 := Lib.hid (OwnsB.keptBy O2.out g3 (fun k e => by cases e; omega))
  have R3 := Lib.hid r3
  clear r3 g3
  go_wp2_with fail
  refine (pick_any (w.heap.size + 1) (0 + 100 + 1) 8 _ (by omega) (by omega) (by omega) R3.out).mono ?_; rintro e w4 ⟨y, hy, rfl, r4, g4⟩
  have q4 := heap_grown q3 g4 (by simp)
  have B4 := Lib.hid (below_grown B3.out g4 (Nat.le_refl _) (fun k e => by cases e; omega))
  have O4 := Lib.hid (OwnsB.keptBy O3.out g4 (fun k e => by cases e; omega))
  clear r4 g4
  obtain ⟨d0, d1, d2⟩ := cells3 q4
  have f0 := free3 q4 0
  have f1 := free3 q4 1
  have f2 := free3 q4 2
  go_wp2
  refine bodyPost_ret (v := .tuple #[.agg #[.int .i64 W, .int .i64 T, .slice a m c], .int .i64 ((x : Int) - 1), .int .i64 ((y : Int) - 1)]) (by simp [results, Try.results19, go_sem, d0, d1, d2]) rfl ⟨W, T, a, m, c, xs, _, _, rfl, HM.out, h36, hs, ⟨by omega, by omega, by omega, by omega⟩, ?_, below_set3 B4.out (Nat.le_refl _) _ _ _⟩
  exact (O4.out.set3 (by omega) _ _ _).lower (by omega)

end Go.Proofs.Ytlgmnceicnhhnaa
