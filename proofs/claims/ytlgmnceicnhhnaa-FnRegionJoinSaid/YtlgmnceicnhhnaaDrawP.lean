/- Two regions drawn of a code, for the laws of pairs. -/
import Derived.Test.YtlgmnceicnhhnaaPair
import Derived.Test.YtlgmnceicnhhnaaMore
namespace Go.Proofs.Ytlgmnceicnhhnaa
open Go.RowKit
set_option linter.unusedVariables false
set_option maxRecDepth 100000
set_option linter.unusedSimpArgs false

def DrawnP (w : World) (e : Ending) (w' : World) : Prop :=
  ∃ (W T : Int) (a : Option Addr) (n cap : Nat) (xs : List Bool) (W' T' : Int) (a' : Option Addr) (n' cap' : Nat) (ys : List Bool), e = .returned (.tuple #[.agg #[.int .i64 W, .int .i64 T, .slice a n cap], .agg #[.int .i64 W', .int .i64 T', .slice a' n' cap']]) ∧ n = xs.length ∧ n ≤ 36 ∧ (0 ≤ W ∧ W ≤ 6 ∧ 0 ≤ T ∧ T ≤ 6) ∧ OwnsB w' (w.heap.size + 2) (.slice a n cap) xs ∧ n' = ys.length ∧ n' ≤ 36 ∧ (0 ≤ W' ∧ W' ≤ 6 ∧ 0 ≤ T' ∧ T' ≤ 6) ∧ OwnsB w' (w.heap.size + 2) (.slice a' n' cap') ys ∧ Below w.heap.size w w'

set_option maxHeartbeats 1000000 in
theorem drawRegionJoin_any (cb : Option Addr) (n cap : Nat) (zs : List Int) (w : World) (hn : n = zs.length) (hn' : n ≤ 1048576) (hcap : n ≤ cap) (hb : BytesAt w cb zs) :
    Calls Try.prog 37 #[.slice cb n cap] w (DrawnP w) := by
  have HN := Lib.hid hn; clear hn
  have HB := Lib.hid hb; clear hb
  go_enter Try.func37, Try.ntmps37
  go_wp2_with fail
  refine (l20Open_any _ _ _ zs _ HN.out hn' hcap (HB.out.below (below2 _ _ _))).mono ?_; rintro e w1 ⟨rfl, r1, b1⟩
  have q1 := heap_later (heap_later (heap_new w (.cells #[.int .i64 0, .int .i64 0, .slice none 0 0] 25)) (below1 _ (.cells #[.int .i64 0, .int .i64 0, .slice none 0 0] 25))) b1
  have t1 := heap_later (heap_new2 w (.cells #[.int .i64 0, .int .i64 0, .slice none 0 0] 25) (.cells #[.int .i64 0, .int .i64 0, .slice none 0 0] 25)) b1
  have B1 := Lib.hid (below_seq (below2 w _ _) b1)
  have R1 : Hid (RD w1 (w.heap.size + 1 + 1) 0) := by show RD _ _ _; simpa using r1
  have l1 := heap_lt q1
  have l2 := R1.out.lt
  clear r1 b1
  go_wp2_with fail
  refine (l20Pair_any (w.heap.size + 1 + 1) 0 _ (by omega) R1.out).mono ?_; rintro e w2 ⟨W, T, a, m, c, xs, W', T', a', m', c', ys, rfl, hm, h36, hs, o2, hm', h36', hs', o2', g2⟩
  have q2 := heap_grown q1 g2 (by simp; try omega)
  have t2 := heap_grown t1 g2 (by simp)
  have B2 := Lib.hid (below_grown B1.out g2 (Nat.le_refl _) (fun k e => by cases e; omega))
  have O2 := Lib.hid o2
  have O2' := Lib.hid o2'
  have HM := Lib.hid hm
  have HM' := Lib.hid hm'
  clear o2 o2' g2 hm hm'
  obtain ⟨d0, d1, d2⟩ := cells3 q2
  obtain ⟨h0, h1, h2⟩ := cells3 t2
  have f0 := free3 q2 0
  have f1 := free3 q2 1
  have f2 := free3 q2 2
  have f3 := free3 t2 0
  have f4 := free3 t2 1
  have f5 := free3 t2 2
  go_wp2
  refine bodyPost_ret (v := .tuple #[.agg #[.int .i64 W, .int .i64 T, .slice a m c], .agg #[.int .i64 W', .int .i64 T', .slice a' m' c']]) (by simp [results, Try.results37, go_sem, d0, d1, d2, h0, h1, h2]) rfl ⟨W, T, a, m, c, xs, W', T', a', m', c', ys, rfl, HM.out, h36, hs, ?_, HM'.out, h36', hs', ?_, below_set3 (below_set3 B2.out (Nat.le_refl _) _ _ _) (by omega) _ _ _⟩
  · exact ((O2.out.set3 (b := w.heap.size) (by omega) _ _ _).set3 (b := w.heap.size + 1) (by omega) _ _ _).lower (by omega)
  · exact ((O2'.out.set3 (b := w.heap.size) (by omega) _ _ _).set3 (b := w.heap.size + 1) (by omega) _ _ _).lower (by omega)

set_option maxHeartbeats 1000000 in
theorem drawRegionMeet_any (cb : Option Addr) (n cap : Nat) (zs : List Int) (w : World) (hn : n = zs.length) (hn' : n ≤ 1048576) (hcap : n ≤ cap) (hb : BytesAt w cb zs) :
    Calls Try.prog 41 #[.slice cb n cap] w (DrawnP w) := by
  have HN := Lib.hid hn; clear hn
  have HB := Lib.hid hb; clear hb
  go_enter Try.func41, Try.ntmps41
  go_wp2_with fail
  refine (l20Open_any _ _ _ zs _ HN.out hn' hcap (HB.out.below (below2 _ _ _))).mono ?_; rintro e w1 ⟨rfl, r1, b1⟩
  have q1 := heap_later (heap_later (heap_new w (.cells #[.int .i64 0, .int .i64 0, .slice none 0 0] 25)) (below1 _ (.cells #[.int .i64 0, .int .i64 0, .slice none 0 0] 25))) b1
  have t1 := heap_later (heap_new2 w (.cells #[.int .i64 0, .int .i64 0, .slice none 0 0] 25) (.cells #[.int .i64 0, .int .i64 0, .slice none 0 0] 25)) b1
  have B1 := Lib.hid (below_seq (below2 w _ _) b1)
  have R1 : Hid (RD w1 (w.heap.size + 1 + 1) 0) := by show RD _ _ _; simpa using r1
  have l1 := heap_lt q1
  have l2 := R1.out.lt
  clear r1 b1
  go_wp2_with fail
  refine (l20Pair_any (w.heap.size + 1 + 1) 0 _ (by omega) R1.out).mono ?_; rintro e w2 ⟨W, T, a, m, c, xs, W', T', a', m', c', ys, rfl, hm, h36, hs, o2, hm', h36', hs', o2', g2⟩
  have q2 := heap_grown q1 g2 (by simp; try omega)
  have t2 := heap_grown t1 g2 (by simp)
  have B2 := Lib.hid (below_grown B1.out g2 (Nat.le_refl _) (fun k e => by cases e; omega))
  have O2 := Lib.hid o2
  have O2' := Lib.hid o2'
  have HM := Lib.hid hm
  have HM' := Lib.hid hm'
  clear o2 o2' g2 hm hm'
  obtain ⟨d0, d1, d2⟩ := cells3 q2
  obtain ⟨h0, h1, h2⟩ := cells3 t2
  have f0 := free3 q2 0
  have f1 := free3 q2 1
  have f2 := free3 q2 2
  have f3 := free3 t2 0
  have f4 := free3 t2 1
  have f5 := free3 t2 2
  go_wp2
  refine bodyPost_ret (v := .tuple #[.agg #[.int .i64 W, .int .i64 T, .slice a m c], .agg #[.int .i64 W', .int .i64 T', .slice a' m' c']]) (by simp [results, Try.results41, go_sem, d0, d1, d2, h0, h1, h2]) rfl ⟨W, T, a, m, c, xs, W', T', a', m', c', ys, rfl, HM.out, h36, hs, ?_, HM'.out, h36', hs', ?_, below_set3 (below_set3 B2.out (Nat.le_refl _) _ _ _) (by omega) _ _ _⟩
  · exact ((O2.out.set3 (b := w.heap.size) (by omega) _ _ _).set3 (b := w.heap.size + 1) (by omega) _ _ _).lower (by omega)
  · exact ((O2'.out.set3 (b := w.heap.size) (by omega) _ _ _).set3 (b := w.heap.size + 1) (by omega) _ _ _).lower (by omega)

end Go.Proofs.Ytlgmnceicnhhnaa
