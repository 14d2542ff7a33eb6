/- What is drawn of a code by l20Some and l20Laid: a region that is often tiled; with a list of dominoes, a cell, a direction. -/
import Derived.Test.YthdojiaaoaiioaaLaid20
import Derived.Test.YthdojiaaoaiioaaDrawSet
import Derived.Deep.CutBlock
namespace Go.Proofs.Ythdojiaaoaiioaa
open Go.RowKit
set_option linter.unusedVariables false
set_option maxRecDepth 100000
set_option linter.unusedSimpArgs false

theorem drawLaidBare_any (cb : Option Addr) (n cap : Nat) (zs : List Int) (w : World) (hn : n = zs.length) (hn' : n ≤ 1048576) (hcap : n ≤ cap) (hb : BytesAt w cb zs) :
    Calls Try.prog 11 #[.slice cb n cap] w (DrawnX w) := by
  have HN := Lib.hid hn; clear hn
  have HB := Lib.hid hb; clear hb
  go_enter Try.func11, Try.ntmps11
  go_wp2_with fail
  refine (l20Open_any _ _ _ zs _ HN.out hn' hcap (HB.out.below (below1 _ _))).mono ?_; rintro e w1 ⟨rfl, r1, b1⟩
  have q1 := heap_later (heap_new w (.cells #[.int .i64 0, .int .i64 0, .slice none 0 0] 25)) b1
  have B1 := Lib.hid (below_seq (below1 w _) b1)
  have R1 : Hid (RD w1 (w.heap.size + 1) 0) := by show RD _ _ _; simpa using r1
  have l1 := heap_lt q1
  have l2 := R1.out.lt
  clear r1 b1
  go_wp2_with fail
  refine (l20Some_any (w.heap.size + 1) 0 6 _ (by omega) (by omega) (by omega) R1.out).mono ?_; rintro e w2 ⟨W, T, a, m, c, xs, rfl, hm, h36, hs, o2, r2, g2⟩
  have q2 := heap_grown q1 g2 (by simp)
  have B2 := Lib.hid (below_grown B1.out g2 (Nat.le_refl _) (fun k e => by cases e; omega))
  have O2 := Lib.hid o2
  have HM := Lib.hid hm
  clear o2 r2 g2 hm
  obtain ⟨d0, d1, d2⟩ := cells3 q2
  have f0 := free3 q2 0
  have f1 := free3 q2 1
  have f2 := free3 q2 2
  go_wp2
  refine bodyPost_ret (v := .agg #[.int .i64 W, .int .i64 T, .slice a m c]) (by simp [results, Try.results11, go_sem, d0, d1, d2]) rfl ⟨W, T, a, m, c, xs, rfl, HM.out, h36, hs, ?_, below_set3 B2.out (Nat.le_refl _) _ _ _⟩
  exact (O2.out.set3 (by omega) _ _ _).lower (by omega)

set_option maxHeartbeats 4000000 in
theorem drawTilingsWith_any (cb : Option Addr) (n cap : Nat) (zs : List Int) (w : World) (hn : n = zs.length) (hn' : n ≤ 1048576) (hcap : n ≤ cap) (hb : BytesAt w cb zs) :
    Calls Try.prog 20 #[.slice cb n cap] w (DrawnCW w) := by
  have HN := Lib.hid hn; clear hn
  have HB := Lib.hid hb; clear hb
  go_enter Try.func20, Try.ntmps20
  go_wp2_with fail
  refine (l20Open_any _ _ _ zs _ HN.out hn' hcap (HB.out.below (below1 _ _))).mono ?_; rintro e w1 ⟨rfl, r1, b1⟩
  have q1 := heap_later (heap_new w (.cells #[.int .i64 0, .int .i64 0, .slice none 0 0] 25)) b1
  have B1 := Lib.hid (below_seq (below1 w _) b1)
  have R1 : Hid (RD w1 (w.heap.size + 1) 0) := by show RD _ _ _; simpa using r1
  have l1 := heap_lt q1
  have l2 := R1.out.lt
  clear r1 b1
  go_wp2_with fail
  refine (l20Some_any (w.heap.size + 1) 0 12 _ (by omega) (by omega) (by omega) R1.out).mono ?_; rintro e w2 ⟨W, T, a, m, c, xs, rfl, hm, h36, hs, o2, r2, g2⟩
  have q2 := heap_grown q1 g2 (by simp)
  have B2 := Lib.hid (below_grown B1.out g2 (Nat.le_refl _) (fun k e => by cases e; omega))
  have HM := Lib.hid hm
  obtain ⟨wA, hwA⟩ : ∃ wA, wA = w2.alloc (.cells #[.int .i64 W, .int .i64 T, .slice a m c] 25) := ⟨_, rfl⟩
  have pA : wA.heap[w2.heap.size]? = some (.cells #[.int .i64 W, .int .i64 T, .slice a m c] 25 (0, 0)) := by rw [hwA]; exact heap_new _ _
  have qA : wA.heap[w.heap.size]? = some (.cells #[.int .i64 0, .int .i64 0, .slice none 0 0] 25 (0, 0)) := by rw [hwA]; exact heap_later q2 (below1 _ _)
  have BA : Hid (Below w.heap.size w wA) := by rw [hwA]; exact below_seq B2.out (below1 _ _)
  have OA : Hid (OwnsB wA w1.heap.size (.slice a m c) xs) := by rw [hwA]; exact o2.alloc _
  have RA : Hid (RD wA (w.heap.size + 1) 300) := by rw [hwA]; exact (r2.below (below1 _ _)).mono (by omega)
  have l3 : w.heap.size + 1 < w2.heap.size := r2.lt
  clear o2 r2 g2 hm q2
  obtain ⟨c0, c1, c2⟩ := cells3 pA
  have lA := heap_lt pA
  have n1 : w.heap.size ≠ w2.heap.size := by omega
  have n2 : w2.heap.size ≠ w.heap.size := by omega
  have e1 : IntKind.i64.wrap ((m : Int) + 1) = (m : Int) + 1 := IntWalk.i64_in _ (by omega)
  go_wp2_with fail
  rw [← hwA]
  clear hwA
  have P3 : wA.drew.heap[w2.heap.size]? = some _ := pA
  have Q3 : wA.drew.heap[w.heap.size]? = some _ := qA
  go_region_held3 (fun w' => w'.cell? ⟨w2.heap.size, 0, none⟩ = some (.int .i64 W) ∧ w'.cell? ⟨w2.heap.size, 1, none⟩ = some (.int .i64 T) ∧ w'.cell? ⟨w2.heap.size, 2, none⟩ = some (.slice a m c))
    (go_keep)
    (first
      | (go_at_call 53; refine (pick_i (w.heap.size + 1) (300 + 1 + 1) 6 _ (by omega) (by omega) (by omega) r5).mono ?_; rintro e w6 ⟨z, hz, rfl, r6, g6⟩; have p6 := heap_grown p5 g6 (by simp; omega); have q6 := heap_grown q5 g6 (by simp); obtain ⟨c60, c61, c62⟩ := cells3 p6; obtain ⟨h60, h61, h62⟩ := cells3 q6; have f60 := free3 q6 0; have f61 := free3 q6 1; have f62 := free3 q6 2)
      | (go_at_call 53; refine (pick_i (w.heap.size + 1) (300 + 1) 20 _ (by omega) (by omega) (by omega) r4).mono ?_; rintro e w5 ⟨y, hy, rfl, r5, g5⟩; have p5 := heap_grown p4 g5 (by simp; omega); have q5 := heap_grown q4 g5 (by simp); obtain ⟨c50, c51, c52⟩ := cells3 p5)
      | (go_at_call 53; clear e1; refine (pick_i (w.heap.size + 1) 300 ((m : Int) + 1) _ (by omega) (by omega) (by omega) (show RD wA.drew _ _ from RA.out)).mono ?_; rintro e w4 ⟨x, hx, rfl, r4, g4⟩; have p4 := heap_grown P3 g4 (by simp; omega); have q4 := heap_grown Q3 g4 (by simp); obtain ⟨c40, c41, c42⟩ := cells3 p4))
  have B6 := Lib.hid (below_grown (below_grown (below_grown (below_seq BA.out (drew_below _)) g4 (Nat.le_refl _) (fun k e => by cases e; omega)) g5 (Nat.le_refl _) (fun k e => by cases e; omega)) g6 (Nat.le_refl _) (fun k e => by cases e; omega))
  have O6 := Lib.hid (OwnsB.keptBy (OwnsB.keptBy (OwnsB.keptBy (show OwnsB wA.drew _ _ _ from OA.out) g4 (fun k e => by cases e; omega)) g5 (fun k e => by cases e; omega)) g6 (fun k e => by cases e; omega))
  obtain ⟨V, hV, hV0, hV1⟩ : ∃ V, V = IntKind.i64.wrap ((x : Int) - IntKind.i64.wrap ((y : Int) / 19)) ∧ -40 ≤ V ∧ V ≤ 40 := by
    refine ⟨_, rfl, ?_⟩
    have hx' : x ≤ 36 := by omega
    rw [IntWalk.i64_in ((y : Int) / 19) (by omega), IntWalk.i64_in _ (by omega)]
    omega
  rw [← hV]
  clear hV
  go_wp2
  refine bodyPost_ret (v := .tuple #[.agg #[.int .i64 W, .int .i64 T, .slice a m c], .int .i64 V, .int .i64 z]) (by simp [results, Try.results20, go_sem, h60, h61, h62]) rfl ⟨W, T, a, m, c, xs, _, _, rfl, HM.out, h36, hs, ⟨hV0, hV1, by omega, by omega⟩, ?_, below_set3 B6.out (Nat.le_refl _) _ _ _⟩
  exact (O6.out.set3 (by omega) _ _ _).lower (by omega)

/-- A region and a list of dominoes were drawn of a code. -/
def DrawnRL (w : World) (e : Ending) (w' : World) : Prop :=
  ∃ (W T : Int) (a : Option Addr) (n cap : Nat) (xs : List Bool) (la : Option Addr) (m lcap : Nat) (L : List Int), e = .returned (.tuple #[.agg #[.int .i64 W, .int .i64 T, .slice a n cap], .slice la m lcap]) ∧ n = xs.length ∧ n ≤ 36 ∧ (0 ≤ W ∧ W ≤ 6 ∧ 0 ≤ T ∧ T ≤ 6) ∧ OwnsB w' (w.heap.size + 1) (.slice a n cap) xs ∧ m = L.length ∧ m ≤ 36 ∧ OwnsI w' (w.heap.size + 1) (.slice la m lcap) L ∧ Below w.heap.size w w'
theorem OwnsI.set3 {w : World} {B : Nat} {v : Value} {xs : List Int} (h : OwnsI w B v xs) {b : Nat} (hb : b < B) (x y z : Value) : OwnsI (((w.setCell ⟨b, 0, none⟩ x).setCell ⟨b, 1, none⟩ y).setCell ⟨b, 2, none⟩ z) B v xs :=
  ((h.setBelow (p := ⟨b, 0, none⟩) hb x).setBelow (p := ⟨b, 1, none⟩) hb y).setBelow (p := ⟨b, 2, none⟩) hb z

set_option maxHeartbeats 4000000 in
theorem drawLaidOk_any (cb : Option Addr) (n cap : Nat) (zs : List Int) (w : World) (hn : n = zs.length) (hn' : n ≤ 1048576) (hcap : n ≤ cap) (hb : BytesAt w cb zs) :
    Calls Try.prog 32 #[.slice cb n cap] w (DrawnRL w) := by
  have HN := Lib.hid hn; clear hn
  have HB := Lib.hid hb; clear hb
  go_enter Try.func32, Try.ntmps32
  go_wp2_with fail
  refine (l20Open_any _ _ _ zs _ HN.out hn' hcap (HB.out.below (below1 _ _))).mono ?_; rintro e w1 ⟨rfl, r1, b1⟩
  have q1 := heap_later (heap_new w (.cells #[.int .i64 0, .int .i64 0, .slice none 0 0] 25)) b1
  have B1 := Lib.hid (below_seq (below1 w _) b1)
  have R1 : Hid (RD w1 (w.heap.size + 1) 0) := by show RD _ _ _; simpa using r1
  have l1 := heap_lt q1
  have l2 := R1.out.lt
  clear r1 b1
  go_wp2_with fail
  refine (l20Laid_any (w.heap.size + 1) 0 2 _ (by omega) (by omega) (by omega) R1.out).mono ?_; rintro e w2 ⟨W, T, a, m, c, xs, la, q, lcap, L, rfl, hm, h36, hs, o2, hq, hq36, i2, r2, g2⟩
  have q2 := heap_grown q1 g2 (by simp)
  have B2 := Lib.hid (below_grown B1.out g2 (Nat.le_refl _) (fun k e => by cases e; omega))
  have HM := Lib.hid hm
  have HQ := Lib.hid hq
  have O2 := Lib.hid o2
  have I2 := Lib.hid i2
  clear o2 r2 g2 hm hq i2
  obtain ⟨d0, d1, d2⟩ := cells3 q2
  have f0 := free3 q2 0
  have f1 := free3 q2 1
  have f2 := free3 q2 2
  go_wp2
  refine bodyPost_ret (v := .tuple #[.agg #[.int .i64 W, .int .i64 T, .slice a m c], .slice la q lcap]) (by simp [results, Try.results32, go_sem, d0, d1, d2]) rfl ⟨W, T, a, m, c, xs, la, q, lcap, L, rfl, HM.out, h36, hs, ?_, HQ.out, hq36, ?_, below_set3 B2.out (Nat.le_refl _) _ _ _⟩
  · exact (O2.out.set3 (by omega) _ _ _).lower (by omega)
  · exact (I2.out.set3 (by omega) _ _ _).lower (by omega)

set_option maxHeartbeats 4000000 in
theorem drawLaidMany_any (cb : Option Addr) (n cap : Nat) (zs : List Int) (w : World) (hn : n = zs.length) (hn' : n ≤ 1048576) (hcap : n ≤ cap) (hb : BytesAt w cb zs) :
    Calls Try.prog 34 #[.slice cb n cap] w (DrawnRL w) := by
  have HN := Lib.hid hn; clear hn
  have HB := Lib.hid hb; clear hb
  go_enter Try.func34, Try.ntmps34
  go_wp2_with fail
  refine (l20Open_any _ _ _ zs _ HN.out hn' hcap (HB.out.below (below1 _ _))).mono ?_; rintro e w1 ⟨rfl, r1, b1⟩
  have q1 := heap_later (heap_new w (.cells #[.int .i64 0, .int .i64 0, .slice none 0 0] 25)) b1
  have B1 := Lib.hid (below_seq (below1 w _) b1)
  have R1 : Hid (RD w1 (w.heap.size + 1) 0) := by show RD _ _ _; simpa using r1
  have l1 := heap_lt q1
  have l2 := R1.out.lt
  clear r1 b1
  go_wp2_with fail
  refine (l20Laid_any (w.heap.size + 1) 0 9 _ (by omega) (by omega) (by omega) R1.out).mono ?_; rintro e w2 ⟨W, T, a, m, c, xs, la, q, lcap, L, rfl, hm, h36, hs, o2, hq, hq36, i2, r2, g2⟩
  have q2 := heap_grown q1 g2 (by simp)
  have B2 := Lib.hid (below_grown B1.out g2 (Nat.le_refl _) (fun k e => by cases e; omega))
  have HM := Lib.hid hm
  have HQ := Lib.hid hq
  have O2 := Lib.hid o2
  have I2 := Lib.hid i2
  clear o2 r2 g2 hm hq i2
  obtain ⟨d0, d1, d2⟩ := cells3 q2
  have f0 := free3 q2 0
  have f1 := free3 q2 1
  have f2 := free3 q2 2
  go_wp2
  refine bodyPost_ret (v := .tuple #[.agg #[.int .i64 W, .int .i64 T, .slice a m c], .slice la q lcap]) (by simp [results, Try.results34, go_sem, d0, d1, d2]) rfl ⟨W, T, a, m, c, xs, la, q, lcap, L, rfl, HM.out, h36, hs, ?_, HQ.out, hq36, ?_, below_set3 B2.out (Nat.le_refl _) _ _ _⟩
  · exact (O2.out.set3 (by omega) _ _ _).lower (by omega)
  · exact (I2.out.set3 (by omega) _ _ _).lower (by omega)

set_option maxHeartbeats 4000000 in
theorem drawTilingTurn_any (cb : Option Addr) (n cap : Nat) (zs : List Int) (w : World) (hn : n = zs.length) (hn' : n ≤ 1048576) (hcap : n ≤ cap) (hb : BytesAt w cb zs) :
    Calls Try.prog 37 #[.slice cb n cap] w (DrawnRL w) := by
  have HN := Lib.hid hn; clear hn
  have HB := Lib.hid hb; clear hb
  go_enter Try.func37, Try.ntmps37
  go_wp2_with fail
  refine (l20Open_any _ _ _ zs _ HN.out hn' hcap (HB.out.below (below1 _ _))).mono ?_; rintro e w1 ⟨rfl, r1, b1⟩
  have q1 := heap_later (heap_new w (.cells #[.int .i64 0, .int .i64 0, .slice none 0 0] 25)) b1
  have B1 := Lib.hid (below_seq (below1 w _) b1)
  have R1 : Hid (RD w1 (w.heap.size + 1) 0) := by show RD _ _ _; simpa using r1
  have l1 := heap_lt q1
  have l2 := R1.out.lt
  clear r1 b1
  go_wp2_with fail
  refine (l20Laid_any (w.heap.size + 1) 0 9 _ (by omega) (by omega) (by omega) R1.out).mono ?_; rintro e w2 ⟨W, T, a, m, c, xs, la, q, lcap, L, rfl, hm, h36, hs, o2, hq, hq36, i2, r2, g2⟩
  have q2 := heap_grown q1 g2 (by simp)
  have B2 := Lib.hid (below_grown B1.out g2 (Nat.le_refl _) (fun k e => by cases e; omega))
  have HM := Lib.hid hm
  have HQ := Lib.hid hq
  have O2 := Lib.hid o2
  have I2 := Lib.hid i2
  clear o2 r2 g2 hm hq i2
  obtain ⟨d0, d1, d2⟩ := cells3 q2
  have f0 := free3 q2 0
  have f1 := free3 q2 1
  have f2 := free3 q2 2
  go_wp2
  refine bodyPost_ret (v := .tuple #[.agg #[.int .i64 W, .int .i64 T, .slice a m c], .slice la q lcap]) (by simp [results, Try.results37, go_sem, d0, d1, d2]) rfl ⟨W, T, a, m, c, xs, la, q, lcap, L, rfl, HM.out, h36, hs, ?_, HQ.out, hq36, ?_, below_set3 B2.out (Nat.le_refl _) _ _ _⟩
  · exact (O2.out.set3 (by omega) _ _ _).lower (by omega)
  · exact (I2.out.set3 (by omega) _ _ _).lower (by omega)

set_option maxHeartbeats 4000000 in
theorem drawTilingFlip_any (cb : Option Addr) (n cap : Nat) (zs : List Int) (w : World) (hn : n = zs.length) (hn' : n ≤ 1048576) (hcap : n ≤ cap) (hb : BytesAt w cb zs) :
    Calls Try.prog 41 #[.slice cb n cap] w (DrawnRL w) := by
  have HN := Lib.hid hn; clear hn
  have HB := Lib.hid hb; clear hb
  go_enter Try.func41, Try.ntmps41
  go_wp2_with fail
  refine (l20Open_any _ _ _ zs _ HN.out hn' hcap (HB.out.below (below1 _ _))).mono ?_; rintro e w1 ⟨rfl, r1, b1⟩
  have q1 := heap_later (heap_new w (.cells #[.int .i64 0, .int .i64 0, .slice none 0 0] 25)) b1
  have B1 := Lib.hid (below_seq (below1 w _) b1)
  have R1 : Hid (RD w1 (w.heap.size + 1) 0) := by show RD _ _ _; simpa using r1
  have l1 := heap_lt q1
  have l2 := R1.out.lt
  clear r1 b1
  go_wp2_with fail
  refine (l20Laid_any (w.heap.size + 1) 0 9 _ (by omega) (by omega) (by omega) R1.out).mono ?_; rintro e w2 ⟨W, T, a, m, c, xs, la, q, lcap, L, rfl, hm, h36, hs, o2, hq, hq36, i2, r2, g2⟩
  have q2 := heap_grown q1 g2 (by simp)
  have B2 := Lib.hid (below_grown B1.out g2 (Nat.le_refl _) (fun k e => by cases e; omega))
  have HM := Lib.hid hm
  have HQ := Lib.hid hq
  have O2 := Lib.hid o2
  have I2 := Lib.hid i2
  clear o2 r2 g2 hm hq i2
  obtain ⟨d0, d1, d2⟩ := cells3 q2
  have f0 := free3 q2 0
  have f1 := free3 q2 1
  have f2 := free3 q2 2
  go_wp2
  refine bodyPost_ret (v := .tuple #[.agg #[.int .i64 W, .int .i64 T, .slice a m c], .slice la q lcap]) (by simp [results, Try.results41, go_sem, d0, d1, d2]) rfl ⟨W, T, a, m, c, xs, la, q, lcap, L, rfl, HM.out, h36, hs, ?_, HQ.out, hq36, ?_, below_set3 B2.out (Nat.le_refl _) _ _ _⟩
  · exact (O2.out.set3 (by omega) _ _ _).lower (by omega)
  · exact (I2.out.set3 (by omega) _ _ _).lower (by omega)

/-- A region, a list of dominoes and a cell were drawn of a code. -/
def DrawnRLC (w : World) (e : Ending) (w' : World) : Prop :=
  ∃ (W T : Int) (a : Option Addr) (n cap : Nat) (xs : List Bool) (la : Option Addr) (m lcap : Nat) (L : List Int) (k : Int), e = .returned (.tuple #[.agg #[.int .i64 W, .int .i64 T, .slice a n cap], .slice la m lcap, .int .i64 k]) ∧ n = xs.length ∧ n ≤ 36 ∧ (0 ≤ W ∧ W ≤ 6 ∧ 0 ≤ T ∧ T ≤ 6) ∧ OwnsB w' (w.heap.size + 1) (.slice a n cap) xs ∧ m = L.length ∧ m ≤ 36 ∧ OwnsI w' (w.heap.size + 1) (.slice la m lcap) L ∧ (-40 ≤ k ∧ k ≤ 40) ∧ Below w.heap.size w w'
def DrawnRLCW (w : World) (e : Ending) (w' : World) : Prop :=
  ∃ (W T : Int) (a : Option Addr) (n cap : Nat) (xs : List Bool) (la : Option Addr) (m lcap : Nat) (L : List Int) (k way : Int), e = .returned (.tuple #[.agg #[.int .i64 W, .int .i64 T, .slice a n cap], .slice la m lcap, .int .i64 k, .int .i64 way]) ∧ n = xs.length ∧ n ≤ 36 ∧ (0 ≤ W ∧ W ≤ 6 ∧ 0 ≤ T ∧ T ≤ 6) ∧ OwnsB w' (w.heap.size + 1) (.slice a n cap) xs ∧ m = L.length ∧ m ≤ 36 ∧ OwnsI w' (w.heap.size + 1) (.slice la m lcap) L ∧ (-40 ≤ k ∧ k ≤ 40 ∧ 0 ≤ way ∧ way ≤ 5) ∧ Below w.heap.size w w'

set_option maxHeartbeats 4000000 in
theorem drawLiftOne_any (cb : Option Addr) (n cap : Nat) (zs : List Int) (w : World) (hn : n = zs.length) (hn' : n ≤ 1048576) (hcap : n ≤ cap) (hb : BytesAt w cb zs) :
    Calls Try.prog 30 #[.slice cb n cap] w (DrawnRLC w) := by
  have HN := Lib.hid hn; clear hn
  have HB := Lib.hid hb; clear hb
  go_enter Try.func30, Try.ntmps30
  go_wp2_with fail
  refine (l20Open_any _ _ _ zs _ HN.out hn' hcap (HB.out.below (below1 _ _))).mono ?_; rintro e w1 ⟨rfl, r1, b1⟩
  have q1 := heap_later (heap_new w (.cells #[.int .i64 0, .int .i64 0, .slice none 0 0] 25)) b1
  have B1 := Lib.hid (below_seq (below1 w _) b1)
  have R1 : Hid (RD w1 (w.heap.size + 1) 0) := by show RD _ _ _; simpa using r1
  have l1 := heap_lt q1
  have l2 := R1.out.lt
  clear r1 b1
  go_wp2_with fail
  refine (l20Laid_any (w.heap.size + 1) 0 12 _ (by omega) (by omega) (by omega) R1.out).mono ?_; rintro e w2 ⟨W, T, a, m, c, xs, la, q, lcap, L, rfl, hm, h36, hs, o2, hq, hq36, i2, r2, g2⟩
  have q2 := heap_grown q1 g2 (by simp)
  have B2 := Lib.hid (below_grown B1.out g2 (Nat.le_refl _) (fun k e => by cases e; omega))
  have HM := Lib.hid hm
  have HQ := Lib.hid hq
  obtain ⟨wA, hwA⟩ : ∃ wA, wA = w2.alloc (.cells #[.int .i64 W, .int .i64 T, .slice a m c] 25) := ⟨_, rfl⟩
  have pA : wA.heap[w2.heap.size]? = some (.cells #[.int .i64 W, .int .i64 T, .slice a m c] 25 (0, 0)) := by rw [hwA]; exact heap_new _ _
  have qA : wA.heap[w.heap.size]? = some (.cells #[.int .i64 0, .int .i64 0, .slice none 0 0] 25 (0, 0)) := by rw [hwA]; exact heap_later q2 (below1 _ _)
  have BA : Hid (Below w.heap.size w wA) := by rw [hwA]; exact below_seq B2.out (below1 _ _)
  have OA : Hid (OwnsB wA w1.heap.size (.slice a m c) xs) := by rw [hwA]; exact o2.alloc _
  have RA : Hid (RD wA (w.heap.size + 1) 600) := by rw [hwA]; exact (r2.below (below1 _ _)).mono (by omega)
  have l3 : w.heap.size + 1 < w2.heap.size := r2.lt
  have IA : Hid (OwnsI wA w1.heap.size (.slice la q lcap) L) := by rw [hwA]; exact i2.alloc _
  clear o2 r2 g2 hm q2 hq i2
  obtain ⟨c0, c1, c2⟩ := cells3 pA
  have lA := heap_lt pA
  have n1 : w.heap.size ≠ w2.heap.size := by omega
  have n2 : w2.heap.size ≠ w.heap.size := by omega
  have e1 : IntKind.i64.wrap ((q : Int) + 1) = (q : Int) + 1 := IntWalk.i64_in _ (by omega)
  go_wp2_with fail
  rw [← hwA]
  clear hwA
  have P3 : wA.drew.heap[w2.heap.size]? = some _ := pA
  have Q3 : wA.drew.heap[w.heap.size]? = some _ := qA
  go_region_held3 (fun w' => w'.cell? ⟨w2.heap.size, 0, none⟩ = some (.int .i64 W) ∧ w'.cell? ⟨w2.heap.size, 1, none⟩ = some (.int .i64 T) ∧ w'.cell? ⟨w2.heap.size, 2, none⟩ = some (.slice a m c))
    (go_keep)
    (first
      | (go_at_call 53; refine (pick_i (w.heap.size + 1) (600 + 1) 20 _ (by omega) (by omega) (by omega) r4).mono ?_; rintro e w5 ⟨y, hy, rfl, r5, g5⟩; have p5 := heap_grown p4 g5 (by simp; omega); have q5 := heap_grown q4 g5 (by simp); obtain ⟨c50, c51, c52⟩ := cells3 p5; obtain ⟨h50, h51, h52⟩ := cells3 q5; have f50 := free3 q5 0; have f51 := free3 q5 1; have f52 := free3 q5 2)
      | (go_at_call 53; clear e1; refine (pick_i (w.heap.size + 1) 600 ((q : Int) + 1) _ (by omega) (by omega) (by omega) (show RD wA.drew _ _ from RA.out)).mono ?_; rintro e w4 ⟨x, hx, rfl, r4, g4⟩; have p4 := heap_grown P3 g4 (by simp; omega); have q4 := heap_grown Q3 g4 (by simp); obtain ⟨c40, c41, c42⟩ := cells3 p4))
  have B6 := Lib.hid (below_grown (below_grown (below_seq BA.out (drew_below _)) g4 (Nat.le_refl _) (fun k e => by cases e; omega)) g5 (Nat.le_refl _) (fun k e => by cases e; omega))
  have O6 := Lib.hid (OwnsB.keptBy (OwnsB.keptBy (show OwnsB wA.drew _ _ _ from OA.out) g4 (fun k e => by cases e; omega)) g5 (fun k e => by cases e; omega))
  have I6 := Lib.hid (OwnsI.keptBy (OwnsI.keptBy (show OwnsI wA.drew _ _ _ from IA.out) g4 (fun k e => by cases e; omega)) g5 (fun k e => by cases e; omega))
  obtain ⟨V, hV, hV0, hV1⟩ : ∃ V, V = IntKind.i64.wrap ((x : Int) - IntKind.i64.wrap ((y : Int) / 19)) ∧ -40 ≤ V ∧ V ≤ 40 := by
    refine ⟨_, rfl, ?_⟩
    have hx' : x ≤ 36 := by omega
    rw [IntWalk.i64_in ((y : Int) / 19) (by omega), IntWalk.i64_in _ (by omega)]
    omega
  rw [← hV]
  clear hV
  go_wp2
  refine bodyPost_ret (v := .tuple #[.agg #[.int .i64 W, .int .i64 T, .slice a m c], .slice la q lcap, .int .i64 V]) (by simp [results, Try.results30, go_sem, h50, h51, h52]) rfl ⟨W, T, a, m, c, xs, la, q, lcap, L, V, rfl, HM.out, h36, hs, ?_, HQ.out, hq36, ?_, ⟨hV0, hV1⟩, below_set3 B6.out (Nat.le_refl _) _ _ _⟩
  · exact (O6.out.set3 (by omega) _ _ _).lower (by omega)
  · exact (I6.out.set3 (by omega) _ _ _).lower (by omega)

set_option maxHeartbeats 4000000 in
theorem drawLayOne_any (cb : Option Addr) (n cap : Nat) (zs : List Int) (w : World) (hn : n = zs.length) (hn' : n ≤ 1048576) (hcap : n ≤ cap) (hb : BytesAt w cb zs) :
    Calls Try.prog 25 #[.slice cb n cap] w (DrawnRLCW w) := by
  have HN := Lib.hid hn; clear hn
  have HB := Lib.hid hb; clear hb
  go_enter Try.func25, Try.ntmps25
  go_wp2_with fail
  refine (l20Open_any _ _ _ zs _ HN.out hn' hcap (HB.out.below (below1 _ _))).mono ?_; rintro e w1 ⟨rfl, r1, b1⟩
  have q1 := heap_later (heap_new w (.cells #[.int .i64 0, .int .i64 0, .slice none 0 0] 25)) b1
  have B1 := Lib.hid (below_seq (below1 w _) b1)
  have R1 : Hid (RD w1 (w.heap.size + 1) 0) := by show RD _ _ _; simpa using r1
  have l1 := heap_lt q1
  have l2 := R1.out.lt
  clear r1 b1
  go_wp2_with fail
  refine (l20Laid_any (w.heap.size + 1) 0 12 _ (by omega) (by omega) (by omega) R1.out).mono ?_; rintro e w2 ⟨W, T, a, m, c, xs, la, q, lcap, L, rfl, hm, h36, hs, o2, hq, hq36, i2, r2, g2⟩
  have q2 := heap_grown q1 g2 (by simp)
  have B2 := Lib.hid (below_grown B1.out g2 (Nat.le_refl _) (fun k e => by cases e; omega))
  have HM := Lib.hid hm
  have HQ := Lib.hid hq
  obtain ⟨wA, hwA⟩ : ∃ wA, wA = w2.alloc (.cells #[.int .i64 W, .int .i64 T, .slice a m c] 25) := ⟨_, rfl⟩
  have pA : wA.heap[w2.heap.size]? = some (.cells #[.int .i64 W, .int .i64 T, .slice a m c] 25 (0, 0)) := by rw [hwA]; exact heap_new _ _
  have qA : wA.heap[w.heap.size]? = some (.cells #[.int .i64 0, .int .i64 0, .slice none 0 0] 25 (0, 0)) := by rw [hwA]; exact heap_later q2 (below1 _ _)
  have BA : Hid (Below w.heap.size w wA) := by rw [hwA]; exact below_seq B2.out (below1 _ _)
  have OA : Hid (OwnsB wA w1.heap.size (.slice a m c) xs) := by rw [hwA]; exact o2.alloc _
  have RA : Hid (RD wA (w.heap.size + 1) 600) := by rw [hwA]; exact (r2.below (below1 _ _)).mono (by omega)
  have l3 : w.heap.size + 1 < w2.heap.size := r2.lt
  have IA : Hid (OwnsI wA w1.heap.size (.slice la q lcap) L) := by rw [hwA]; exact i2.alloc _
  clear o2 r2 g2 hm q2 hq i2
  have lA := heap_lt pA
  have e1 : IntKind.i64.wrap ((q : Int) + 1) = (q : Int) + 1 := IntWalk.i64_in _ (by omega)
  go_wp2_with fail
  rw [← hwA]
  clear hwA e1
  refine (pick_i (w.heap.size + 1) 600 ((q : Int) + 1) _ (by omega) (by omega) (by omega) RA.out).mono ?_; rintro e w4 ⟨x, hx, rfl, r4, g4⟩
  have p4 := heap_grown pA g4 (by simp; omega)
  have q4 := heap_grown qA g4 (by simp)
  have B4 := Lib.hid (below_grown BA.out g4 (Nat.le_refl _) (fun k e => by cases e; omega))
  have O4 := Lib.hid (OwnsB.keptBy OA.out g4 (fun k e => by cases e; omega))
  have I4 := Lib.hid (OwnsI.keptBy IA.out g4 (fun k e => by cases e; omega))
  have R4 := Lib.hid r4
  clear r4 g4 BA OA IA RA
  have hx' : x ≤ q := by omega
  go_upto_block 0 with fail
  go_cut [9] (fun v9 wx => ∃ x : Nat, v9 = .int .i64 x ∧ x ≤ 36 ∧ wx = w4)
  case first =>
    go_wp2
    go_loop [9, 10] (fun v9 v10 => ∃ x k : Nat, v9 = .int .i64 x ∧ v10 = .int .i64 k ∧ x ≤ 36 ∧ k ≤ 6) (fun _ v10 => 6 - (intOf v10).toNat)
    case atStart => exact ⟨x, 0, rfl, rfl, by omega, by omega⟩
    case round =>
      clear hx hx'
      obtain ⟨y, k, rfl, rfl, hy, hk⟩ := hrel
      by_cases hk6 : k = 6
      · subst hk6
        go_wp2
        go_meet
        exact ⟨y, rfl, hy, rfl⟩
      · have e1 : (k : Int) < 6 := by omega
        by_cases hyq : y < q
        · have e2 : (y : Int) < q := by omega
          have e3 : (0 : Int) ≤ y := by omega
          obtain ⟨lb, lo, rfl, hc⟩ := (OwnsI.at I4.out) y (by rw [← HQ.out]; exact hyq)
          have hlc := World.block_lt_of_cell? w4 _ hc
          simp only at hlc
          obtain ⟨z, hz⟩ : ∃ z, z = L.getD y 0 := ⟨_, rfl⟩
          rw [← hz] at hc
          clear hz
          by_cases hz0 : z = 0
          · subst hz0
            go_wp2
            go_meet
            exact ⟨y, rfl, hy, rfl⟩
          · have hzb : (z != 0) = true := by simpa using hz0
            have hq0 : (q : Int) ≠ 0 := by omega
            have hq1 : ((q : Int) == 0) = false := by simp; omega
            have hmod : Int.tmod ((y : Int) + 1) q = ((y + 1) % q : Nat) := by
              rw [Int.tmod_eq_emod_of_nonneg (by omega)]; push_cast; rfl
            have hmlt : (y + 1) % q < q := Nat.mod_lt _ (by omega)
            clear hz0
            go_wp2
            go_round
            case rel => exact ⟨(y + 1) % q, k + 1, rfl, by go_num, by omega, by omega⟩
            case measure => simp [intOf]; omega
        · go_wp2
          go_meet
          exact ⟨y, rfl, hy, rfl⟩
  case rest =>
  clear hx hx'
  obtain ⟨y, rfl, hy, hw⟩ := hcut
  rw [hw]
  clear hw
  obtain ⟨c0, c1, c2⟩ := cells3 p4
  have n1 : w.heap.size ≠ w2.heap.size := by omega
  have n2 : w2.heap.size ≠ w.heap.size := by omega
  go_upto_region 8 with fail
  have P3 : w4.drew.heap[w2.heap.size]? = some _ := p4
  have Q3 : w4.drew.heap[w.heap.size]? = some _ := q4
  go_region_held3 (fun w' => w'.cell? ⟨w2.heap.size, 0, none⟩ = some (.int .i64 W) ∧ w'.cell? ⟨w2.heap.size, 1, none⟩ = some (.int .i64 T) ∧ w'.cell? ⟨w2.heap.size, 2, none⟩ = some (.slice a m c))
    (go_keep)
    (first
      | (go_at_call 53; refine (pick_i (w.heap.size + 1) (600 + 1) 6 _ (by omega) (by omega) (by omega) (show RD w4.drew _ _ from R4.out)).mono ?_; rintro e w5 ⟨z, hz, rfl, r5, g5⟩; have p5 := heap_grown P3 g5 (by simp; omega); have q5 := heap_grown Q3 g5 (by simp); obtain ⟨c50, c51, c52⟩ := cells3 p5; obtain ⟨h50, h51, h52⟩ := cells3 q5; have f50 := free3 q5 0; have f51 := free3 q5 1; have f52 := free3 q5 2))
  have B6 := Lib.hid (below_grown (below_seq B4.out (drew_below _)) g5 (Nat.le_refl _) (fun k e => by cases e; omega))
  have O6 := Lib.hid (OwnsB.keptBy (show OwnsB w4.drew _ _ _ from O4.out) g5 (fun k e => by cases e; omega))
  have I6 := Lib.hid (OwnsI.keptBy (show OwnsI w4.drew _ _ _ from I4.out) g5 (fun k e => by cases e; omega))
  go_wp2
  refine bodyPost_ret (v := .tuple #[.agg #[.int .i64 W, .int .i64 T, .slice a m c], .slice la q lcap, .int .i64 y, .int .i64 z]) (by simp [results, Try.results25, go_sem, h50, h51, h52]) rfl ⟨W, T, a, m, c, xs, la, q, lcap, L, _, _, rfl, HM.out, h36, hs, ?_, HQ.out, hq36, ?_, ⟨by omega, by omega, by omega, by omega⟩, below_set3 B6.out (Nat.le_refl _) _ _ _⟩
  · exact (O6.out.set3 (by omega) _ _ _).lower (by omega)
  · exact (I6.out.set3 (by omega) _ _ _).lower (by omega)

end Go.Proofs.Ythdojiaaoaiioaa
