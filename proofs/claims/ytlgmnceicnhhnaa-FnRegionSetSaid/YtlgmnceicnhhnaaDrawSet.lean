/- A region, a cell and a direction (or a mark) are drawn. -/
import Derived.Test.YtlgmnceicnhhnaaDrawAt
namespace Go.Proofs.Ytlgmnceicnhhnaa
open Go.RowKit
set_option linter.unusedVariables false
set_option maxRecDepth 100000
set_option linter.unusedSimpArgs false

theorem pick_i (rb P : Nat) (m : Int) (w : World) (hm0 : 1 ≤ m) (hm1 : m ≤ 1000000) (hP : P ≤ 100000) (h : RD w rb P) :
    Calls Try.prog 65 #[.pointer (some ⟨rb, 0, none⟩), .int .i64 m] w (Picked rb P m.toNat w) := by
  have := pick_any rb P m.toNat w (by omega) (by omega) hP h
  rwa [show ((m.toNat : Nat) : Int) = m by omega] at this
def DrawnCB (w : World) (e : Ending) (w' : World) : Prop :=
  ∃ (W T : Int) (a : Option Addr) (n cap : Nat) (xs : List Bool) (x : Int) (y : Bool), e = .returned (.tuple #[.agg #[.int .i64 W, .int .i64 T, .slice a n cap], .int .i64 x, .bool y]) ∧ n = xs.length ∧ n ≤ 36 ∧ (0 ≤ W ∧ W ≤ 6 ∧ 0 ≤ T ∧ T ≤ 6) ∧ (-40 ≤ x ∧ x ≤ 40) ∧ OwnsB w' (w.heap.size + 1) (.slice a n cap) xs ∧ Below w.heap.size w w'
def DrawnCW (w : World) (e : Ending) (w' : World) : Prop :=
  ∃ (W T : Int) (a : Option Addr) (n cap : Nat) (xs : List Bool) (x y : Int), e = .returned (.tuple #[.agg #[.int .i64 W, .int .i64 T, .slice a n cap], .int .i64 x, .int .i64 y]) ∧ n = xs.length ∧ n ≤ 36 ∧ (0 ≤ W ∧ W ≤ 6 ∧ 0 ≤ T ∧ T ≤ 6) ∧ (-40 ≤ x ∧ x ≤ 40 ∧ 0 ≤ y ∧ y ≤ 5) ∧ OwnsB w' (w.heap.size + 1) (.slice a n cap) xs ∧ Below w.heap.size w w'

set_option maxHeartbeats 4000000 in
theorem drawStepTo_any (cb : Option Addr) (n cap : Nat) (zs : List Int) (w : World) (hn : n = zs.length) (hn' : n ≤ 1048576) (hcap : n ≤ cap) (hb : BytesAt w cb zs) :
    Calls Try.prog 43 #[.slice cb n cap] w (DrawnCW w) := by
  have HN := Lib.hid hn; clear hn
  have HB := Lib.hid hb; clear hb
  go_enter Try.func43, Try.ntmps43
  go_wp2_with fail
  refine (l20Open_any _ _ _ zs _ HN.out hn' hcap (HB.out.below (below1 _ _))).mono ?_; rintro e w1 ⟨rfl, r1, b1⟩
  have q1 := heap_later (heap_new w (.cells #[.int .i64 0, .int .i64 0, .slice none 0 0] 25)) b1
  have B1 := Lib.hid (below_seq (below1 w _) b1)
  have R1 : Hid (RD w1 (w.heap.size + 1) 0) := by show RD _ _ _; simpa using r1
  have l1 := heap_lt q1
  have l2 := R1.out.lt
  clear r1 b1
  go_wp2_with fail
  refine (l20Region_any (w.heap.size + 1) 0 12 _ (by omega) (by omega) (by omega) R1.out).mono ?_; rintro e w2 ⟨W, T, a, m, c, xs, rfl, hm, h36, hs, o2, r2, g2⟩
  have q2 := heap_grown q1 g2 (by simp)
  have B2 := Lib.hid (below_grown B1.out g2 (Nat.le_refl _) (fun k e => by cases e; omega))
  have HM := Lib.hid hm
  obtain ⟨wA, hwA⟩ : ∃ wA, wA = w2.alloc (.cells #[.int .i64 W, .int .i64 T, .slice a m c] 25) := ⟨_, rfl⟩
  have pA : wA.heap[w2.heap.size]? = some (.cells #[.int .i64 W, .int .i64 T, .slice a m c] 25 (0, 0)) := by rw [hwA]; exact heap_new _ _
  have qA : wA.heap[w.heap.size]? = some (.cells #[.int .i64 0, .int .i64 0, .slice none 0 0] 25 (0, 0)) := by rw [hwA]; exact heap_later q2 (below1 _ _)
  have BA : Hid (Below w.heap.size w wA) := by rw [hwA]; exact below_seq B2.out (below1 _ _)
  have OA : Hid (OwnsB wA w1.heap.size (.slice a m c) xs) := by rw [hwA]; exact o2.alloc _
  have RA : Hid (RD wA (w.heap.size + 1) 100) := by rw [hwA]; exact (r2.below (below1 _ _)).mono (by omega)
  have l3 : w.heap.size + 1 < w2.heap.size := r2.lt
  clear o2 r2 g2 hm q2
  obtain ⟨c0, c1, c2⟩ := cells3 pA
  have lA := heap_lt pA
  have n1 : w.heap.size ≠ w2.heap.size := by omega
  have n2 : w2.heap.size ≠ w.heap.size := by omega
  have e1 : IntKind.i64.wrap ((m : Int) + 1) = (m : Int) + 1 := IntWalk.i64_in _ (by omega)
  go_wp2_with fail
  rw [← hwA]
  clear hwA
  have P3 : wA.drew.heap[w2.heap.size]? = some _ := pA
  have Q3 : wA.drew.heap[w.heap.size]? = some _ := qA
  go_region_held3 (fun w' => w'.cell? ⟨w2.heap.size, 0, none⟩ = some (.int .i64 W) ∧ w'.cell? ⟨w2.heap.size, 1, none⟩ = some (.int .i64 T) ∧ w'.cell? ⟨w2.heap.size, 2, none⟩ = some (.slice a m c))
    (go_keep)
    (first
      | (go_at_call 65; refine (pick_i (w.heap.size + 1) (100 + 1 + 1) 6 _ (by omega) (by omega) (by omega) r5).mono ?_; rintro e w6 ⟨z, hz, rfl, r6, g6⟩; have p6 := heap_grown p5 g6 (by simp; omega); have q6 := heap_grown q5 g6 (by simp); obtain ⟨c60, c61, c62⟩ := cells3 p6; obtain ⟨h60, h61, h62⟩ := cells3 q6; have f60 := free3 q6 0; have f61 := free3 q6 1; have f62 := free3 q6 2)
      | (go_at_call 65; refine (pick_i (w.heap.size + 1) (100 + 1) 20 _ (by omega) (by omega) (by omega) r4).mono ?_; rintro e w5 ⟨y, hy, rfl, r5, g5⟩; have p5 := heap_grown p4 g5 (by simp; omega); have q5 := heap_grown q4 g5 (by simp); obtain ⟨c50, c51, c52⟩ := cells3 p5)
      | (go_at_call 65; clear e1; refine (pick_i (w.heap.size + 1) 100 ((m : Int) + 1) _ (by omega) (by omega) (by omega) (show RD wA.drew _ _ from RA.out)).mono ?_; rintro e w4 ⟨x, hx, rfl, r4, g4⟩; have p4 := heap_grown P3 g4 (by simp; omega); have q4 := heap_grown Q3 g4 (by simp); obtain ⟨c40, c41, c42⟩ := cells3 p4))
  have B6 := Lib.hid (below_grown (below_grown (below_grown (below_seq BA.out (drew_below _)) g4 (Nat.le_refl _) (fun k e => by cases e; omega)) g5 (Nat.le_refl _) (fun k e => by cases e; omega)) g6 (Nat.le_refl _) (fun k e => by cases e; omega))
  have O6 := Lib.hid (OwnsB.keptBy (OwnsB.keptBy (OwnsB.keptBy (show OwnsB wA.drew _ _ _ from OA.out) g4 (fun k e => by cases e; omega)) g5 (fun k e => by cases e; omega)) g6 (fun k e => by cases e; omega))
  obtain ⟨V, hV, hV0, hV1⟩ : ∃ V, V = IntKind.i64.wrap ((x : Int) - IntKind.i64.wrap ((y : Int) / 19)) ∧ -40 ≤ V ∧ V ≤ 40 := by
    refine ⟨_, rfl, ?_⟩
    have hx' : x ≤ 36 := by omega
    rw [IntWalk.i64_in ((y : Int) / 19) (by omega), IntWalk.i64_in _ (by omega)]
    omega
  rw [← hV]
  clear hV
  go_wp2
  refine bodyPost_ret (v := .tuple #[.agg #[.int .i64 W, .int .i64 T, .slice a m c], .int .i64 V, .int .i64 z]) (by simp [results, Try.results43, go_sem, h60, h61, h62]) rfl ⟨W, T, a, m, c, xs, _, _, rfl, HM.out, h36, hs, ⟨hV0, hV1, by omega, by omega⟩, ?_, below_set3 B6.out (Nat.le_refl _) _ _ _⟩
  exact (O6.out.set3 (by omega) _ _ _).lower (by omega)

set_option maxHeartbeats 4000000 in
theorem drawRegionSet_any (cb : Option Addr) (n cap : Nat) (zs : List Int) (w : World) (hn : n = zs.length) (hn' : n ≤ 1048576) (hcap : n ≤ cap) (hb : BytesAt w cb zs) :
    Calls Try.prog 22 #[.slice cb n cap] w (DrawnCB w) := by
  have HN := Lib.hid hn; clear hn
  have HB := Lib.hid hb; clear hb
  go_enter Try.func22, Try.ntmps22
  go_wp2_with fail
  refine (l20Open_any _ _ _ zs _ HN.out hn' hcap (HB.out.below (below1 _ _))).mono ?_; rintro e w1 ⟨rfl, r1, b1⟩
  have q1 := heap_later (heap_new w (.cells #[.int .i64 0, .int .i64 0, .slice none 0 0] 25)) b1
  have B1 := Lib.hid (below_seq (below1 w _) b1)
  have R1 : Hid (RD w1 (w.heap.size + 1) 0) := by show RD _ _ _; simpa using r1
  have l1 := heap_lt q1
  have l2 := R1.out.lt
  clear r1 b1
  go_wp2_with fail
  refine (l20Region_any (w.heap.size + 1) 0 9 _ (by omega) (by omega) (by omega) R1.out).mono ?_; rintro e w2 ⟨W, T, a, m, c, xs, rfl, hm, h36, hs, o2, r2, g2⟩
  have q2 := heap_grown q1 g2 (by simp)
  have B2 := Lib.hid (below_grown B1.out g2 (Nat.le_refl _) (fun k e => by cases e; omega))
  have HM := Lib.hid hm
  obtain ⟨wA, hwA⟩ : ∃ wA, wA = w2.alloc (.cells #[.int .i64 W, .int .i64 T, .slice a m c] 25) := ⟨_, rfl⟩
  have pA : wA.heap[w2.heap.size]? = some (.cells #[.int .i64 W, .int .i64 T, .slice a m c] 25 (0, 0)) := by rw [hwA]; exact heap_new _ _
  have qA : wA.heap[w.heap.size]? = some (.cells #[.int .i64 0, .int .i64 0, .slice none 0 0] 25 (0, 0)) := by rw [hwA]; exact heap_later q2 (below1 _ _)
  have BA : Hid (Below w.heap.size w wA) := by rw [hwA]; exact below_seq B2.out (below1 _ _)
  have OA : Hid (OwnsB wA w1.heap.size (.slice a m c) xs) := by rw [hwA]; exact o2.alloc _
  have RA : Hid (RD wA (w.heap.size + 1) 100) := by rw [hwA]; exact (r2.below (below1 _ _)).mono (by omega)
  have l3 : w.heap.size + 1 < w2.heap.size := r2.lt
  clear o2 r2 g2 hm q2
  obtain ⟨c0, c1, c2⟩ := cells3 pA
  have lA := heap_lt pA
  have n1 : w.heap.size ≠ w2.heap.size := by omega
  have n2 : w2.heap.size ≠ w.heap.size := by omega
  have e1 : IntKind.i64.wrap ((m : Int) + 1) = (m : Int) + 1 := IntWalk.i64_in _ (by omega)
  go_wp2_with fail
  rw [← hwA]
  clear hwA
  have P3 : wA.drew.heap[w2.heap.size]? = some _ := pA
  have Q3 : wA.drew.heap[w.heap.size]? = some _ := qA
  go_region_held3 (fun w' => w'.cell? ⟨w2.heap.size, 0, none⟩ = some (.int .i64 W) ∧ w'.cell? ⟨w2.heap.size, 1, none⟩ = some (.int .i64 T) ∧ w'.cell? ⟨w2.heap.size, 2, none⟩ = some (.slice a m c))
    (go_keep)
    (first
      | (go_at_call 65; refine (pick_i (w.heap.size + 1) (100 + 1 + 1) 2 _ (by omega) (by omega) (by omega) r5).mono ?_; rintro e w6 ⟨z, hz, rfl, r6, g6⟩; have p6 := heap_grown p5 g6 (by simp; omega); have q6 := heap_grown q5 g6 (by simp); obtain ⟨c60, c61, c62⟩ := cells3 p6; obtain ⟨h60, h61, h62⟩ := cells3 q6; have f60 := free3 q6 0; have f61 := free3 q6 1; have f62 := free3 q6 2)
      | (go_at_call 65; refine (pick_i (w.heap.size + 1) (100 + 1) 20 _ (by omega) (by omega) (by omega) r4).mono ?_; rintro e w5 ⟨y, hy, rfl, r5, g5⟩; have p5 := heap_grown p4 g5 (by simp; omega); have q5 := heap_grown q4 g5 (by simp); obtain ⟨c50, c51, c52⟩ := cells3 p5)
      | (go_at_call 65; clear e1; refine (pick_i (w.heap.size + 1) 100 ((m : Int) + 1) _ (by omega) (by omega) (by omega) (show RD wA.drew _ _ from RA.out)).mono ?_; rintro e w4 ⟨x, hx, rfl, r4, g4⟩; have p4 := heap_grown P3 g4 (by simp; omega); have q4 := heap_grown Q3 g4 (by simp); obtain ⟨c40, c41, c42⟩ := cells3 p4))
  have B6 := Lib.hid (below_grown (below_grown (below_grown (below_seq BA.out (drew_below _)) g4 (Nat.le_refl _) (fun k e => by cases e; omega)) g5 (Nat.le_refl _) (fun k e => by cases e; omega)) g6 (Nat.le_refl _) (fun k e => by cases e; omega))
  have O6 := Lib.hid (OwnsB.keptBy (OwnsB.keptBy (OwnsB.keptBy (show OwnsB wA.drew _ _ _ from OA.out) g4 (fun k e => by cases e; omega)) g5 (fun k e => by cases e; omega)) g6 (fun k e => by cases e; omega))
  obtain ⟨V, hV, hV0, hV1⟩ : ∃ V, V = IntKind.i64.wrap ((x : Int) - IntKind.i64.wrap ((y : Int) / 19)) ∧ -40 ≤ V ∧ V ≤ 40 := by
    refine ⟨_, rfl, ?_⟩
    have hx' : x ≤ 36 := by omega
    rw [IntWalk.i64_in ((y : Int) / 19) (by omega), IntWalk.i64_in _ (by omega)]
    omega
  rw [← hV]
  clear hV
  go_wp2
  refine bodyPost_ret (v := .tuple #[.agg #[.int .i64 W, .int .i64 T, .slice a m c], .int .i64 V, .bool ((z : Int) == 0)]) (by simp [results, Try.results22, go_sem, h60, h61, h62]) rfl ⟨W, T, a, m, c, xs, _, _, rfl, HM.out, h36, hs, ⟨hV0, hV1⟩, ?_, below_set3 B6.out (Nat.le_refl _) _ _ _⟩
  exact (O6.out.set3 (by omega) _ _ _).lower (by omega)

end Go.Proofs.Ytlgmnceicnhhnaa
