/- Contract of the draw of TilingOf. -/
import Derived.Test.YtdmnfafmbdmjmaaDrawL
import Derived.Test.YtdmnfafmbdmjmaaDpS
namespace Go.Proofs.Ytdmnfafmbdmjmaa
open Go.RowKit
set_option linter.unusedVariables false
set_option maxRecDepth 100000
set_option linter.unusedSimpArgs false

/-- A region and a number were drawn of a code. -/
def DrawnCk (w : World) (e : Ending) (w' : World) : Prop :=
  ∃ (W T : Int) (a : Option Addr) (n cap : Nat) (xs : List Bool) (V : Int), e = .returned (.tuple #[.agg #[.int .i64 W, .int .i64 T, .slice a n cap], .int .i64 V]) ∧ n = xs.length ∧ n ≤ 36 ∧ (0 ≤ W ∧ W ≤ 6 ∧ 0 ≤ T ∧ T ≤ 6) ∧ OwnsB w' w.heap.size (.slice a n cap) xs ∧ Below w.heap.size w w'
set_option maxHeartbeats 8000000 in
theorem drawTilingOf_any (cb : Option Addr) (n cap : Nat) (zs : List Int) (w : World) (hn : n = zs.length) (hn' : n ≤ 1048576) (hcap : n ≤ cap) (hb : BytesAt w cb zs) :
    Calls Try.prog 26 #[.slice cb n cap] w (DrawnCk w) := by
  have HN := Lib.hid hn; clear hn
  have HB := Lib.hid hb; clear hb
  go_enter Try.func26, Try.ntmps26
  go_wp2_with fail
  refine (l20Open_any _ _ _ zs _ HN.out hn' hcap (HB.out.below (below1 _ _))).mono ?_; rintro e w1 ⟨rfl, r1, b1⟩
  have q1 := heap_later (heap_new w (.cells #[.int .i64 0, .int .i64 0, .slice none 0 0] 25)) b1
  have B1 := Lib.hid (below_seq (below1 w _) b1)
  have R1 : Hid (RD w1 (w.heap.size + 1) 0) := by show RD _ _ _; simpa using r1
  have l1 := heap_lt q1
  have l2 := R1.out.lt
  clear r1 b1
  go_wp2_with fail
  refine (l20Some_any (w.heap.size + 1) 0 12 _ (by omega) (by omega) (by omega) R1.out).mono ?_; rintro e w2 ⟨W, T, a, m, c, xs, rfl, hm, h36, hs, o2, r2, g2⟩
  have q2 := heap_grown q1 g2 (by simp)
  have B2 := Lib.hid (below_grown B1.out g2 (Nat.le_refl _) (fun k e => by cases e; omega))
  have HM := Lib.hid hm
  obtain ⟨wA, hwA⟩ : ∃ wA, wA = w2.alloc (.cells #[.int .i64 W, .int .i64 T, .slice a m c] 25) := ⟨_, rfl⟩
  have pA : wA.heap[w2.heap.size]? = some (.cells #[.int .i64 W, .int .i64 T, .slice a m c] 25 (0, 0)) := by rw [hwA]; exact heap_new _ _
  have qA : wA.heap[w.heap.size]? = some (.cells #[.int .i64 0, .int .i64 0, .slice none 0 0] 25 (0, 0)) := by rw [hwA]; exact heap_later q2 (below1 _ _)
  have BA : Hid (Below w.heap.size w wA) := by rw [hwA]; exact below_seq B2.out (below1 _ _)
  have OA : Hid (OwnsB wA w1.heap.size (.slice a m c) xs) := by rw [hwA]; exact o2.alloc _
  have RA : Hid (RD wA (w.heap.size + 1) 300) := by rw [hwA]; exact (r2.below (below1 _ _)).mono (by omega)
  have l3 : w.heap.size + 1 < w2.heap.size := r2.lt
  clear o2 r2 g2 hm q2
  obtain ⟨c0, c1, c2⟩ := cells3 pA
  have lA := heap_lt pA
  have n1 : w.heap.size ≠ w2.heap.size := by omega
  have n2 : w2.heap.size ≠ w.heap.size := by omega
  obtain ⟨D, hD⟩ : ∃ D, tilT W T xs = D := ⟨_, rfl⟩
  have hD0 : -1 ≤ D := by rw [← hD]; unfold tilT; split <;> omega
  have HD := Lib.hid hD; clear hD
  have HA := Lib.hid (OwnsB.at OA.out)
  go_wp2_with fail
  rw [← hwA]
  clear hwA
  have P3 : wA.drew.heap[w2.heap.size]? = some _ := pA
  have Q3 : wA.drew.heap[w.heap.size]? = some _ := qA
  by_cases hc1 : D < 0
  · have hmA : (if D < (0 : Int) then (0 : Int) else D) = 0 := if_pos hc1
    have hK1 : (1 : Int) ≤ 2 := by omega
    have hK2 : 2 ≤ (1000000 : Int) := by omega
    have hmB : (if (0 : Int) < D then D else (0 : Int)) = 0 := if_neg (by omega)
    have e1 : IntKind.i64.wrap (0 + 2) = 2 := rfl
    have e2 : IntKind.i64.wrap 2 = 2 := rfl
    go_region_held3 (fun w' => w'.cell? ⟨w2.heap.size, 0, none⟩ = some (.int .i64 W) ∧ w'.cell? ⟨w2.heap.size, 1, none⟩ = some (.int .i64 T) ∧ w'.cell? ⟨w2.heap.size, 2, none⟩ = some (.slice a m c))
      (go_keep)
      (first
        | (go_at_call 55; refine (pick_i (w.heap.size + 1) (300 + 1) 20 _ (by omega) (by omega) (by omega) r5).mono ?_; rintro e w6 ⟨y, hy, rfl, r6, g6⟩; have p6 := heap_grown p5 g6 (by simp; omega); have q6 := heap_grown q5 g6 (by simp); obtain ⟨c60, c61, c62⟩ := cells3 p6; obtain ⟨h60, h61, h62⟩ := cells3 q6; have f60 := free3 q6 0; have f61 := free3 q6 1; have f62 := free3 q6 2)
        | (go_at_call 55; refine (pick_i (w.heap.size + 1) 300 (2) _ hK1 hK2 (by omega) r4).mono ?_; rintro e w5 ⟨x, hx, rfl, r5, g5⟩; have p5 := heap_grown p4 g5 (by simp; omega); have q5 := heap_grown q4 g5 (by simp); obtain ⟨c50, c51, c52⟩ := cells3 p5)
        | (go_at_call 9; refine (sTilingsMany_any _ _ _ _ _ xs _ HM.out (by omega) (show BoolsAt wA.drew _ _ from HA.out)).mono ?_; rintro e w4 ⟨rfl, hb4⟩; rw [HD.out]; have p4 := heap_later P3 hb4; have q4 := heap_later Q3 hb4; have r4 : RD w4 (w.heap.size + 1) 300 := (show RD wA.drew _ _ from RA.out).below hb4; obtain ⟨c40, c41, c42⟩ := cells3 p4))
    have B6 := Lib.hid (below_grown (below_grown (below_seq BA.out (below_seq (drew_below _) hb4)) g5 (Nat.le_refl _) (fun k e => by cases e; omega)) g6 (Nat.le_refl _) (fun k e => by cases e; omega))
    have O6 := Lib.hid (OwnsB.keptBy (OwnsB.keptBy ((show OwnsB wA.drew _ _ _ from OA.out).below hb4) g5 (fun k e => by cases e; omega)) g6 (fun k e => by cases e; omega))
    obtain ⟨V, hV⟩ : ∃ V, V = IntKind.i64.wrap ((x : Int) - IntKind.i64.wrap ((y : Int) / 19)) := ⟨_, rfl⟩
    rw [← hV]
    clear hV
    go_wp2
    refine bodyPost_ret (v := .tuple #[.agg #[.int .i64 W, .int .i64 T, .slice a m c], .int .i64 V]) (by simp [results, Try.results26, go_sem, h60, h61, h62]) rfl ⟨W, T, a, m, c, xs, V, rfl, HM.out, h36, hs, ?_, below_set3 B6.out (Nat.le_refl _) _ _ _⟩
    exact (O6.out.set3 (by omega) _ _ _).lower (by omega)
  by_cases hc2 : 250 < D
  · have hmA : (if D < (0 : Int) then (0 : Int) else D) = D := if_neg hc1
    have hK1 : (1 : Int) ≤ 252 := by omega
    have hK2 : 252 ≤ (1000000 : Int) := by omega
    have hmB : (if (0 : Int) < D then D else (0 : Int)) = D := if_pos (by omega)
    have hnA : (if (250 : Int) < D then (250 : Int) else D) = 250 := if_pos hc2
    have hnB : (if D < (250 : Int) then D else (250 : Int)) = 250 := if_neg (by omega)
    have e1 : IntKind.i64.wrap (250 + 2) = 252 := rfl
    have e2 : IntKind.i64.wrap 252 = 252 := rfl
    go_region_held3 (fun w' => w'.cell? ⟨w2.heap.size, 0, none⟩ = some (.int .i64 W) ∧ w'.cell? ⟨w2.heap.size, 1, none⟩ = some (.int .i64 T) ∧ w'.cell? ⟨w2.heap.size, 2, none⟩ = some (.slice a m c))
      (go_keep)
      (first
        | (go_at_call 55; refine (pick_i (w.heap.size + 1) (300 + 1) 20 _ (by omega) (by omega) (by omega) r5).mono ?_; rintro e w6 ⟨y, hy, rfl, r6, g6⟩; have p6 := heap_grown p5 g6 (by simp; omega); have q6 := heap_grown q5 g6 (by simp); obtain ⟨c60, c61, c62⟩ := cells3 p6; obtain ⟨h60, h61, h62⟩ := cells3 q6; have f60 := free3 q6 0; have f61 := free3 q6 1; have f62 := free3 q6 2)
        | (go_at_call 55; refine (pick_i (w.heap.size + 1) 300 (252) _ hK1 hK2 (by omega) r4).mono ?_; rintro e w5 ⟨x, hx, rfl, r5, g5⟩; have p5 := heap_grown p4 g5 (by simp; omega); have q5 := heap_grown q4 g5 (by simp); obtain ⟨c50, c51, c52⟩ := cells3 p5)
        | (go_at_call 9; refine (sTilingsMany_any _ _ _ _ _ xs _ HM.out (by omega) (show BoolsAt wA.drew _ _ from HA.out)).mono ?_; rintro e w4 ⟨rfl, hb4⟩; rw [HD.out]; have p4 := heap_later P3 hb4; have q4 := heap_later Q3 hb4; have r4 : RD w4 (w.heap.size + 1) 300 := (show RD wA.drew _ _ from RA.out).below hb4; obtain ⟨c40, c41, c42⟩ := cells3 p4))
    have B6 := Lib.hid (below_grown (below_grown (below_seq BA.out (below_seq (drew_below _) hb4)) g5 (Nat.le_refl _) (fun k e => by cases e; omega)) g6 (Nat.le_refl _) (fun k e => by cases e; omega))
    have O6 := Lib.hid (OwnsB.keptBy (OwnsB.keptBy ((show OwnsB wA.drew _ _ _ from OA.out).below hb4) g5 (fun k e => by cases e; omega)) g6 (fun k e => by cases e; omega))
    obtain ⟨V, hV⟩ : ∃ V, V = IntKind.i64.wrap ((x : Int) - IntKind.i64.wrap ((y : Int) / 19)) := ⟨_, rfl⟩
    rw [← hV]
    clear hV
    go_wp2
    refine bodyPost_ret (v := .tuple #[.agg #[.int .i64 W, .int .i64 T, .slice a m c], .int .i64 V]) (by simp [results, Try.results26, go_sem, h60, h61, h62]) rfl ⟨W, T, a, m, c, xs, V, rfl, HM.out, h36, hs, ?_, below_set3 B6.out (Nat.le_refl _) _ _ _⟩
    exact (O6.out.set3 (by omega) _ _ _).lower (by omega)
  · have hmA : (if D < (0 : Int) then (0 : Int) else D) = D := if_neg hc1
    have hK1 : (1 : Int) ≤ D + 2 := by omega
    have hK2 : D + 2 ≤ (1000000 : Int) := by omega
    have hmB : (if (0 : Int) < D then D else (0 : Int)) = D := by by_cases h : (0 : Int) < D; exact if_pos h; rw [if_neg h]; omega
    have hnA : (if (250 : Int) < D then (250 : Int) else D) = D := if_neg hc2
    have hnB : (if D < (250 : Int) then D else (250 : Int)) = D := by by_cases h : D < (250 : Int); exact if_pos h; rw [if_neg h]; omega
    have e1 : IntKind.i64.wrap (D + 2) = D + 2 := IntWalk.i64_in _ (by omega)
    go_region_held3 (fun w' => w'.cell? ⟨w2.heap.size, 0, none⟩ = some (.int .i64 W) ∧ w'.cell? ⟨w2.heap.size, 1, none⟩ = some (.int .i64 T) ∧ w'.cell? ⟨w2.heap.size, 2, none⟩ = some (.slice a m c))
      (go_keep)
      (first
        | (go_at_call 55; refine (pick_i (w.heap.size + 1) (300 + 1) 20 _ (by omega) (by omega) (by omega) r5).mono ?_; rintro e w6 ⟨y, hy, rfl, r6, g6⟩; have p6 := heap_grown p5 g6 (by simp; omega); have q6 := heap_grown q5 g6 (by simp); obtain ⟨c60, c61, c62⟩ := cells3 p6; obtain ⟨h60, h61, h62⟩ := cells3 q6; have f60 := free3 q6 0; have f61 := free3 q6 1; have f62 := free3 q6 2)
        | (go_at_call 55; refine (pick_i (w.heap.size + 1) 300 (D + 2) _ hK1 hK2 (by omega) r4).mono ?_; rintro e w5 ⟨x, hx, rfl, r5, g5⟩; have p5 := heap_grown p4 g5 (by simp; omega); have q5 := heap_grown q4 g5 (by simp); obtain ⟨c50, c51, c52⟩ := cells3 p5)
        | (go_at_call 9; refine (sTilingsMany_any _ _ _ _ _ xs _ HM.out (by omega) (show BoolsAt wA.drew _ _ from HA.out)).mono ?_; rintro e w4 ⟨rfl, hb4⟩; rw [HD.out]; have p4 := heap_later P3 hb4; have q4 := heap_later Q3 hb4; have r4 : RD w4 (w.heap.size + 1) 300 := (show RD wA.drew _ _ from RA.out).below hb4; obtain ⟨c40, c41, c42⟩ := cells3 p4))
    have B6 := Lib.hid (below_grown (below_grown (below_seq BA.out (below_seq (drew_below _) hb4)) g5 (Nat.le_refl _) (fun k e => by cases e; omega)) g6 (Nat.le_refl _) (fun k e => by cases e; omega))
    have O6 := Lib.hid (OwnsB.keptBy (OwnsB.keptBy ((show OwnsB wA.drew _ _ _ from OA.out).below hb4) g5 (fun k e => by cases e; omega)) g6 (fun k e => by cases e; omega))
    obtain ⟨V, hV⟩ : ∃ V, V = IntKind.i64.wrap ((x : Int) - IntKind.i64.wrap ((y : Int) / 19)) := ⟨_, rfl⟩
    rw [← hV]
    clear hV
    go_wp2
    refine bodyPost_ret (v := .tuple #[.agg #[.int .i64 W, .int .i64 T, .slice a m c], .int .i64 V]) (by simp [results, Try.results26, go_sem, h60, h61, h62]) rfl ⟨W, T, a, m, c, xs, V, rfl, HM.out, h36, hs, ?_, below_set3 B6.out (Nat.le_refl _) _ _ _⟩
    exact (O6.out.set3 (by omega) _ _ _).lower (by omega)

end Go.Proofs.Ytdmnfafmbdmjmaa
