/- Contract of the draw of MakePuzzle. -/
import Derived.Test.YthjocjiiihebbaaDrawT
namespace Go.Proofs.Ythjocjiiihebbaa
open Go.RowKit
set_option linter.unusedVariables false
set_option maxRecDepth 100000
set_option linter.unusedSimpArgs false

def DrawnMk (w : World) (e : Ending) (w' : World) : Prop :=
  ∃ (W T : Int) (a : Option Addr) (n cap : Nat) (xs : List Bool) (la : Option Addr) (m lcap : Nat) (L : List Int) (k : Int), e = .returned (.tuple #[.agg #[.int .i64 W, .int .i64 T, .slice a n cap], .slice la m lcap, .int .i64 k]) ∧ n = xs.length ∧ n ≤ 36 ∧ (0 ≤ W ∧ W ≤ 6 ∧ 0 ≤ T ∧ T ≤ 6) ∧ OwnsB w' (w.heap.size + 1) (.slice a n cap) xs ∧ m = L.length ∧ m ≤ 36 ∧ OwnsI w' (w.heap.size + 1) (.slice la m lcap) L ∧ (-1 ≤ k ∧ k ≤ 60) ∧ Below w.heap.size w w'
theorem OwnsI.set3m {w : World} {B : Nat} {v : Value} {xs : List Int} (h : OwnsI w B v xs) {b : Nat} (hb : b < B) (x y z : Value) : OwnsI (((w.setCell ⟨b, 0, none⟩ x).setCell ⟨b, 1, none⟩ y).setCell ⟨b, 2, none⟩ z) B v xs :=
  ((h.setBelow (p := ⟨b, 0, none⟩) hb x).setBelow (p := ⟨b, 1, none⟩) hb y).setBelow (p := ⟨b, 2, none⟩) hb z

set_option maxHeartbeats 4000000 in
theorem drawMakePuzzle_any (cb : Option Addr) (n cap : Nat) (zs : List Int) (w : World) (hn : n = zs.length) (hn' : n ≤ 1048576) (hcap : n ≤ cap) (hb : BytesAt w cb zs) :
    Calls Try.prog 35 #[.slice cb n cap] w (DrawnMk w) := by
  have HN := Lib.hid hn; clear hn
  have HB := Lib.hid hb; clear hb
  go_enter Try.func35, Try.ntmps35
  go_wp2_with fail
  refine (l20Open_any _ _ _ zs _ HN.out hn' hcap (HB.out.below (below1 _ _))).mono ?_; rintro e w1 ⟨rfl, r1, b1⟩
  have q1 := heap_later (heap_new w (.cells #[.int .i64 0, .int .i64 0, .slice none 0 0] 35)) b1
  have B1 := Lib.hid (below_seq (below1 w _) b1)
  have R1 : Hid (RD w1 (w.heap.size + 1) 0) := by show RD _ _ _; simpa using r1
  have l1 := heap_lt q1
  have l2 := R1.out.lt
  clear r1 b1
  go_wp2_with fail
  refine (l20Tiling_any (w.heap.size + 1) 0 _ (by omega) R1.out).mono ?_; rintro e w2 ⟨W, T, a, m, c, xs, la, q, lcap, L, rfl, hm, h36, hs, o2, hq, hq36, i2, r2, g2⟩
  have q2 := heap_grown q1 g2 (by simp)
  have B2 := Lib.hid (below_grown B1.out g2 (Nat.le_refl _) (fun k e => by cases e; omega))
  have HM := Lib.hid hm
  have HQ := Lib.hid hq
  obtain ⟨wA, hwA⟩ : ∃ wA, wA = w2.alloc (.cells #[.int .i64 W, .int .i64 T, .slice a m c] 35) := ⟨_, rfl⟩
  have pA : wA.heap[w2.heap.size]? = some (.cells #[.int .i64 W, .int .i64 T, .slice a m c] 35 (0, 0)) := by rw [hwA]; exact heap_new _ _
  have qA : wA.heap[w.heap.size]? = some (.cells #[.int .i64 0, .int .i64 0, .slice none 0 0] 35 (0, 0)) := by rw [hwA]; exact heap_later q2 (below1 _ _)
  have BA : Hid (Below w.heap.size w wA) := by rw [hwA]; exact below_seq B2.out (below1 _ _)
  have OA : Hid (OwnsB wA w1.heap.size (.slice a m c) xs) := by rw [hwA]; exact o2.alloc _
  have IA : Hid (OwnsI wA w1.heap.size (.slice la q lcap) L) := by rw [hwA]; exact i2.alloc _
  have RA : Hid (RD wA (w.heap.size + 1) (0 + 400 + 600)) := by rw [hwA]; exact r2.below (below1 _ _)
  have l3 : w.heap.size + 1 < w2.heap.size := r2.lt
  clear o2 r2 g2 hm hq i2 q2
  obtain ⟨c0, c1, c2⟩ := cells3 pA
  have lA := heap_lt pA
  have n1 : w.heap.size ≠ w2.heap.size := by omega
  have n2 : w2.heap.size ≠ w.heap.size := by omega
  go_wp2_with fail
  rw [← hwA]
  clear hwA
  have P3 : wA.drew.heap[w2.heap.size]? = some _ := pA
  have Q3 : wA.drew.heap[w.heap.size]? = some _ := qA
  go_region_held3 (fun w' => w'.cell? ⟨w2.heap.size, 0, none⟩ = some (.int .i64 W) ∧ w'.cell? ⟨w2.heap.size, 1, none⟩ = some (.int .i64 T) ∧ w'.cell? ⟨w2.heap.size, 2, none⟩ = some (.slice a m c))
    (go_keep)
    (first
      | (go_at_call 45; refine (pick_any (w.heap.size + 1) (0 + 400 + 600) 30 _ (by omega) (by omega) (by omega) (show RD wA.drew _ _ from RA.out)).mono ?_; rintro e w6 ⟨y, hy, rfl, r6, g6⟩; have p6 := heap_grown P3 g6 (by simp; omega); have q6 := heap_grown Q3 g6 (by simp); obtain ⟨c60, c61, c62⟩ := cells3 p6; obtain ⟨h60, h61, h62⟩ := cells3 q6; have f60 := free3 q6 0; have f61 := free3 q6 1; have f62 := free3 q6 2))
  have B6 := Lib.hid (below_grown (below_seq BA.out (drew_below _)) g6 (Nat.le_refl _) (fun k e => by cases e; omega))
  have O6 := Lib.hid (OwnsB.keptBy (show OwnsB wA.drew _ _ _ from OA.out) g6 (fun k e => by cases e; omega))
  have I6 := Lib.hid (OwnsI.keptBy (show OwnsI wA.drew _ _ _ from IA.out) g6 (fun k e => by cases e; omega))
  obtain ⟨V, hV⟩ : ∃ V, V = (y : Int) - 1 := ⟨_, rfl⟩
  have hVV : -1 ≤ V ∧ V ≤ 60 := by omega
  have eV : IntKind.i64.wrap ((y : Int) - 1) = V := by rw [hV]; exact IntWalk.i64_in _ (by omega)
  try rw [← hV]
  try rw [eV]
  clear eV hV
  have eW : IntKind.i64.wrap V = V := IntWalk.i64_in _ (by omega)
  go_wp2
  refine bodyPost_ret (v := .tuple #[.agg #[.int .i64 W, .int .i64 T, .slice a m c], .slice la q lcap, .int .i64 V]) (by simp [results, Try.results35, go_sem, h60, h61, h62, eW]) rfl ⟨W, T, a, m, c, xs, la, q, lcap, L, V, rfl, HM.out, h36, hs, ?_, HQ.out, hq36, ?_, hVV, below_set3 B6.out (Nat.le_refl _) _ _ _⟩
  · exact (O6.out.set3 (by omega) _ _ _).lower (by omega)
  · exact (I6.out.set3m (by omega) _ _ _).lower (by omega)

end Go.Proofs.Ythjocjiiihebbaa
