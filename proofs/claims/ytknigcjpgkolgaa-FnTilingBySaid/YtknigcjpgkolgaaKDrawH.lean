/- Contracts of spec.l20Heights and of the draws that use it, or two tilings. -/
import Derived.Test.YtknigcjpgkolgaaKDrawTwo
import Derived.Test.YtknigcjpgkolgaaKHtsS
import Derived.Test.YtknigcjpgkolgaaKLatM
namespace Go.Proofs.Ytknigcjpgkolgaa
open Go.RowKit
set_option linter.unusedVariables false
set_option maxRecDepth 100000
set_option linter.unusedSimpArgs false

/-- A region and two lists of heights were drawn. -/
def DrawnHts (rb P : Nat) (w : World) (e : Ending) (w' : World) : Prop :=
  ∃ (W T : Int) (a : Option Addr) (n cap : Nat) (xs : List Bool) (la : Option Addr) (m lcap : Nat) (L : List Int) (lb : Option Addr) (q bcap : Nat) (M : List Int), e = .returned (.tuple #[.agg #[.int .i64 W, .int .i64 T, .slice a n cap], .slice la m lcap, .slice lb q bcap]) ∧
    n = xs.length ∧ n ≤ 36 ∧ (0 ≤ W ∧ W ≤ 6 ∧ 0 ≤ T ∧ T ≤ 6) ∧ OwnsB w' w.heap.size (.slice a n cap) xs ∧ m = L.length ∧ m ≤ 49 ∧ OwnsI w' w.heap.size (.slice la m lcap) L ∧ q = M.length ∧ q ≤ 49 ∧ OwnsI w' w.heap.size (.slice lb q bcap) M ∧ RD w' rb (P + 700) ∧ w.grownBy w' (some rb)
set_option maxHeartbeats 4000000 in
theorem l20Heights_any (rb P : Nat) (w : World) (hP : P ≤ 100) (h : RD w rb P) :
    Calls Try.prog 83 #[.pointer (some ⟨rb, 0, none⟩)] w (DrawnHts rb P w) := by
  have lr := h.lt
  have H := Lib.hid h; clear h
  go_enter Try.func83, Try.ntmps83
  go_wp2_with fail
  refine (l20Two_any rb P _ hP (H.out.below (below1 _ _))).mono ?_; rintro e w2 ⟨W, T, a, n, c, xs, l0, m0, lcap0, L0, l1, m1, lcap1, L1, rfl, hm, h36, hs, o2, hq, hq36, i2, hp, hp36, j2, r2, g2⟩
  have q2 := heap_grown (heap_new w (.cells #[.int .i64 0, .int .i64 0, .slice none 0 0] 25)) g2 (by intro e; have := Option.some.inj e; omega)
  have HM := Lib.hid hm; clear hm
  have HQ := Lib.hid hq; clear hq
  have HP := Lib.hid hp; clear hp
  have lq := heap_lt q2
  obtain ⟨wB, hwB⟩ : ∃ wB, wB = w2.alloc (.cells #[.int .i64 W, .int .i64 T, .slice a n c] 25) := ⟨_, rfl⟩
  have pB : wB.heap[w2.heap.size]? = some (.cells #[.int .i64 W, .int .i64 T, .slice a n c] 25 (0, 0)) := by rw [hwB]; exact heap_new _ _
  have qB : wB.heap[w.heap.size]? = some (.cells #[.int .i64 0, .int .i64 0, .slice none 0 0] 25 (0, 0)) := by rw [hwB]; exact heap_later q2 (below1 _ _)
  have zW : (w.alloc (.cells #[.int .i64 0, .int .i64 0, .slice none 0 0] 25)).heap.size = w.heap.size + 1 := by simp
  rw [zW] at o2 i2 j2
  have OB : Hid (OwnsB wB (w.heap.size + 1) (.slice a n c) xs) := by rw [hwB]; exact o2.alloc _
  have IB : Hid (IntsAt wB l0 L0) := by rw [hwB]; exact OwnsI.at (i2.alloc _)
  have JB : Hid (IntsAt wB l1 L1) := by rw [hwB]; exact OwnsI.at (j2.alloc _)
  have RB : Hid (RD wB rb (P + 600)) := by rw [hwB]; exact r2.below (below1 _ _)
  have GB : Hid (w.grownBy wB (some rb)) := by rw [hwB]; exact grown_seq' (grown_seq' (World.grownBy_alloc w _ _) g2) (World.grownBy_alloc _ _ _)
  have zB : wB.heap.size = w2.heap.size + 1 := by rw [hwB]; simp
  have hsb : ∀ k, (Value.slice a n c).ownBlock = some k → k < w2.heap.size := fun k e => o2.blkLt k e
  obtain ⟨N, hN⟩ : ∃ N, N = w2.heap.size := ⟨_, rfl⟩
  rw [← hN] at pB zB lq hsb
  have HSB := Lib.hid hsb; clear hsb
  clear q2 o2 i2 j2 r2 g2 H zW
  obtain ⟨H0, hH0⟩ := htsR_exist W T xs L0
  obtain ⟨H1, hH1⟩ := htsR_exist W T xs L1
  have l0b := hH0.len
  have l1b := hH1.len
  obtain ⟨m, hml⟩ : ∃ m, m = H0.length := ⟨_, rfl⟩
  obtain ⟨q, hql⟩ : ∃ q, q = H1.length := ⟨_, rfl⟩
  rw [← hml] at l0b
  rw [← hql] at l1b
  have HH0 := Lib.hid hH0; clear hH0
  have HH1 := Lib.hid hH1; clear hH1
  have HML := Lib.hid hml; clear hml
  have HQL := Lib.hid hql; clear hql
  obtain ⟨c0, c1, c2⟩ := cells3 pB
  go_wp2_with fail
  rw [← hwB, ← hN]
  clear hwB hN
  refine (sHeightsOf_ret _ _ _ _ _ xs _ _ _ L0 H0 _ HM.out (by omega) HQ.out (by omega) (OwnsB.at OB.out) IB.out HH0.out).mono ?_; rintro e w3 ⟨la, lcap, rfl, ho3, hb3⟩
  rw [← HML.out] at ho3 ⊢
  have p3 := heap_later pB hb3
  have q3 := heap_later qB hb3
  have O3 := Lib.hid (OB.out.below hb3)
  have J3 := Lib.hid (JB.out.below hb3)
  have R3 := Lib.hid (RB.out.below hb3)
  have G3 := Lib.hid (grown_seq' GB.out (grown_of_below' hb3 (some rb)))
  have I3 := Lib.hid ho3
  have z3 := hb3.size
  clear ho3 hb3 pB qB OB IB JB RB GB c0 c1 c2
  obtain ⟨c0, c1, c2⟩ := cells3 p3
  go_wp2_with fail
  refine (sHeightsOf_ret _ _ _ _ _ xs _ _ _ L1 H1 _ HM.out (by omega) HP.out (by omega) (OwnsB.at O3.out) J3.out HH1.out).mono ?_; rintro e w4 ⟨lb, bcap, rfl, ho4, hb4⟩
  rw [← HQL.out] at ho4 ⊢
  have p4 := heap_later p3 hb4
  have q4 := heap_later q3 hb4
  have O4 := Lib.hid (O3.out.below hb4)
  have I4 := Lib.hid (I3.out.below hb4)
  have R4 := Lib.hid (R3.out.below hb4)
  have G4 := Lib.hid (grown_seq' G3.out (grown_of_below' hb4 (some rb)))
  have J4 := Lib.hid ho4
  have HG : Hid (∀ k, (Value.slice la m lcap).ownBlock = some k → k < w3.heap.size) := fun k e => (World.ownsRow.lt I3.out k e).2
  have z4 := hb4.size
  clear ho4 hb4 p3 q3 O3 J3 R3 G3 I3 c0 c1 c2
  go_wp2_with fail
  refine (odd_any rb _ 6 _ (by omega) (by omega) (by omega) R4.out).mono ?_; rintro e w5 ⟨b5, rfl, r5, g5⟩
  have p5 := heap_grown p4 g5 (by intro e; have := Option.some.inj e; omega)
  have q5 := heap_grown q4 g5 (by intro e; have := Option.some.inj e; omega)
  have O5 := Lib.hid (O4.out.keptBy g5 (fun k e => by have := Option.some.inj e; omega))
  have I5 := Lib.hid (I4.out.keptBy g5 (fun k e => by have := Option.some.inj e; omega))
  have J5 := Lib.hid (J4.out.keptBy g5 (fun k e => by have := Option.some.inj e; omega))
  have G5 := Lib.hid (grown_seq' G4.out g5)
  have R5 := Lib.hid r5
  clear r5 g5 p4 q4 O4 I4 J4 R4 G4
  obtain ⟨c0, c1, c2⟩ := cells3 p5
  by_cases hb : b5 = true ∧ 0 < m
  · obtain ⟨rfl, hmp⟩ := hb
    have hmp' : 0 < (m : Int) := by omega
    go_wp2_with fail
    refine (pick_any rb _ m _ (by omega) (by omega) (by omega) R5.out).mono ?_; rintro e w6 ⟨x6, hx6, rfl, r6, g6⟩
    have p6 := heap_grown p5 g6 (by intro e; have := Option.some.inj e; omega)
    have q6 := heap_grown q5 g6 (by intro e; have := Option.some.inj e; omega)
    have O6 := Lib.hid (O5.out.keptBy g6 (fun k e => by have := Option.some.inj e; omega))
    have I6 := Lib.hid (I5.out.keptBy g6 (fun k e => by have := Option.some.inj e; omega))
    have J6 := Lib.hid (J5.out.keptBy g6 (fun k e => by have := Option.some.inj e; omega))
    have G6 := Lib.hid (grown_seq' G5.out g6)
    have R6 := Lib.hid r6
    clear r6 g6 p5 q5 O5 I5 J5 R5 G5 c0 c1 c2
    go_wp2_with fail
    refine (pick_any rb _ 9 _ (by omega) (by omega) (by omega) R6.out).mono ?_; rintro e w7 ⟨x7, hx7, rfl, r7, g7⟩
    have p7 := heap_grown p6 g7 (by intro e; have := Option.some.inj e; omega)
    have q7 := heap_grown q6 g7 (by intro e; have := Option.some.inj e; omega)
    have O7 := O6.out.keptBy g7 (fun k e => by have := Option.some.inj e; omega)
    have I7 := I6.out.keptBy g7 (fun k e => by have := Option.some.inj e; omega)
    have J7 := J6.out.keptBy g7 (fun k e => by have := Option.some.inj e; omega)
    have G7 := grown_seq' G6.out g7
    have R7 := r7
    clear g7 p6 q6 O6 I6 J6 R6 G6
    rcases I7.forms with ⟨e0, e1⟩ | ⟨g, gc, hv, hg1, hg2⟩
    · exfalso; have := HML.out; rw [e1] at this; simp at this; omega
    rw [← HML.out] at hv
    simp only [Value.slice.injEq] at hv
    obtain ⟨rfl, -, rfl⟩ := hv
    have hgl : g < w3.heap.size := HG.out g rfl
    have hcx := I7.cell (k := x6) (by have := HML.out; omega)
    have hfx := I7.free x6
    have e9 : (x6 : Int) < m := by omega
    have hw7 : IntKind.i64.wrap ((x7 : Int) - 4) = (x7 : Int) - 4 := IntWalk.i64_in _ (by omega)
    obtain ⟨wS, hwS⟩ : ∃ wS, wS = w7.setCell ⟨g, x6, none⟩ (.int .i64 ((x7 : Int) - 4)) := ⟨_, rfl⟩
    have IS := (I7.set x6 ((x7 : Int) - 4)).1
    have pS : wS.heap[N]? = some (.cells #[.int .i64 W, .int .i64 T, .slice a n c] 25 (0, 0)) := by rw [hwS]; exact heap_set_other p7 (by simp; omega) _
    have qS : wS.heap[w.heap.size]? = some (.cells #[.int .i64 0, .int .i64 0, .slice none 0 0] 25 (0, 0)) := by rw [hwS]; exact heap_set_other q7 (by simp; omega) _
    have OS : Hid (OwnsB wS (w.heap.size + 1) (.slice a n c) xs) := by
      rw [hwS]
      refine World.ownsRow.kept O7 (I7.set x6 ((x7 : Int) - 4)).2 ?_
      cases hk : (Value.slice a n c).ownBlock with
      | none => exact Or.inl rfl
      | some k => exact Or.inr (fun e => by have h1 := HSB.out k hk; have := Option.some.inj e; omega)
    have JS : Hid (OwnsI wS w3.heap.size (.slice lb q bcap) H1) := by rw [hwS]; exact J7.setBelow (p := ⟨g, x6, none⟩) (by simpa using hgl) _
    have RS : Hid (RD wS rb (P + 700)) := by rw [hwS]; exact (R7.setFar (g := g) (by omega) _).mono (by omega)
    have GS : Hid (w.grownBy wS (some rb)) := by rw [hwS]; exact grown_far G7 (by omega) _
    rw [← hwS] at IS
    have ISH := Lib.hid IS; clear IS
    have HWS := Lib.hid hwS; clear hwS
    go_upto_region 6 with fail
    rw [← HWS.out]
    clear HWS
    obtain ⟨d0, d1, d2⟩ := cells3 qS
    obtain ⟨c0, c1, c2⟩ := cells3 pS
    have f0 := free3 qS 0
    have f1 := free3 qS 1
    have f2 := free3 qS 2
    go_wp2
    refine bodyPost_ret (v := .tuple #[.agg #[.int .i64 W, .int .i64 T, .slice a n c], .slice (some ⟨g, 0, none⟩) m lcap, .slice lb q bcap]) (by simp [results, Try.results83, go_sem, d0, d1, d2]) rfl ⟨W, T, a, n, c, xs, (some ⟨g, 0, none⟩), m, lcap, (H0.set x6 ((x7 : Int) - 4)), lb, q, bcap, H1, rfl, HM.out, h36, hs, (OS.out.set3 (by omega) _ _ _).lower (by omega), by rw [List.length_set]; exact HML.out, by omega, (own_set3 ISH.out (by omega) _ _ _).lower (by omega), HQL.out, by omega, (own_set3 JS.out (by omega) _ _ _).lower (by omega), (((RS.out.setFar lr _).setFar lr _).setFar lr _).mono (by omega), grown_far (grown_far (grown_far GS.out (Nat.le_refl _) _) (Nat.le_refl _) _) (Nat.le_refl _) _⟩
  · have hbb : (b5 && decide (0 < (m : Int))) = false := by
      cases b5
      · rfl
      · simp; by_cases h : m = 0
        · exact h
        · exact absurd ⟨rfl, by omega⟩ hb
    obtain ⟨d0, d1, d2⟩ := cells3 q5
    have f0 := free3 q5 0
    have f1 := free3 q5 1
    have f2 := free3 q5 2
    cases b5
    · clear hbb hb
      go_wp2
      refine bodyPost_ret (v := .tuple #[.agg #[.int .i64 W, .int .i64 T, .slice a n c], .slice la m lcap, .slice lb q bcap]) (by simp [results, Try.results83, go_sem, d0, d1, d2]) rfl ⟨W, T, a, n, c, xs, la, m, lcap, H0, lb, q, bcap, H1, rfl, HM.out, h36, hs, (O5.out.set3 (by omega) _ _ _).lower (by omega), HML.out, by omega, (own_set3 I5.out (by omega) _ _ _).lower (by omega), HQL.out, by omega, (own_set3 J5.out (by omega) _ _ _).lower (by omega), (((R5.out.setFar lr _).setFar lr _).setFar lr _).mono (by omega), grown_far (grown_far (grown_far G5.out (Nat.le_refl _) _) (Nat.le_refl _) _) (Nat.le_refl _) _⟩
    · have hm0 : m = 0 := by
        by_cases h : m = 0
        · exact h
        · exact absurd ⟨rfl, by omega⟩ hb
      clear hbb hb
      subst hm0
      go_wp2
      refine bodyPost_ret (v := .tuple #[.agg #[.int .i64 W, .int .i64 T, .slice a n c], .slice la 0 lcap, .slice lb q bcap]) (by simp [results, Try.results83, go_sem, d0, d1, d2]) rfl ⟨W, T, a, n, c, xs, la, 0, lcap, H0, lb, q, bcap, H1, rfl, HM.out, h36, hs, (O5.out.set3 (by omega) _ _ _).lower (by omega), HML.out, by omega, (own_set3 I5.out (by omega) _ _ _).lower (by omega), HQL.out, by omega, (own_set3 J5.out (by omega) _ _ _).lower (by omega), (((R5.out.setFar lr _).setFar lr _).setFar lr _).mono (by omega), grown_far (grown_far (grown_far G5.out (Nat.le_refl _) _) (Nat.le_refl _) _) (Nat.le_refl _) _⟩
end Go.Proofs.Ytknigcjpgkolgaa
