/- Two regions are drawn of a code. -/
import Derived.Test.YtlgmnceicnhhnaaDrawSet
import Derived.Test.YtlgmnceicnhhnaaFlipM
namespace Go.Proofs.Ytlgmnceicnhhnaa
open Go.RowKit
set_option linter.unusedVariables false
set_option maxRecDepth 100000
set_option linter.unusedSimpArgs false

def PairR (B rb : Nat) (w : World) (e : Ending) (w' : World) : Prop :=
  ∃ (W T : Int) (a : Option Addr) (n cap : Nat) (xs : List Bool) (W' T' : Int) (a' : Option Addr) (n' cap' : Nat) (ys : List Bool), e = .returned (.tuple #[.agg #[.int .i64 W, .int .i64 T, .slice a n cap], .agg #[.int .i64 W', .int .i64 T', .slice a' n' cap']]) ∧ n = xs.length ∧ n ≤ 36 ∧ (0 ≤ W ∧ W ≤ 6 ∧ 0 ≤ T ∧ T ≤ 6) ∧ OwnsB w' B (.slice a n cap) xs ∧ n' = ys.length ∧ n' ≤ 36 ∧ (0 ≤ W' ∧ W' ≤ 6 ∧ 0 ≤ T' ∧ T' ≤ 6) ∧ OwnsB w' B (.slice a' n' cap') ys ∧ w.grownBy w' (some rb)
theorem OwnsB.drew1 {w : World} {B : Nat} {v : Value} {xs : List Bool} (h : OwnsB w B v xs) : OwnsB w.drew B v xs := h
theorem grown_drew1 {w x : World} {row : Option Nat} (h : w.grownBy x row) : w.grownBy x.drew row := ⟨h.os, h.tape, h.output, h.size, h.block⟩
theorem pair_end {w wz : World} {rb B0 n n' : Nat} {W T W' T' : Int} {a a' : Option Addr} {cap cap' : Nat} {xs ys : List Bool} (lr : rb < w.heap.size) (hn : n = xs.length) (h36 : n ≤ 36) (hs : 0 ≤ W ∧ W ≤ 6 ∧ 0 ≤ T ∧ T ≤ 6) (O : OwnsB wz B0 (.slice a n cap) xs) (hB : w.heap.size + 1 < B0) (M2 : n' = ys.length ∧ n' ≤ 36 ∧ (0 ≤ W' ∧ W' ≤ 6 ∧ 0 ≤ T' ∧ T' ≤ 6)) {B1 : Nat} (O' : OwnsB wz B1 (.slice a' n' cap') ys) (hB' : w.heap.size + 1 < B1) (G : w.grownBy wz (some rb)) (x y z x' y' z' : Value) :
    PairR w.heap.size rb w (.returned (.tuple #[.agg #[.int .i64 W, .int .i64 T, .slice a n cap], .agg #[.int .i64 W', .int .i64 T', .slice a' n' cap']])) (World.drew ((((((wz.setCell ⟨w.heap.size, 0, none⟩ x).setCell ⟨w.heap.size, 1, none⟩ y).setCell ⟨w.heap.size, 2, none⟩ z).setCell ⟨w.heap.size + 1, 0, none⟩ x').setCell ⟨w.heap.size + 1, 1, none⟩ y').setCell ⟨w.heap.size + 1, 2, none⟩ z')) := by
  have GD : w.grownBy ((((((wz.setCell ⟨w.heap.size, 0, none⟩ x).setCell ⟨w.heap.size, 1, none⟩ y).setCell ⟨w.heap.size, 2, none⟩ z).setCell ⟨w.heap.size + 1, 0, none⟩ x').setCell ⟨w.heap.size + 1, 1, none⟩ y').setCell ⟨w.heap.size + 1, 2, none⟩ z') (some rb) := grown_far (grown_far (grown_far (grown_far (grown_far (grown_far G (Nat.le_refl _) x) (Nat.le_refl _) y) (Nat.le_refl _) z) (by omega) x') (by omega) y') (by omega) z'
  have OD := ((O.set3 (b := w.heap.size) (by omega) x y z).set3 (b := w.heap.size + 1) hB x' y' z').lower (B' := w.heap.size) (by omega)
  have OD' := ((O'.set3 (b := w.heap.size) (by omega) x y z).set3 (b := w.heap.size + 1) hB' x' y' z').lower (B' := w.heap.size) (by omega)
  exact ⟨W, T, a, n, cap, xs, W', T', a', n', cap', ys, rfl, hn, h36, hs, OD.drew1, M2.1, M2.2.1, M2.2.2, OD'.drew1, grown_drew1 GD⟩

theorem OwnsB.keptUp {w w' : World} {B : Nat} {v : Value} {xs : List Bool} {row : Option Nat} (h : OwnsB w B v xs) (hg : w.grownBy w' row) (hr : v.ownBlock = none ∨ v.ownBlock ≠ row) : OwnsB w' B v xs := World.ownsRow.kept h hg hr
theorem own_ne {v : Value} {N : Nat} (h : ∀ k, v.ownBlock = some k → k < N) {row : Option Nat} (hr : ∀ k, row = some k → N ≤ k) : v.ownBlock = none ∨ v.ownBlock ≠ row := by
  cases hv : v.ownBlock with
  | none => exact Or.inl rfl
  | some k => exact Or.inr fun e => by have := h k hv; have := hr k e.symm; omega

set_option maxHeartbeats 4000000 in
theorem l20Pair_any (rb P : Nat) (w : World) (hP : P ≤ 1000) (h : RD w rb P) :
    Calls Try.prog 74 #[.pointer (some ⟨rb, 0, none⟩)] w (PairR w.heap.size rb w) := by
  have lr := h.lt
  have H := Lib.hid h; clear h
  obtain ⟨i0, hi, hz0, hz1, hz2⟩ := info_parts infoBool
  go_enter Try.func74, Try.ntmps74
  go_wp2_with fail
  refine (l20Region_any rb P 12 _ (by omega) (by omega) (by omega) (H.out.below (below2 _ _ _))).mono ?_; rintro e w1 ⟨W, T, a, m, c, xs, rfl, hm, h36, hs, o1, r1, g1⟩
  have q1 := heap_grown (heap_later (heap_new w (.cells #[.int .i64 0, .int .i64 0, .slice none 0 0] 25)) (below1 _ (.cells #[.int .i64 0, .int .i64 0, .slice none 0 0] 25))) g1 (by simp; omega)
  have t1 := heap_grown (heap_new2 w (.cells #[.int .i64 0, .int .i64 0, .slice none 0 0] 25) (.cells #[.int .i64 0, .int .i64 0, .slice none 0 0] 25)) g1 (by simp; omega)
  have HM := Lib.hid hm; clear hm
  have O1' := Lib.hid (show OwnsB w1 (w.heap.size + 2) (.slice a m c) xs from by simpa using o1)
  have HBA := Lib.hid (OwnsB.blkLt o1)
  have R1 := Lib.hid r1
  have G1 := Lib.hid (grown_seq' (grown_of_below' (below2 w _ _) (some rb)) g1)
  have l1 := heap_lt t1
  clear o1 r1 g1
  -- the first region's variable
  have p1 := heap_new w1 (.cells #[.int .i64 W, .int .i64 T, .slice a m c] 25)
  go_wp2_with fail
  refine (l20Region_any rb (P + 100) 12 _ (by omega) (by omega) (by omega) (R1.out.below (below1 _ _))).mono ?_; rintro e w2 ⟨W2, T2, a2, m2, cp2, ys, rfl, hm2, h362, hs2, o2, r2, g2⟩
  have p2 := heap_grown p1 g2 (by simp; omega)
  have q2 := heap_grown (heap_later q1 (below1 _ _)) g2 (by simp; omega)
  have t2 := heap_grown (heap_later t1 (below1 _ _)) g2 (by simp; omega)
  have HM2 := Lib.hid hm2; clear hm2
  have O12 := Lib.hid (OwnsB.keptBy (O1'.out.alloc _) g2 (fun k e => by cases e; omega))
  have O22 := Lib.hid (o2.lower (show w1.heap.size ≤ _ by simp))
  have R2 := Lib.hid r2
  have G2 := Lib.hid (grown_seq' (grown_seq' G1.out (World.grownBy_alloc _ _ _)) g2)
  have l2 := heap_lt p2
  clear o2 r2 g2 p1 q1 t1
  obtain ⟨wA, hwA⟩ : ∃ wA, wA = w2.alloc (.cells #[.int .i64 W2, .int .i64 T2, .slice a2 m2 cp2] 25) := ⟨_, rfl⟩
  have pA : wA.heap[w1.heap.size]? = some (.cells #[.int .i64 W, .int .i64 T, .slice a m c] 25 (0, 0)) := by rw [hwA]; exact heap_later p2 (below1 _ _)
  have sA : wA.heap[w2.heap.size]? = some (.cells #[.int .i64 W2, .int .i64 T2, .slice a2 m2 cp2] 25 (0, 0)) := by rw [hwA]; exact heap_new _ _
  have qA : wA.heap[w.heap.size]? = some (.cells #[.int .i64 0, .int .i64 0, .slice none 0 0] 25 (0, 0)) := by rw [hwA]; exact heap_later q2 (below1 _ _)
  have tA : wA.heap[w.heap.size + 1]? = some (.cells #[.int .i64 0, .int .i64 0, .slice none 0 0] 25 (0, 0)) := by rw [hwA]; exact heap_later t2 (below1 _ _)
  have OA1 : Hid (OwnsB wA (w.heap.size + 2) (.slice a m c) xs) := by rw [hwA]; exact O12.out.alloc _
  have OA2 : Hid (OwnsB wA w1.heap.size (.slice a2 m2 cp2) ys) := by rw [hwA]; exact O22.out.alloc _
  have RA : Hid (RD wA rb (P + 200)) := by rw [hwA]; exact (R2.out.below (below1 _ _)).mono (by omega)
  have GA : Hid (w.grownBy wA (some rb)) := by rw [hwA]; exact grown_seq' G2.out (World.grownBy_alloc _ _ _)
  clear p2 q2 t2 O12 O22 R2 G2 R1 G1 O1'
  go_wp2_with fail
  rw [← hwA]
  clear hwA
  refine (pick_any rb (P + 200) 4 _ (by omega) (by omega) (by omega) RA.out).mono ?_; rintro e w3 ⟨x3, hx3, rfl, r3, g3⟩
  have p3 := heap_grown pA g3 (by simp; omega)
  have s3 := heap_grown sA g3 (by simp; omega)
  have q3 := heap_grown qA g3 (by simp; omega)
  have t3 := heap_grown tA g3 (by simp; omega)
  have O1 := Lib.hid (OwnsB.keptBy OA1.out g3 (fun k e => by cases e; omega))
  have O2 := Lib.hid (OwnsB.keptBy OA2.out g3 (fun k e => by cases e; omega))
  have R3 := Lib.hid r3
  have G3 := Lib.hid (grown_seq' GA.out g3)
  have l3 := heap_lt s3
  clear r3 g3 pA sA qA tA OA1 OA2 RA GA
  by_cases h0 : x3 = 0
  · subst h0
    obtain ⟨c0, c1, c2⟩ := cells3 p3
    obtain ⟨k0, k1, k2⟩ := cells3 s3
    obtain ⟨d0, d1, d2⟩ := cells3 q3
    obtain ⟨h0, h1, h2⟩ := cells3 t3
    have f0 := free3 q3 0
    have f1 := free3 q3 1
    have f2 := free3 q3 2
    have f3 := free3 t3 0
    have f4 := free3 t3 1
    have f5 := free3 t3 2
    go_wp2
    have hne1 : w.heap.size ≠ w1.heap.size := by omega
    have hne2 : w.heap.size ≠ w2.heap.size := by omega
    have hne3 : w.heap.size + 1 ≠ w1.heap.size := by omega
    have hne4 : w.heap.size + 1 ≠ w2.heap.size := by omega
    go_region_held3 (fun w' => w'.cell? ⟨w1.heap.size, 0, none⟩ = some (.int .i64 W) ∧ w'.cell? ⟨w1.heap.size, 1, none⟩ = some (.int .i64 T) ∧ w'.cell? ⟨w1.heap.size, 2, none⟩ = some (.slice a m c) ∧ w'.cell? ⟨w2.heap.size, 0, none⟩ = some (.int .i64 W2) ∧ w'.cell? ⟨w2.heap.size, 1, none⟩ = some (.int .i64 T2) ∧ w'.cell? ⟨w2.heap.size, 2, none⟩ = some (.slice a2 m2 cp2))
      (go_keep)
      (fail)
    go_wp2
    refine bodyPost_ret (v := .tuple #[.agg #[.int .i64 W, .int .i64 T, .slice a m c], .agg #[.int .i64 W2, .int .i64 T2, .slice a2 m2 cp2]]) (by simp [results, Try.results74, go_sem, d0, d1, d2, h0, h1, h2]) rfl ?_
    exact pair_end lr HM.out h36 hs O1.out (by omega) ⟨HM2.out, h362, hs2⟩ O2.out (by omega) G3.out _ _ _ _ _ _
  · have h0' : 0 < (x3 : Int) := by omega
    obtain ⟨c0, c1, c2⟩ := cells3 p3
    go_wp2_with fail
    refine (sRegionValid_any _ _ _ _ _ xs _ HM.out (by omega) (OwnsB.at O1.out)).mono ?_; rintro e w4 ⟨rfl, hb4⟩
    have p4 := heap_later p3 hb4
    have s4 := heap_later s3 hb4
    have q4 := heap_later q3 hb4
    have t4 := heap_later t3 hb4
    have O14 := Lib.hid (O1.out.below hb4)
    have O24 := Lib.hid (O2.out.below hb4)
    have R4 := Lib.hid (R3.out.below hb4)
    have G4 := Lib.hid (grown_seq' G3.out (grown_of_below' hb4 _))
    have l4 := heap_lt s4
    clear p3 s3 q3 t3 O1 O2 R3 G3 c0 c1 c2 hb4
    have O1 := O14
    have O2 := O24
    obtain ⟨c0, c1, c2⟩ := cells3 p4
    obtain ⟨k0, k1, k2⟩ := cells3 s4
    obtain ⟨d0, d1, d2⟩ := cells3 q4
    obtain ⟨h0, h1, h2⟩ := cells3 t4
    have f0 := free3 q4 0
    have f1 := free3 q4 1
    have f2 := free3 q4 2
    have f3 := free3 t4 0
    have f4 := free3 t4 1
    have f5 := free3 t4 2
    cases hr : rv W T xs
    · clear hr
      go_wp2
      have hne1 : w.heap.size ≠ w1.heap.size := by omega
      have hne2 : w.heap.size ≠ w2.heap.size := by omega
      have hne3 : w.heap.size + 1 ≠ w1.heap.size := by omega
      have hne4 : w.heap.size + 1 ≠ w2.heap.size := by omega
      go_region_held3 (fun w' => w'.cell? ⟨w1.heap.size, 0, none⟩ = some (.int .i64 W) ∧ w'.cell? ⟨w1.heap.size, 1, none⟩ = some (.int .i64 T) ∧ w'.cell? ⟨w1.heap.size, 2, none⟩ = some (.slice a m c) ∧ w'.cell? ⟨w2.heap.size, 0, none⟩ = some (.int .i64 W2) ∧ w'.cell? ⟨w2.heap.size, 1, none⟩ = some (.int .i64 T2) ∧ w'.cell? ⟨w2.heap.size, 2, none⟩ = some (.slice a2 m2 cp2))
        (go_keep)
        (fail)
      go_wp2
      refine bodyPost_ret (v := .tuple #[.agg #[.int .i64 W, .int .i64 T, .slice a m c], .agg #[.int .i64 W2, .int .i64 T2, .slice a2 m2 cp2]]) (by simp [results, Try.results74, go_sem, d0, d1, d2, h0, h1, h2]) rfl ?_
      exact pair_end lr HM.out h36 hs O1.out (by omega) ⟨HM2.out, h362, hs2⟩ O2.out (by omega) G4.out _ _ _ _ _ _
    · clear hr
      have f6 := free3 s4 0
      have f7 := free3 s4 1
      have f8 := free3 s4 2
      have ne1 : w1.heap.size ≠ w2.heap.size := by omega
      have ne2 : w2.heap.size ≠ w1.heap.size := by omega
      go_wp2
      clear c0 c1 c2 k0 k1 k2 d0 d1 d2 h0 h1 h2 f0 f1 f2 f3 f4 f5 f6 f7 f8
      go_loopw [6] (fun i wr => ∃ (k : Nat) (v : Value) (L : List Bool), k ≤ m ∧ i = .int .i64 k ∧ L.length = k ∧ OwnsB wr (w2.heap.size + 1) v L ∧ wr.heap[w2.heap.size]? = some (.cells #[.int .i64 W, .int .i64 T, v] 25 (0, 0)) ∧ wr.heap[w1.heap.size]? = some (.cells #[.int .i64 W, .int .i64 T, .slice a m c] 25 (0, 0)) ∧ wr.heap[w.heap.size]? = some (.cells #[.int .i64 0, .int .i64 0, .slice none 0 0] 25 (0, 0)) ∧ wr.heap[w.heap.size + 1]? = some (.cells #[.int .i64 0, .int .i64 0, .slice none 0 0] 25 (0, 0)) ∧ OwnsB wr (w.heap.size + 2) (.slice a m c) xs ∧ RD wr rb (P + 201 + k) ∧ w.grownBy wr (some rb)) (fun i _ => m - (intOf i).toNat)
      case atStart =>
        refine ⟨0, .slice none 0 0, [], Nat.zero_le _, rfl, rfl, OwnsB.nil _ _, ?_, heap_set_other (heap_set_other (heap_set_other p4 (by simp; omega) _) (by simp; omega) _) (by simp; omega) _, heap_set_other (heap_set_other (heap_set_other q4 (by simp; omega) _) (by simp; omega) _) (by simp; omega) _, heap_set_other (heap_set_other (heap_set_other t4 (by simp; omega) _) (by simp; omega) _) (by simp; omega) _, ?_, (((R4.out.setFar (by omega) _).setFar (by omega) _).setFar (by omega) _).mono (by omega), grown_far (grown_far (grown_far G4.out (by omega) _) (by omega) _) (by omega) _⟩
        · have h1 := block_setCell (i := 0) s4 (.int .i64 W)
          have h2 := block_setCell (i := 1) h1 (.int .i64 T)
          have h3 := block_setCell (i := 2) h2 (.slice none 0 0)
          simpa using h3
        · have hx := own_ne HBA.out (row := some w2.heap.size) (fun k e => by cases e; omega)
          exact ((O1.out.keptUp (grown_set _ _ _ _) hx).keptUp (grown_set _ _ _ _) hx).keptUp (grown_set _ _ _ _) hx
      case round =>
        clear O1 O2 O14 O24 R4 G4 p4 s4 q4 t4
        obtain ⟨k, v, L, hk, rfl, hL, ho, sr, pr, qr, tr, ho1, rr, gr⟩ := hrel
        have R := Lib.hid rr; clear rr
        have G := Lib.hid gr; clear gr
        have O := Lib.hid ho; clear ho
        have O1 := Lib.hid ho1; clear ho1
        have HL := Lib.hid hL; clear hL
        obtain ⟨u0, u1, u2⟩ := cells3 sr
        obtain ⟨c0, c1, c2⟩ := cells3 pr
        have lX := heap_lt sr
        by_cases hlt : k < m
        · have e1 : (k : Int) < m := by omega
          have e0 : (0 : Int) ≤ k := by omega
          have HSD := Lib.hid (show (fun w' : World => w'.cell? ⟨w2.heap.size, 2, none⟩ = some v) wr.drew from u2)
          go_wp2
          refine wp_region_till (fun w' : World => w'.cell? ⟨w2.heap.size, 2, none⟩ = some v) 8 (by kernel_rfl) ?_
          refine Till.take (i := 0) (v := ?_) rfl (by kernel_rfl) (by kernel_rfl) (by kernel_rfl) (by kernel_rfl) (fun _ _ _ h => h) (Or.inl ⟨by kernel_rfl, ?_⟩) HSD.out ?_
          rotate_left
          · intro ws s1
            go_simp
            try with_reducible rfl
          try simp only [Act.put, List.setIfInBounds_toArray, List.set_cons_zero, List.set_cons_succ]
          refine Till.take (i := 1) (v := ?_) rfl (by kernel_rfl) (by kernel_rfl) (by kernel_rfl) (by kernel_rfl) (fun _ _ _ h => h) (Or.inl ⟨by kernel_rfl, ?_⟩) HSD.out ?_
          rotate_left
          · intro ws s1
            go_simp
            try with_reducible rfl
          try simp only [Act.put, List.setIfInBounds_toArray, List.set_cons_zero, List.set_cons_succ]
          refine Till.take (i := 2) (v := ?_) rfl (by kernel_rfl) (by kernel_rfl) (by kernel_rfl) (by kernel_rfl) (fun _ _ _ h => h) (Or.inl ⟨by kernel_rfl, ?_⟩) HSD.out ?_
          rotate_left
          · intro ws s1
            go_simp
            try with_reducible rfl
          try simp only [Act.put, List.setIfInBounds_toArray, List.set_cons_zero, List.set_cons_succ]

          clear HSD
          refine Till.one (i := 3) (by kernel_rfl) rfl (by rfl) (fun K hK => ?_)
          go_simp
          refine (pick_any rb (P + 201 + k) 2 _ (by omega) (by omega) (by omega) (show RD wr.drew _ _ from R.out)).mono ?_; rintro e w5 ⟨x4, hx4, rfl, r5, g5⟩
          have s5 := heap_grown (show wr.drew.heap[w2.heap.size]? = some _ from sr) g5 (by simp; omega)
          have p5 := heap_grown (show wr.drew.heap[w1.heap.size]? = some _ from pr) g5 (by simp; omega)
          have q5 := heap_grown (show wr.drew.heap[w.heap.size]? = some _ from qr) g5 (by simp; omega)
          have t5 := heap_grown (show wr.drew.heap[w.heap.size + 1]? = some _ from tr) g5 (by simp; omega)
          have O5 := Lib.hid (OwnsB.keptBy (show OwnsB wr.drew _ _ _ from O.out) g5 (fun k e => by cases e; omega))
          have O15 := Lib.hid (OwnsB.keptBy (show OwnsB wr.drew _ _ _ from O1.out) g5 (fun k e => by cases e; omega))
          have G5 := Lib.hid (grown_seq' G.out (grown_seq' (grown_drewN wr 1 _) g5))
          have R5 := Lib.hid r5
          clear r5 g5
          clear u0 u1 u2 c0 c1 c2
          obtain ⟨u0, u1, u2⟩ := cells3 s5
          refine hK.out _ _ (fun _ => u2) ?_
          clear hK K
          have HSD := Lib.hid (show (fun w' : World => w'.cell? ⟨w2.heap.size, 2, none⟩ = some v) w5 from u2)
          try simp only [Act.put, List.setIfInBounds_toArray, List.set_cons_zero, List.set_cons_succ]
          refine Till.take (i := 4) (v := ?_) rfl (by kernel_rfl) (by kernel_rfl) (by kernel_rfl) (by kernel_rfl) (fun _ _ _ h => h) (Or.inl ⟨by kernel_rfl, ?_⟩) HSD.out ?_
          rotate_left
          · intro ws s1
            go_simp
            try with_reducible rfl
          try simp only [Act.put, List.setIfInBounds_toArray, List.set_cons_zero, List.set_cons_succ]
          obtain ⟨bv, hbv⟩ : ∃ bv : Bool, bv = ((x4 : Int) == 0) := ⟨_, rfl⟩
          try rw [← hbv]
          clear hbv HSD
          have WN := Lib.hid (show Below w5.heap.size w5 (w5.alloc (.cells #[.bool bv] 4)) from below1 _ _)
          have z5 := heap_lt s5
          refine Till.one (i := 5) (by kernel_rfl) rfl (by rfl) (fun K hK => ?_)
          go_simp
          refine hK.out _ _ (fun _ => cell_later WN.out u2) ?_
          clear hK K
          refine Till.one (i := 6) (by kernel_rfl) rfl (by rfl) (fun K hK => ?_)
          refine step_append_lies _ rfl _ _ 23 rfl (w2.heap.size + 1) 4 i0 (.bool false) 1 1 Try.underlying23 hi hz0 hz1 hz2 rfl (by decide) v k (L.map Value.bool) rfl (show World.ownsRow (w5.alloc _) _ _ _ _ _ _ from (O5.out.alloc _).row HL.out) ⟨w5.heap.size, 0, none⟩ 1 1 _ rfl rfl (new_bool w5 _) (one_bool _) (by omega) (by unfold maxLen; omega) (by omega) (by simp; omega) (w5.heap.size + 1) (by simp) ?_
          intro g' c' w6 hown' hgrow _ _
          have hrow := fun (b : Nat) (hb : b < w2.heap.size + 1) => O5.out.ownBlock hb
          have s6 := heap_grown (heap_later s5 WN.out) hgrow (hrow _ (by omega))
          have p6 := heap_grown (heap_later p5 WN.out) hgrow (hrow _ (by omega))
          have q6 := heap_grown (heap_later q5 WN.out) hgrow (hrow _ (by omega))
          have t6 := heap_grown (heap_later t5 WN.out) hgrow (hrow _ (by omega))
          have hrk := fun (k : Nat) (e : v.ownBlock = some k) => O5.out.ownAt (Nat.le_refl _) k e
          have R6 := Lib.hid ((R5.out.below WN.out).grown hgrow (fun k e => by have := hrk k e; omega))
          have G6 := Lib.hid (grown_own (grown_seq' G5.out (grown_of_below' WN.out (some rb))) hgrow (fun k e => by have := hrk k e; omega))
          have O16 := Lib.hid ((O15.out.below WN.out).keptUp hgrow (own_ne HBA.out (fun k e => by have := hrk k e; omega)))
          have O6 := Lib.hid (OwnsB.ofRow (xs := L ++ [bv]) hown' (by simp) (by simp [HL.out]))
          clear hown' hgrow hrow hrk
          obtain ⟨t0, t1', t2'⟩ := cells3 s6
          have e2 := free3 s6 2
          have l6 := heap_lt s6
          refine hK.out _ _ (fun _ => t2') ?_
          clear hK K
          refine Till.one (i := 7) (by kernel_rfl) rfl (by rfl) (fun K hK => ?_)
          go_simp
          refine hK.out _ _ (fun _ => t2') ?_
          clear hK K
          refine Till.one (i := 8) (by kernel_rfl) rfl (by rfl) (fun K hK => ?_)
          go_simp
          refine hK.out _ _ (fun h => absurd rfl h) ?_
          clear hK K
          refine Till.done (by kernel_rfl) ?_ _
          go_wp2
          go_roundw
          case rel => exact ⟨k + 1, _, L ++ [bv], by omega, by go_num, by simp [HL.out], O6.out.setBelow (by simp) _, by simpa using block_setCell s6 (i := 2) _, heap_set_other p6 (by simp; omega) _, heap_set_other q6 (by simp; omega) _, heap_set_other t6 (by simp; omega) _, O16.out.keptUp (grown_set _ _ _ _) (own_ne HBA.out (fun k e => by cases e; omega)), (R6.out.setFar (by omega) _).mono (by omega), grown_far G6.out (by omega) _⟩
          case measure => simp [intOf]; omega
        · obtain rfl : k = m := by omega
          obtain ⟨a9, cap9, hv⟩ := O.out.form2
          rw [HL.out] at hv
          subst hv
          obtain ⟨d0, d1, d2⟩ := cells3 qr
          obtain ⟨h0, h1, h2⟩ := cells3 tr
          have f0 := free3 qr 0
          have f1 := free3 qr 1
          have f2 := free3 qr 2
          have f3 := free3 tr 0
          have f4 := free3 tr 1
          have f5 := free3 tr 2
          go_wp2
          have hne1 : w.heap.size ≠ w1.heap.size := by omega
          have hne2 : w.heap.size ≠ w2.heap.size := by omega
          have hne3 : w.heap.size + 1 ≠ w1.heap.size := by omega
          have hne4 : w.heap.size + 1 ≠ w2.heap.size := by omega
          go_region_held3 (fun w' => w'.cell? ⟨w1.heap.size, 0, none⟩ = some (.int .i64 W) ∧ w'.cell? ⟨w1.heap.size, 1, none⟩ = some (.int .i64 T) ∧ w'.cell? ⟨w1.heap.size, 2, none⟩ = some (.slice a k c) ∧ w'.cell? ⟨w2.heap.size, 0, none⟩ = some (.int .i64 W) ∧ w'.cell? ⟨w2.heap.size, 1, none⟩ = some (.int .i64 T) ∧ w'.cell? ⟨w2.heap.size, 2, none⟩ = some (.slice a9 k cap9))
            (go_keep)
            (fail)
          go_wp2
          refine bodyPost_ret (v := .tuple #[.agg #[.int .i64 W, .int .i64 T, .slice a k c], .agg #[.int .i64 W, .int .i64 T, .slice a9 k cap9]]) (by simp [results, Try.results74, go_sem, d0, d1, d2, h0, h1, h2]) rfl ?_
          exact pair_end lr HM.out h36 hs O1.out (by omega) ⟨HL.out.symm, h36, hs⟩ O.out (by omega) G.out _ _ _ _ _ _

end Go.Proofs.Ytlgmnceicnhhnaa
