/- Contracts of spec.RegionJoin. -/
import Derived.Test.YtlgmnceicnhhnaaJoin
import Derived.Test.YtlgmnceicnhhnaaMore2
import Derived.Test.YtlgmnceicnhhnaaTill
import Derived.Deep.AppendLies
namespace Go.Proofs.Ytlgmnceicnhhnaa
open Go.RowKit
set_option linter.unusedVariables false
set_option maxRecDepth 100000
set_option linter.unusedSimpArgs false

set_option maxHeartbeats 2000000 in
theorem sRegionJoin_no (W T W' T' : Int) (a a' : Option Addr) (n n' cap cap' : Nat) (xs ys : List Bool) (w : World) (hn : n = xs.length) (hn1 : n ≤ 1048576) (hm : n' = ys.length) (hm1 : n' ≤ 1048576) (ha : BoolsAt w a xs) (hb : BoolsAt w a' ys) (h : sameF W T W' T' xs ys = false) :
    Calls Try.prog 39 #[.agg #[.int .i64 W, .int .i64 T, .slice a n cap], .agg #[.int .i64 W', .int .i64 T', .slice a' n' cap']] w fun e w' => e = .returned (.tuple #[.agg #[.int .i64 0, .int .i64 0, .slice none 0 0], .bool false]) ∧ Below w.heap.size w w' := by
  have HN := Lib.hid hn; clear hn
  have HM := Lib.hid hm; clear hm
  have A3 := Lib.hid (ha.later (below3 w (.cells #[.int .i64 W, .int .i64 T, .slice a n cap] 25) (.cells #[.int .i64 W', .int .i64 T', .slice a' n' cap'] 25) (.cells #[.int .i64 0, .int .i64 0, .slice none 0 0] 25)) (Nat.le_refl _)); clear ha
  have B3 := Lib.hid (hb.later (below3 w (.cells #[.int .i64 W, .int .i64 T, .slice a n cap] 25) (.cells #[.int .i64 W', .int .i64 T', .slice a' n' cap'] 25) (.cells #[.int .i64 0, .int .i64 0, .slice none 0 0] 25)) (Nat.le_refl _)); clear hb
  cases h1 : rv W T xs
  · clear h
    go_enter Try.func39, Try.ntmps39
    go_wp2_with fail
    refine (sRegionValid_any _ _ _ _ _ xs _ HN.out hn1 A3.out).mono ?_; rintro e w1 ⟨rfl, hb1⟩
    have b1 := below_seq (below3 w (.cells #[.int .i64 W, .int .i64 T, .slice a n cap] 25) (.cells #[.int .i64 W', .int .i64 T', .slice a' n' cap'] 25) (.cells #[.int .i64 0, .int .i64 0, .slice none 0 0] 25)) hb1
    have p1 := heap_later (heap_later (heap_later (heap_new w _) (below1 _ _)) (below1 _ _)) hb1
    have s1 := heap_later (heap_later (heap_new2 w _ _) (below1 _ _)) hb1
    have q1 := heap_later (heap_new3 w _ _ _) hb1
    have B1 := Lib.hid (B3.out.below hb1)
    obtain ⟨d0, d1, d2⟩ := cells3 q1
    have e0 := free3 q1 0
    have e1 := free3 q1 1
    have e2 := free3 q1 2
    go_wp2
    exact bodyPost_ret (v := .tuple #[.agg #[.int .i64 0, .int .i64 0, .slice none 0 0], .bool false]) (by simp [results, Try.results39, go_sem, d0, d1, d2]) rfl ⟨rfl, below_set3 b1 (by omega) _ _ _⟩
  · cases h2 : rv W' T' ys
    · clear h
      go_enter Try.func39, Try.ntmps39
      go_wp2_with fail
      refine (sRegionValid_any _ _ _ _ _ xs _ HN.out hn1 A3.out).mono ?_; rintro e w1 ⟨rfl, hb1⟩
      have b1 := below_seq (below3 w (.cells #[.int .i64 W, .int .i64 T, .slice a n cap] 25) (.cells #[.int .i64 W', .int .i64 T', .slice a' n' cap'] 25) (.cells #[.int .i64 0, .int .i64 0, .slice none 0 0] 25)) hb1
      have p1 := heap_later (heap_later (heap_later (heap_new w _) (below1 _ _)) (below1 _ _)) hb1
      have s1 := heap_later (heap_later (heap_new2 w _ _) (below1 _ _)) hb1
      have q1 := heap_later (heap_new3 w _ _ _) hb1
      have B1 := Lib.hid (B3.out.below hb1)
      obtain ⟨c0, c1, c2⟩ := cells3 s1
      go_wp2_with fail
      refine (sRegionValid_any _ _ _ _ _ ys _ HM.out hm1 B1.out).mono ?_; rintro e w2 ⟨rfl, hb2⟩
      clear c0 c1 c2
      have b2 := below_seq b1 hb2
      have p2 := heap_later p1 hb2
      have s2 := heap_later s1 hb2
      have q2 := heap_later q1 hb2
      clear p1 s1 q1
      obtain ⟨d0, d1, d2⟩ := cells3 q2
      have e0 := free3 q2 0
      have e1 := free3 q2 1
      have e2 := free3 q2 2
      go_wp2
      exact bodyPost_ret (v := .tuple #[.agg #[.int .i64 0, .int .i64 0, .slice none 0 0], .bool false]) (by simp [results, Try.results39, go_sem, d0, d1, d2]) rfl ⟨rfl, below_set3 b2 (by omega) _ _ _⟩
    · by_cases hw : W = W'
      · by_cases ht : T = T'
        · exfalso; simp [sameF, h1, h2, hw, ht] at h
          rw [hw, ht] at h1; simp [h1] at h
        · clear h
          have hw1 : (W != W') = false := by simpa using hw
          have ht1 : (T != T') = true := by simpa using ht
          have HW := Lib.hid hw; clear hw ht
          go_enter Try.func39, Try.ntmps39
          go_wp2_with fail
          refine (sRegionValid_any _ _ _ _ _ xs _ HN.out hn1 A3.out).mono ?_; rintro e w1 ⟨rfl, hb1⟩
          have b1 := below_seq (below3 w (.cells #[.int .i64 W, .int .i64 T, .slice a n cap] 25) (.cells #[.int .i64 W', .int .i64 T', .slice a' n' cap'] 25) (.cells #[.int .i64 0, .int .i64 0, .slice none 0 0] 25)) hb1
          have p1 := heap_later (heap_later (heap_later (heap_new w _) (below1 _ _)) (below1 _ _)) hb1
          have s1 := heap_later (heap_later (heap_new2 w _ _) (below1 _ _)) hb1
          have q1 := heap_later (heap_new3 w _ _ _) hb1
          have B1 := Lib.hid (B3.out.below hb1)
          obtain ⟨c0, c1, c2⟩ := cells3 s1
          go_wp2_with fail
          refine (sRegionValid_any _ _ _ _ _ ys _ HM.out hm1 B1.out).mono ?_; rintro e w2 ⟨rfl, hb2⟩
          clear c0 c1 c2
          have b2 := below_seq b1 hb2
          have p2 := heap_later p1 hb2
          have s2 := heap_later s1 hb2
          have q2 := heap_later q1 hb2
          clear p1 s1 q1
          obtain ⟨x0, x1, x2⟩ := cells3 p2
          obtain ⟨y0, y1, y2⟩ := cells3 s2
          obtain ⟨d0, d1, d2⟩ := cells3 q2
          have e0 := free3 q2 0
          have e1 := free3 q2 1
          have e2 := free3 q2 2
          go_wp2
          exact bodyPost_ret (v := .tuple #[.agg #[.int .i64 0, .int .i64 0, .slice none 0 0], .bool false]) (by simp [results, Try.results39, go_sem, d0, d1, d2]) rfl ⟨rfl, below_set3 b2 (by omega) _ _ _⟩
      · clear h
        have hw1 : (W != W') = true := by simpa using hw
        clear hw
        go_enter Try.func39, Try.ntmps39
        go_wp2_with fail
        refine (sRegionValid_any _ _ _ _ _ xs _ HN.out hn1 A3.out).mono ?_; rintro e w1 ⟨rfl, hb1⟩
        have b1 := below_seq (below3 w (.cells #[.int .i64 W, .int .i64 T, .slice a n cap] 25) (.cells #[.int .i64 W', .int .i64 T', .slice a' n' cap'] 25) (.cells #[.int .i64 0, .int .i64 0, .slice none 0 0] 25)) hb1
        have p1 := heap_later (heap_later (heap_later (heap_new w _) (below1 _ _)) (below1 _ _)) hb1
        have s1 := heap_later (heap_later (heap_new2 w _ _) (below1 _ _)) hb1
        have q1 := heap_later (heap_new3 w _ _ _) hb1
        have B1 := Lib.hid (B3.out.below hb1)
        obtain ⟨c0, c1, c2⟩ := cells3 s1
        go_wp2_with fail
        refine (sRegionValid_any _ _ _ _ _ ys _ HM.out hm1 B1.out).mono ?_; rintro e w2 ⟨rfl, hb2⟩
        clear c0 c1 c2
        have b2 := below_seq b1 hb2
        have p2 := heap_later p1 hb2
        have s2 := heap_later s1 hb2
        have q2 := heap_later q1 hb2
        clear p1 s1 q1
        obtain ⟨x0, x1, x2⟩ := cells3 p2
        obtain ⟨y0, y1, y2⟩ := cells3 s2
        obtain ⟨d0, d1, d2⟩ := cells3 q2
        have e0 := free3 q2 0
        have e1 := free3 q2 1
        have e2 := free3 q2 2
        go_wp2
        exact bodyPost_ret (v := .tuple #[.agg #[.int .i64 0, .int .i64 0, .slice none 0 0], .bool false]) (by simp [results, Try.results39, go_sem, d0, d1, d2]) rfl ⟨rfl, below_set3 b2 (by omega) _ _ _⟩

set_option maxHeartbeats 4000000 in
theorem sRegionJoin_yes (W T W' T' : Int) (a a' : Option Addr) (n n' cap cap' : Nat) (xs ys : List Bool) (w : World) (hn : n = xs.length) (hn1 : n ≤ 1048576) (hm : n' = ys.length) (hm1 : n' ≤ 1048576) (ha : BoolsAt w a xs) (hb : BoolsAt w a' ys) (h : sameF W T W' T' xs ys = true) (hj : rv W T (joinB xs ys) = true) :
    Calls Try.prog 39 #[.agg #[.int .i64 W, .int .i64 T, .slice a n cap], .agg #[.int .i64 W', .int .i64 T', .slice a' n' cap']] w fun e w' => ∃ g c, e = .returned (.tuple #[.agg #[.int .i64 W, .int .i64 T, .slice (some ⟨g, 0, none⟩) n c], .bool true]) ∧ OwnsB w' (w.heap.size + 3) (.slice (some ⟨g, 0, none⟩) n c) (joinB xs ys) ∧ Below w.heap.size w w' := by
  obtain ⟨h1, h2, h3, h4, h5⟩ := sameF_true h
  obtain ⟨v1, v2, v3, v4, v5, _⟩ := rv_true h1
  have hnn : n' = n := by rw [hn, hm, h5]
  subst hnn
  have hwt := mul_bd v1 v2 v3 v4
  have hnW : (n' : Int) = W * T := by rw [hn]; exact v5
  have hp : 0 < n' := by omega
  have hw1 : (W != W') = false := by simpa using h3
  have ht1 : (T != T') = false := by simpa using h4
  obtain ⟨i0, hi, hz0, hz1, hz2⟩ := info_parts infoBool
  have HNW := Lib.hid hnW; clear hnW v5 h3 h4 h5 h
  have HA := Lib.hid ha
  have HB := Lib.hid hb
  have HN := Lib.hid hn; clear hn
  have HM := Lib.hid hm; clear hm
  have A3 := Lib.hid (ha.later (below3 w (.cells #[.int .i64 W, .int .i64 T, .slice a n' cap] 25) (.cells #[.int .i64 W', .int .i64 T', .slice a' n' cap'] 25) (.cells #[.int .i64 0, .int .i64 0, .slice none 0 0] 25)) (Nat.le_refl _)); clear ha
  have B3 := Lib.hid (hb.later (below3 w (.cells #[.int .i64 W, .int .i64 T, .slice a n' cap] 25) (.cells #[.int .i64 W', .int .i64 T', .slice a' n' cap'] 25) (.cells #[.int .i64 0, .int .i64 0, .slice none 0 0] 25)) (Nat.le_refl _)); clear hb
  go_enter Try.func39, Try.ntmps39
  go_wp2_with fail
  refine (sRegionValid_any _ _ _ _ _ xs _ HN.out hn1 A3.out).mono ?_; rintro e w1 ⟨rfl, hb1⟩
  have b1 := below_seq (below3 w (.cells #[.int .i64 W, .int .i64 T, .slice a n' cap] 25) (.cells #[.int .i64 W', .int .i64 T', .slice a' n' cap'] 25) (.cells #[.int .i64 0, .int .i64 0, .slice none 0 0] 25)) hb1
  have p1 := heap_later (heap_later (heap_later (heap_new w _) (below1 _ _)) (below1 _ _)) hb1
  have s1 := heap_later (heap_later (heap_new2 w _ _) (below1 _ _)) hb1
  have q1 := heap_later (heap_new3 w _ _ _) hb1
  have B1 := Lib.hid (B3.out.below hb1)
  obtain ⟨c0, c1, c2⟩ := cells3 s1
  go_wp2_with fail
  refine (sRegionValid_any _ _ _ _ _ ys _ HM.out hn1 B1.out).mono ?_; rintro e w2 ⟨rfl, hb2⟩
  clear c0 c1 c2
  have b2 := below_seq b1 hb2
  have p2 := heap_later p1 hb2
  have s2 := heap_later s1 hb2
  have q2 := heap_later q1 hb2
  clear p1 s1 q1
  obtain ⟨x0, x1, x2⟩ := cells3 p2
  obtain ⟨y0, y1, y2⟩ := cells3 s2
  clear A3 B3 B1
  go_wp2
  have lp := heap_lt p2
  have ls := heap_lt s2
  have lq := heap_lt q2
  clear x0 x1 x2 y0 y1 y2
  go_loopw [7] (fun i wr => ∃ (k : Nat) (v : Value), k ≤ n' ∧ i = .int .i64 k ∧ OwnsB wr (w2.heap.size + 1) v (tab k (joinAt xs ys)) ∧ wr.heap[w.heap.size]? = some (.cells #[.int .i64 W, .int .i64 T, .slice a n' cap] 25 (0, 0)) ∧ wr.heap[w.heap.size + 1]? = some (.cells #[.int .i64 W', .int .i64 T', .slice a' n' cap'] 25 (0, 0)) ∧ wr.heap[w.heap.size + 2]? = some (.cells #[.int .i64 0, .int .i64 0, .slice none 0 0] 25 (0, 0)) ∧ wr.heap[w2.heap.size]? = some (.cells #[.int .i64 W, .int .i64 T, v] 25 (0, 0)) ∧ Below w.heap.size w wr) (fun i _ => n' - (intOf i).toNat)
  case atStart => exact ⟨0, _, Nat.zero_le _, rfl, OwnsB.nil _ _, heap_later p2 (below1 _ _), heap_later s2 (below1 _ _), heap_later q2 (below1 _ _), heap_new _ _, below_seq b2 (below1 _ _)⟩
  case round =>
    obtain ⟨k, v, hk, rfl, hown, pr, sr, qr, ur, hbel⟩ := hrel
    obtain ⟨x0, x1, x2⟩ := cells3 pr
    obtain ⟨y0, y1, y2⟩ := cells3 sr
    obtain ⟨u0, u1, u2⟩ := cells3 ur
    have l2 := heap_lt ur
    have HO := Lib.hid hown; clear hown
    by_cases hlt : k < n'
    · obtain ⟨b, off, rfl, hc0⟩ := HA.out k (by rw [← HN.out]; exact hlt)
      have hbl := World.block_lt_of_cell? w _ hc0
      simp only at hbl
      have hc := (hbel.cell (p := ⟨b, off + k, none⟩) hbl).trans hc0
      clear hc0
      obtain ⟨b', off', rfl, hc0⟩ := HB.out k (by rw [← HM.out]; exact hlt)
      have hbl' := World.block_lt_of_cell? w _ hc0
      simp only at hbl'
      have hc' := (hbel.cell (p := ⟨b', off' + k, none⟩) hbl').trans hc0
      clear hc0
      have e1 : (k : Int) < n' := by omega
      have e0 : (0 : Int) ≤ k := by omega
      have BEL := Lib.hid hbel; clear hbel
      obtain ⟨y, hy⟩ : ∃ y, y = ys.getD k false := ⟨_, rfl⟩
      rw [← hy] at hc'
      have HY := Lib.hid hy; clear hy
      have blk := HO.out.ownAt (B' := w.heap.size) (by omega)
      cases hx : xs.getD k false
      · rw [hx] at hc
        have hxy : joinAt xs ys k = (xs.getD k false || ys.getD k false) := rfl
        rw [hx, ← HY.out] at hxy
        have HXY := Lib.hid hxy; clear hxy
        have HX := Lib.hid hx; clear hx
        have BLK := Lib.hid blk; clear blk
        go_wp2
        have HSD := Lib.hid (show (fun w' : World => w'.cell? ⟨w2.heap.size, 2, none⟩ = some v ∧ w'.cell? ⟨w.heap.size, 2, none⟩ = some (.slice (some ⟨b, off, none⟩) n' cap) ∧ w'.cell? ⟨w.heap.size + 1, 2, none⟩ = some (.slice (some ⟨b', off', none⟩) n' cap') ∧ w'.cell? ⟨b, off + k, none⟩ = some (.bool false) ∧ w'.cell? ⟨b', off' + k, none⟩ = some (.bool y)) wr.drew from ⟨u2, x2, y2, hc, hc'⟩)
        refine wp_region_till (fun w' : World => w'.cell? ⟨w2.heap.size, 2, none⟩ = some v ∧ w'.cell? ⟨w.heap.size, 2, none⟩ = some (.slice (some ⟨b, off, none⟩) n' cap) ∧ w'.cell? ⟨w.heap.size + 1, 2, none⟩ = some (.slice (some ⟨b', off', none⟩) n' cap') ∧ w'.cell? ⟨b, off + k, none⟩ = some (.bool false) ∧ w'.cell? ⟨b', off' + k, none⟩ = some (.bool y)) 17 (by kernel_rfl) ?_
        refine Till.take (i := 0) (v := ?_) rfl (by kernel_rfl) (by kernel_rfl) (by kernel_rfl) (by kernel_rfl) (fun _ _ _ h => h) (Or.inl ⟨by kernel_rfl, ?_⟩) HSD.out ?_
        rotate_left
        · intro ws hsw
          obtain ⟨s1, s2, s3, s4, s5⟩ := hsw
          go_simp
          try with_reducible rfl
        try simp only [Act.put, List.setIfInBounds_toArray, List.set_cons_zero, List.set_cons_succ]
        refine Till.take (i := 1) (v := ?_) rfl (by kernel_rfl) (by kernel_rfl) (by kernel_rfl) (by kernel_rfl) (fun _ _ _ h => h) (Or.inl ⟨by kernel_rfl, ?_⟩) HSD.out ?_
        rotate_left
        · intro ws hsw
          obtain ⟨s1, s2, s3, s4, s5⟩ := hsw
          go_simp
          try with_reducible rfl
        try simp only [Act.put, List.setIfInBounds_toArray, List.set_cons_zero, List.set_cons_succ]
        refine Till.take (i := 2) (v := ?_) rfl (by kernel_rfl) (by kernel_rfl) (by kernel_rfl) (by kernel_rfl) (fun _ _ _ h => h) (Or.inl ⟨by kernel_rfl, ?_⟩) HSD.out ?_
        rotate_left
        · intro ws hsw
          obtain ⟨s1, s2, s3, s4, s5⟩ := hsw
          go_simp
          try with_reducible rfl
        try simp only [Act.put, List.setIfInBounds_toArray, List.set_cons_zero, List.set_cons_succ]
        refine Till.take (i := 3) (v := ?_) rfl (by kernel_rfl) (by kernel_rfl) (by kernel_rfl) (by kernel_rfl) (fun _ _ _ h => h) (Or.inl ⟨by kernel_rfl, ?_⟩) HSD.out ?_
        rotate_left
        · intro ws hsw
          obtain ⟨s1, s2, s3, s4, s5⟩ := hsw
          go_simp
          try with_reducible rfl
        try simp only [Act.put, List.setIfInBounds_toArray, List.set_cons_zero, List.set_cons_succ]
        refine Till.take (i := 4) (v := ?_) rfl (by kernel_rfl) (by kernel_rfl) (by kernel_rfl) (by kernel_rfl) (fun _ _ _ h => h) (Or.inl ⟨by kernel_rfl, ?_⟩) HSD.out ?_
        rotate_left
        · intro ws hsw
          obtain ⟨s1, s2, s3, s4, s5⟩ := hsw
          go_simp
          try with_reducible rfl
        try simp only [Act.put, List.setIfInBounds_toArray, List.set_cons_zero, List.set_cons_succ]
        refine Till.take (i := 5) (v := ?_) rfl (by kernel_rfl) (by kernel_rfl) (by kernel_rfl) (by kernel_rfl) (fun _ _ _ h => h) (Or.inl ⟨by kernel_rfl, ?_⟩) HSD.out ?_
        rotate_left
        · intro ws hsw
          obtain ⟨s1, s2, s3, s4, s5⟩ := hsw
          go_simp
          try with_reducible rfl
        try simp only [Act.put, List.setIfInBounds_toArray, List.set_cons_zero, List.set_cons_succ]
        refine Till.take (i := 6) (v := ?_) rfl (by kernel_rfl) (by kernel_rfl) (by kernel_rfl) (by kernel_rfl) (fun _ _ _ h => h) (Or.inl ⟨by kernel_rfl, ?_⟩) HSD.out ?_
        rotate_left
        · intro ws hsw
          obtain ⟨s1, s2, s3, s4, s5⟩ := hsw
          go_simp
          try with_reducible rfl
        try simp only [Act.put, List.setIfInBounds_toArray, List.set_cons_zero, List.set_cons_succ]
        refine Till.take (i := 7) (v := ?_) rfl (by kernel_rfl) (by kernel_rfl) (by kernel_rfl) (by kernel_rfl) (fun _ _ _ h => h) (Or.inl ⟨by kernel_rfl, ?_⟩) HSD.out ?_
        rotate_left
        · intro ws hsw
          obtain ⟨s1, s2, s3, s4, s5⟩ := hsw
          go_simp
          try with_reducible rfl
        try simp only [Act.put, List.setIfInBounds_toArray, List.set_cons_zero, List.set_cons_succ]
        refine Till.take (i := 8) (v := ?_) rfl (by kernel_rfl) (by kernel_rfl) (by kernel_rfl) (by kernel_rfl) (fun _ _ _ h => h) (Or.inl ⟨by kernel_rfl, ?_⟩) HSD.out ?_
        rotate_left
        · intro ws hsw
          obtain ⟨s1, s2, s3, s4, s5⟩ := hsw
          go_simp
          try with_reducible rfl
        try simp only [Act.put, List.setIfInBounds_toArray, List.set_cons_zero, List.set_cons_succ]
        refine Till.take (i := 9) (v := ?_) rfl (by kernel_rfl) (by kernel_rfl) (by kernel_rfl) (by kernel_rfl) (fun _ _ _ h => h) (Or.inl ⟨by kernel_rfl, ?_⟩) HSD.out ?_
        rotate_left
        · intro ws hsw
          obtain ⟨s1, s2, s3, s4, s5⟩ := hsw
          go_simp
          try with_reducible rfl
        try simp only [Act.put, List.setIfInBounds_toArray, List.set_cons_zero, List.set_cons_succ]
        refine Till.take (i := 10) (v := ?_) rfl (by kernel_rfl) (by kernel_rfl) (by kernel_rfl) (by kernel_rfl) (fun _ _ _ h => h) (Or.inl ⟨by kernel_rfl, ?_⟩) HSD.out ?_
        rotate_left
        · intro ws hsw
          obtain ⟨s1, s2, s3, s4, s5⟩ := hsw
          go_simp
          try with_reducible rfl
        try simp only [Act.put, List.setIfInBounds_toArray, List.set_cons_zero, List.set_cons_succ]
        refine Till.take (i := 11) (v := ?_) rfl (by kernel_rfl) (by kernel_rfl) (by kernel_rfl) (by kernel_rfl) (fun _ _ _ h => h) (Or.inl ⟨by kernel_rfl, ?_⟩) HSD.out ?_
        rotate_left
        · intro ws hsw
          obtain ⟨s1, s2, s3, s4, s5⟩ := hsw
          go_simp
          try with_reducible rfl
        try simp only [Act.put, List.setIfInBounds_toArray, List.set_cons_zero, List.set_cons_succ]
        refine Till.take (i := 12) (v := ?_) rfl (by kernel_rfl) (by kernel_rfl) (by kernel_rfl) (by kernel_rfl) (fun _ _ _ h => h) (Or.inl ⟨by kernel_rfl, ?_⟩) HSD.out ?_
        rotate_left
        · intro ws hsw
          obtain ⟨s1, s2, s3, s4, s5⟩ := hsw
          go_simp
          try with_reducible rfl
        try simp only [Act.put, List.setIfInBounds_toArray, List.set_cons_zero, List.set_cons_succ]
        refine Till.take (i := 13) (v := ?_) rfl (by kernel_rfl) (by kernel_rfl) (by kernel_rfl) (by kernel_rfl) (fun _ _ _ h => h) (Or.inl ⟨by kernel_rfl, ?_⟩) HSD.out ?_
        rotate_left
        · intro ws hsw
          obtain ⟨s1, s2, s3, s4, s5⟩ := hsw
          go_simp
          try with_reducible rfl
        try simp only [Act.put, List.setIfInBounds_toArray, List.set_cons_zero, List.set_cons_succ]
        have WN := Lib.hid (show Below wr.heap.size wr (World.drew (wr.alloc (.cells #[.bool y] 4))) from below_seq (below1 _ _) (drew_below _))
        refine Till.one (i := 14) (by kernel_rfl) rfl (by rfl) (fun K hK => ?_)
        go_simp
        refine hK.out _ _ (fun _ => ⟨cell_later WN.out u2, cell_later WN.out x2, cell_later WN.out y2, cell_later WN.out hc, cell_later WN.out hc'⟩) ?_
        clear hK K
        refine Till.one (i := 15) (by kernel_rfl) rfl (by rfl) (fun K hK => ?_)
        refine step_append_lies _ rfl _ _ 23 rfl (w2.heap.size + 1) 4 i0 (.bool false) 1 1 Try.underlying23 hi hz0 hz1 hz2 rfl (by decide) v k ((tab k (joinAt xs ys)).map Value.bool) rfl (show World.ownsRow (World.drew (wr.alloc _)) _ _ _ _ _ _ from (HO.out.alloc _).row (tab_len _ _)) ⟨wr.heap.size, 0, none⟩ 1 1 _ rfl rfl (new_bool wr _) (one_bool _) (by omega) (by unfold maxLen; omega) (by omega) (by simp; omega) (wr.heap.size + 1) (by simp) ?_
        intro g' c' w5 hown' hgrow _ _
        have p5 := heap_grown (heap_later pr WN.out) hgrow (HO.out.ownBlock (by omega))
        have s5 := heap_grown (heap_later sr WN.out) hgrow (HO.out.ownBlock (by omega))
        have q5 := heap_grown (heap_later qr WN.out) hgrow (HO.out.ownBlock (by omega))
        have u5 := heap_grown (heap_later ur WN.out) hgrow (HO.out.ownBlock (by omega))
        have h5 := World.grownBy.cell hgrow (cell_later WN.out hc) (fun e => HO.out.ownBlock (b := b) (by omega) e.symm)
        have h5' := World.grownBy.cell hgrow (cell_later WN.out hc') (fun e => HO.out.ownBlock (b := b') (by omega) e.symm)
        have B5 := Lib.hid (below_grown (below_seq BEL.out WN.out) hgrow (Nat.le_refl _) BLK.out)
        have O5 := Lib.hid (OwnsB.ofRow (xs := tab (k + 1) (joinAt xs ys)) hown' (by rw [tab_snoc, HXY.out]; simp) (tab_len _ _))
        clear hown' hgrow
        obtain ⟨t0, t1, t2⟩ := cells3 u5
        have e2 := free3 u5 2
        refine hK.out _ _ (fun _ => ⟨t2, (cells3 p5).2.2, (cells3 s5).2.2, h5, h5'⟩) ?_
        clear hK K
        refine Till.one (i := 16) (by kernel_rfl) rfl (by rfl) (fun K hK => ?_)
        go_simp
        refine hK.out _ _ (fun _ => ⟨t2, (cells3 p5).2.2, (cells3 s5).2.2, h5, h5'⟩) ?_
        clear hK K
        refine Till.one (i := 17) (by kernel_rfl) rfl (by rfl) (fun K hK => ?_)
        go_simp
        refine hK.out _ _ (fun h => absurd rfl h) ?_
        clear hK K
        refine Till.done (by kernel_rfl) ?_ _
        go_wp2
        go_roundw
        case rel => exact ⟨k + 1, _, by omega, by go_num, O5.out.setBelow (by simp) _, heap_set_other p5 (by simp; omega) _, heap_set_other s5 (by simp; omega) _, heap_set_other q5 (by simp; omega) _, by simpa using block_setCell u5 (i := 2) _, B5.out.setCell (by simp; omega) _⟩
        case measure => simp [intOf]; omega
      · rw [hx] at hc
        have hxy : joinAt xs ys k = (xs.getD k false || ys.getD k false) := rfl
        rw [hx, ← HY.out] at hxy
        have HXY := Lib.hid hxy; clear hxy
        have HX := Lib.hid hx; clear hx
        have BLK := Lib.hid blk; clear blk
        go_wp2
        have HSD := Lib.hid (show (fun w' : World => w'.cell? ⟨w2.heap.size, 2, none⟩ = some v ∧ w'.cell? ⟨w.heap.size, 2, none⟩ = some (.slice (some ⟨b, off, none⟩) n' cap) ∧ w'.cell? ⟨w.heap.size + 1, 2, none⟩ = some (.slice (some ⟨b', off', none⟩) n' cap') ∧ w'.cell? ⟨b, off + k, none⟩ = some (.bool true) ∧ w'.cell? ⟨b', off' + k, none⟩ = some (.bool y)) wr.drew from ⟨u2, x2, y2, hc, hc'⟩)
        refine wp_region_till (fun w' : World => w'.cell? ⟨w2.heap.size, 2, none⟩ = some v ∧ w'.cell? ⟨w.heap.size, 2, none⟩ = some (.slice (some ⟨b, off, none⟩) n' cap) ∧ w'.cell? ⟨w.heap.size + 1, 2, none⟩ = some (.slice (some ⟨b', off', none⟩) n' cap') ∧ w'.cell? ⟨b, off + k, none⟩ = some (.bool true) ∧ w'.cell? ⟨b', off' + k, none⟩ = some (.bool y)) 17 (by kernel_rfl) ?_
        refine Till.take (i := 0) (v := ?_) rfl (by kernel_rfl) (by kernel_rfl) (by kernel_rfl) (by kernel_rfl) (fun _ _ _ h => h) (Or.inl ⟨by kernel_rfl, ?_⟩) HSD.out ?_
        rotate_left
        · intro ws hsw
          obtain ⟨s1, s2, s3, s4, s5⟩ := hsw
          go_simp
          try with_reducible rfl
        try simp only [Act.put, List.setIfInBounds_toArray, List.set_cons_zero, List.set_cons_succ]
        refine Till.take (i := 1) (v := ?_) rfl (by kernel_rfl) (by kernel_rfl) (by kernel_rfl) (by kernel_rfl) (fun _ _ _ h => h) (Or.inl ⟨by kernel_rfl, ?_⟩) HSD.out ?_
        rotate_left
        · intro ws hsw
          obtain ⟨s1, s2, s3, s4, s5⟩ := hsw
          go_simp
          try with_reducible rfl
        try simp only [Act.put, List.setIfInBounds_toArray, List.set_cons_zero, List.set_cons_succ]
        refine Till.take (i := 2) (v := ?_) rfl (by kernel_rfl) (by kernel_rfl) (by kernel_rfl) (by kernel_rfl) (fun _ _ _ h => h) (Or.inl ⟨by kernel_rfl, ?_⟩) HSD.out ?_
        rotate_left
        · intro ws hsw
          obtain ⟨s1, s2, s3, s4, s5⟩ := hsw
          go_simp
          try with_reducible rfl
        try simp only [Act.put, List.setIfInBounds_toArray, List.set_cons_zero, List.set_cons_succ]
        refine Till.take (i := 3) (v := ?_) rfl (by kernel_rfl) (by kernel_rfl) (by kernel_rfl) (by kernel_rfl) (fun _ _ _ h => h) (Or.inl ⟨by kernel_rfl, ?_⟩) HSD.out ?_
        rotate_left
        · intro ws hsw
          obtain ⟨s1, s2, s3, s4, s5⟩ := hsw
          go_simp
          try with_reducible rfl
        try simp only [Act.put, List.setIfInBounds_toArray, List.set_cons_zero, List.set_cons_succ]
        refine Till.take (i := 4) (v := ?_) rfl (by kernel_rfl) (by kernel_rfl) (by kernel_rfl) (by kernel_rfl) (fun _ _ _ h => h) (Or.inl ⟨by kernel_rfl, ?_⟩) HSD.out ?_
        rotate_left
        · intro ws hsw
          obtain ⟨s1, s2, s3, s4, s5⟩ := hsw
          go_simp
          try with_reducible rfl
        try simp only [Act.put, List.setIfInBounds_toArray, List.set_cons_zero, List.set_cons_succ]
        refine Till.take (i := 5) (v := ?_) rfl (by kernel_rfl) (by kernel_rfl) (by kernel_rfl) (by kernel_rfl) (fun _ _ _ h => h) (Or.inl ⟨by kernel_rfl, ?_⟩) HSD.out ?_
        rotate_left
        · intro ws hsw
          obtain ⟨s1, s2, s3, s4, s5⟩ := hsw
          go_simp
          try with_reducible rfl
        try simp only [Act.put, List.setIfInBounds_toArray, List.set_cons_zero, List.set_cons_succ]
        refine Till.take (i := 6) (v := ?_) rfl (by kernel_rfl) (by kernel_rfl) (by kernel_rfl) (by kernel_rfl) (fun _ _ _ h => h) (Or.inl ⟨by kernel_rfl, ?_⟩) HSD.out ?_
        rotate_left
        · intro ws hsw
          obtain ⟨s1, s2, s3, s4, s5⟩ := hsw
          go_simp
          try with_reducible rfl
        try simp only [Act.put, List.setIfInBounds_toArray, List.set_cons_zero, List.set_cons_succ]
        refine Till.take (i := 7) (v := ?_) rfl (by kernel_rfl) (by kernel_rfl) (by kernel_rfl) (by kernel_rfl) (fun _ _ _ h => h) (Or.inl ⟨by kernel_rfl, ?_⟩) HSD.out ?_
        rotate_left
        · intro ws hsw
          obtain ⟨s1, s2, s3, s4, s5⟩ := hsw
          go_simp
          try with_reducible rfl
        try simp only [Act.put, List.setIfInBounds_toArray, List.set_cons_zero, List.set_cons_succ]
        refine Till.take (i := 8) (v := undef) rfl (by kernel_rfl) (by kernel_rfl) (by kernel_rfl) (by kernel_rfl) (fun _ _ _ h => h) (Or.inr ⟨by kernel_rfl, rfl⟩) HSD.out ?_
        try simp only [Act.put, List.setIfInBounds_toArray, List.set_cons_zero, List.set_cons_succ]
        refine Till.take (i := 9) (v := undef) rfl (by kernel_rfl) (by kernel_rfl) (by kernel_rfl) (by kernel_rfl) (fun _ _ _ h => h) (Or.inr ⟨by kernel_rfl, rfl⟩) HSD.out ?_
        try simp only [Act.put, List.setIfInBounds_toArray, List.set_cons_zero, List.set_cons_succ]
        refine Till.take (i := 10) (v := undef) rfl (by kernel_rfl) (by kernel_rfl) (by kernel_rfl) (by kernel_rfl) (fun _ _ _ h => h) (Or.inr ⟨by kernel_rfl, rfl⟩) HSD.out ?_
        try simp only [Act.put, List.setIfInBounds_toArray, List.set_cons_zero, List.set_cons_succ]
        refine Till.take (i := 11) (v := undef) rfl (by kernel_rfl) (by kernel_rfl) (by kernel_rfl) (by kernel_rfl) (fun _ _ _ h => h) (Or.inr ⟨by kernel_rfl, rfl⟩) HSD.out ?_
        try simp only [Act.put, List.setIfInBounds_toArray, List.set_cons_zero, List.set_cons_succ]
        refine Till.take (i := 12) (v := undef) rfl (by kernel_rfl) (by kernel_rfl) (by kernel_rfl) (by kernel_rfl) (fun _ _ _ h => h) (Or.inr ⟨by kernel_rfl, rfl⟩) HSD.out ?_
        try simp only [Act.put, List.setIfInBounds_toArray, List.set_cons_zero, List.set_cons_succ]
        refine Till.take (i := 13) (v := ?_) rfl (by kernel_rfl) (by kernel_rfl) (by kernel_rfl) (by kernel_rfl) (fun _ _ _ h => h) (Or.inl ⟨by kernel_rfl, ?_⟩) HSD.out ?_
        rotate_left
        · intro ws hsw
          obtain ⟨s1, s2, s3, s4, s5⟩ := hsw
          go_simp
          try with_reducible rfl
        try simp only [Act.put, List.setIfInBounds_toArray, List.set_cons_zero, List.set_cons_succ]
        have WN := Lib.hid (show Below wr.heap.size wr (World.drew (wr.alloc (.cells #[.bool true] 4))) from below_seq (below1 _ _) (drew_below _))
        refine Till.one (i := 14) (by kernel_rfl) rfl (by rfl) (fun K hK => ?_)
        go_simp
        refine hK.out _ _ (fun _ => ⟨cell_later WN.out u2, cell_later WN.out x2, cell_later WN.out y2, cell_later WN.out hc, cell_later WN.out hc'⟩) ?_
        clear hK K
        refine Till.one (i := 15) (by kernel_rfl) rfl (by rfl) (fun K hK => ?_)
        refine step_append_lies _ rfl _ _ 23 rfl (w2.heap.size + 1) 4 i0 (.bool false) 1 1 Try.underlying23 hi hz0 hz1 hz2 rfl (by decide) v k ((tab k (joinAt xs ys)).map Value.bool) rfl (show World.ownsRow (World.drew (wr.alloc _)) _ _ _ _ _ _ from (HO.out.alloc _).row (tab_len _ _)) ⟨wr.heap.size, 0, none⟩ 1 1 _ rfl rfl (new_bool wr _) (one_bool _) (by omega) (by unfold maxLen; omega) (by omega) (by simp; omega) (wr.heap.size + 1) (by simp) ?_
        intro g' c' w5 hown' hgrow _ _
        have p5 := heap_grown (heap_later pr WN.out) hgrow (HO.out.ownBlock (by omega))
        have s5 := heap_grown (heap_later sr WN.out) hgrow (HO.out.ownBlock (by omega))
        have q5 := heap_grown (heap_later qr WN.out) hgrow (HO.out.ownBlock (by omega))
        have u5 := heap_grown (heap_later ur WN.out) hgrow (HO.out.ownBlock (by omega))
        have h5 := World.grownBy.cell hgrow (cell_later WN.out hc) (fun e => HO.out.ownBlock (b := b) (by omega) e.symm)
        have h5' := World.grownBy.cell hgrow (cell_later WN.out hc') (fun e => HO.out.ownBlock (b := b') (by omega) e.symm)
        have B5 := Lib.hid (below_grown (below_seq BEL.out WN.out) hgrow (Nat.le_refl _) BLK.out)
        have O5 := Lib.hid (OwnsB.ofRow (xs := tab (k + 1) (joinAt xs ys)) hown' (by rw [tab_snoc, HXY.out]; simp) (tab_len _ _))
        clear hown' hgrow
        obtain ⟨t0, t1, t2⟩ := cells3 u5
        have e2 := free3 u5 2
        refine hK.out _ _ (fun _ => ⟨t2, (cells3 p5).2.2, (cells3 s5).2.2, h5, h5'⟩) ?_
        clear hK K
        refine Till.one (i := 16) (by kernel_rfl) rfl (by rfl) (fun K hK => ?_)
        go_simp
        refine hK.out _ _ (fun _ => ⟨t2, (cells3 p5).2.2, (cells3 s5).2.2, h5, h5'⟩) ?_
        clear hK K
        refine Till.one (i := 17) (by kernel_rfl) rfl (by rfl) (fun K hK => ?_)
        go_simp
        refine hK.out _ _ (fun h => absurd rfl h) ?_
        clear hK K
        refine Till.done (by kernel_rfl) ?_ _
        go_wp2
        go_roundw
        case rel => exact ⟨k + 1, _, by omega, by go_num, O5.out.setBelow (by simp) _, heap_set_other p5 (by simp; omega) _, heap_set_other s5 (by simp; omega) _, heap_set_other q5 (by simp; omega) _, by simpa using block_setCell u5 (i := 2) _, B5.out.setCell (by simp; omega) _⟩
        case measure => simp [intOf]; omega
    · obtain rfl : k = n' := by omega
      obtain ⟨g, c, rfl⟩ := form_pos (HO.out.row (n := k) (tab_len _ _)) (by omega)
      have HJ : Hid (OwnsB wr (w2.heap.size + 1) (.slice (some ⟨g, 0, none⟩) k c) (joinB xs ys)) := by
        have h := HO.out
        rw [show tab k (joinAt xs ys) = joinB xs ys by rw [HN.out]; rfl] at h
        exact h
      have hlj : Hid (k = (joinB xs ys).length) := by show k = _; rw [HN.out]; simp [joinB, tab_len]

      go_wp2_with fail
      refine (sRegionValid_any _ _ _ _ _ (joinB xs ys) _ hlj.out (by omega) (OwnsB.at HJ.out)).mono ?_; rintro e w6 ⟨rfl, hb6⟩
      have q6 := heap_later qr hb6
      have s6 := heap_later ur hb6
      have b6 := below_seq hbel hb6
      have HO6 := Lib.hid (HJ.out.below hb6); clear HO HJ
      clear u0 u1 u2
      obtain ⟨t0, t1, t2⟩ := cells3 s6
      obtain ⟨d0, d1, d2⟩ := cells3 q6
      have e0 := free3 q6 0
      have e1 := free3 q6 1
      have e2 := free3 q6 2
      go_wp2
      refine bodyPost_ret (v := .tuple #[.agg #[.int .i64 W, .int .i64 T, .slice (some ⟨g, 0, none⟩) k c], .bool true]) (by simp [results, Try.results39, go_sem, d0, d1, d2]) rfl ⟨_, _, rfl, ?_, ?_⟩
      · exact (HO6.out.lower (B' := w.heap.size + 3) (by omega)).set3 (by omega) _ _ _
      · exact below_set3 b6 (by omega) _ _ _

set_option maxHeartbeats 4000000 in
theorem sRegionJoin_big (W T W' T' : Int) (a a' : Option Addr) (n n' cap cap' : Nat) (xs ys : List Bool) (w : World) (hn : n = xs.length) (hn1 : n ≤ 1048576) (hm : n' = ys.length) (hm1 : n' ≤ 1048576) (ha : BoolsAt w a xs) (hb : BoolsAt w a' ys) (h : sameF W T W' T' xs ys = true) (hj : rv W T (joinB xs ys) = false) :
    Calls Try.prog 39 #[.agg #[.int .i64 W, .int .i64 T, .slice a n cap], .agg #[.int .i64 W', .int .i64 T', .slice a' n' cap']] w fun e w' => e = .returned (.tuple #[.agg #[.int .i64 0, .int .i64 0, .slice none 0 0], .bool false]) ∧ Below w.heap.size w w' := by
  obtain ⟨h1, h2, h3, h4, h5⟩ := sameF_true h
  obtain ⟨v1, v2, v3, v4, v5, _⟩ := rv_true h1
  have hnn : n' = n := by rw [hn, hm, h5]
  subst hnn
  have hwt := mul_bd v1 v2 v3 v4
  have hnW : (n' : Int) = W * T := by rw [hn]; exact v5
  have hp : 0 < n' := by omega
  have hw1 : (W != W') = false := by simpa using h3
  have ht1 : (T != T') = false := by simpa using h4
  obtain ⟨i0, hi, hz0, hz1, hz2⟩ := info_parts infoBool
  have HNW := Lib.hid hnW; clear hnW v5 h3 h4 h5 h
  have HA := Lib.hid ha
  have HB := Lib.hid hb
  have HN := Lib.hid hn; clear hn
  have HM := Lib.hid hm; clear hm
  have A3 := Lib.hid (ha.later (below3 w (.cells #[.int .i64 W, .int .i64 T, .slice a n' cap] 25) (.cells #[.int .i64 W', .int .i64 T', .slice a' n' cap'] 25) (.cells #[.int .i64 0, .int .i64 0, .slice none 0 0] 25)) (Nat.le_refl _)); clear ha
  have B3 := Lib.hid (hb.later (below3 w (.cells #[.int .i64 W, .int .i64 T, .slice a n' cap] 25) (.cells #[.int .i64 W', .int .i64 T', .slice a' n' cap'] 25) (.cells #[.int .i64 0, .int .i64 0, .slice none 0 0] 25)) (Nat.le_refl _)); clear hb
  go_enter Try.func39, Try.ntmps39
  go_wp2_with fail
  refine (sRegionValid_any _ _ _ _ _ xs _ HN.out hn1 A3.out).mono ?_; rintro e w1 ⟨rfl, hb1⟩
  have b1 := below_seq (below3 w (.cells #[.int .i64 W, .int .i64 T, .slice a n' cap] 25) (.cells #[.int .i64 W', .int .i64 T', .slice a' n' cap'] 25) (.cells #[.int .i64 0, .int .i64 0, .slice none 0 0] 25)) hb1
  have p1 := heap_later (heap_later (heap_later (heap_new w _) (below1 _ _)) (below1 _ _)) hb1
  have s1 := heap_later (heap_later (heap_new2 w _ _) (below1 _ _)) hb1
  have q1 := heap_later (heap_new3 w _ _ _) hb1
  have B1 := Lib.hid (B3.out.below hb1)
  obtain ⟨c0, c1, c2⟩ := cells3 s1
  go_wp2_with fail
  refine (sRegionValid_any _ _ _ _ _ ys _ HM.out hn1 B1.out).mono ?_; rintro e w2 ⟨rfl, hb2⟩
  clear c0 c1 c2
  have b2 := below_seq b1 hb2
  have p2 := heap_later p1 hb2
  have s2 := heap_later s1 hb2
  have q2 := heap_later q1 hb2
  clear p1 s1 q1
  obtain ⟨x0, x1, x2⟩ := cells3 p2
  obtain ⟨y0, y1, y2⟩ := cells3 s2
  clear A3 B3 B1
  go_wp2
  have lp := heap_lt p2
  have ls := heap_lt s2
  have lq := heap_lt q2
  clear x0 x1 x2 y0 y1 y2
  go_loopw [7] (fun i wr => ∃ (k : Nat) (v : Value), k ≤ n' ∧ i = .int .i64 k ∧ OwnsB wr (w2.heap.size + 1) v (tab k (joinAt xs ys)) ∧ wr.heap[w.heap.size]? = some (.cells #[.int .i64 W, .int .i64 T, .slice a n' cap] 25 (0, 0)) ∧ wr.heap[w.heap.size + 1]? = some (.cells #[.int .i64 W', .int .i64 T', .slice a' n' cap'] 25 (0, 0)) ∧ wr.heap[w.heap.size + 2]? = some (.cells #[.int .i64 0, .int .i64 0, .slice none 0 0] 25 (0, 0)) ∧ wr.heap[w2.heap.size]? = some (.cells #[.int .i64 W, .int .i64 T, v] 25 (0, 0)) ∧ Below w.heap.size w wr) (fun i _ => n' - (intOf i).toNat)
  case atStart => exact ⟨0, _, Nat.zero_le _, rfl, OwnsB.nil _ _, heap_later p2 (below1 _ _), heap_later s2 (below1 _ _), heap_later q2 (below1 _ _), heap_new _ _, below_seq b2 (below1 _ _)⟩
  case round =>
    obtain ⟨k, v, hk, rfl, hown, pr, sr, qr, ur, hbel⟩ := hrel
    obtain ⟨x0, x1, x2⟩ := cells3 pr
    obtain ⟨y0, y1, y2⟩ := cells3 sr
    obtain ⟨u0, u1, u2⟩ := cells3 ur
    have l2 := heap_lt ur
    have HO := Lib.hid hown; clear hown
    by_cases hlt : k < n'
    · obtain ⟨b, off, rfl, hc0⟩ := HA.out k (by rw [← HN.out]; exact hlt)
      have hbl := World.block_lt_of_cell? w _ hc0
      simp only at hbl
      have hc := (hbel.cell (p := ⟨b, off + k, none⟩) hbl).trans hc0
      clear hc0
      obtain ⟨b', off', rfl, hc0⟩ := HB.out k (by rw [← HM.out]; exact hlt)
      have hbl' := World.block_lt_of_cell? w _ hc0
      simp only at hbl'
      have hc' := (hbel.cell (p := ⟨b', off' + k, none⟩) hbl').trans hc0
      clear hc0
      have e1 : (k : Int) < n' := by omega
      have e0 : (0 : Int) ≤ k := by omega
      have BEL := Lib.hid hbel; clear hbel
      obtain ⟨y, hy⟩ : ∃ y, y = ys.getD k false := ⟨_, rfl⟩
      rw [← hy] at hc'
      have HY := Lib.hid hy; clear hy
      have blk := HO.out.ownAt (B' := w.heap.size) (by omega)
      cases hx : xs.getD k false
      · rw [hx] at hc
        have hxy : joinAt xs ys k = (xs.getD k false || ys.getD k false) := rfl
        rw [hx, ← HY.out] at hxy
        have HXY := Lib.hid hxy; clear hxy
        have HX := Lib.hid hx; clear hx
        have BLK := Lib.hid blk; clear blk
        go_wp2
        have HSD := Lib.hid (show (fun w' : World => w'.cell? ⟨w2.heap.size, 2, none⟩ = some v ∧ w'.cell? ⟨w.heap.size, 2, none⟩ = some (.slice (some ⟨b, off, none⟩) n' cap) ∧ w'.cell? ⟨w.heap.size + 1, 2, none⟩ = some (.slice (some ⟨b', off', none⟩) n' cap') ∧ w'.cell? ⟨b, off + k, none⟩ = some (.bool false) ∧ w'.cell? ⟨b', off' + k, none⟩ = some (.bool y)) wr.drew from ⟨u2, x2, y2, hc, hc'⟩)
        refine wp_region_till (fun w' : World => w'.cell? ⟨w2.heap.size, 2, none⟩ = some v ∧ w'.cell? ⟨w.heap.size, 2, none⟩ = some (.slice (some ⟨b, off, none⟩) n' cap) ∧ w'.cell? ⟨w.heap.size + 1, 2, none⟩ = some (.slice (some ⟨b', off', none⟩) n' cap') ∧ w'.cell? ⟨b, off + k, none⟩ = some (.bool false) ∧ w'.cell? ⟨b', off' + k, none⟩ = some (.bool y)) 17 (by kernel_rfl) ?_
        refine Till.take (i := 0) (v := ?_) rfl (by kernel_rfl) (by kernel_rfl) (by kernel_rfl) (by kernel_rfl) (fun _ _ _ h => h) (Or.inl ⟨by kernel_rfl, ?_⟩) HSD.out ?_
        rotate_left
        · intro ws hsw
          obtain ⟨s1, s2, s3, s4, s5⟩ := hsw
          go_simp
          try with_reducible rfl
        try simp only [Act.put, List.setIfInBounds_toArray, List.set_cons_zero, List.set_cons_succ]
        refine Till.take (i := 1) (v := ?_) rfl (by kernel_rfl) (by kernel_rfl) (by kernel_rfl) (by kernel_rfl) (fun _ _ _ h => h) (Or.inl ⟨by kernel_rfl, ?_⟩) HSD.out ?_
        rotate_left
        · intro ws hsw
          obtain ⟨s1, s2, s3, s4, s5⟩ := hsw
          go_simp
          try with_reducible rfl
        try simp only [Act.put, List.setIfInBounds_toArray, List.set_cons_zero, List.set_cons_succ]
        refine Till.take (i := 2) (v := ?_) rfl (by kernel_rfl) (by kernel_rfl) (by kernel_rfl) (by kernel_rfl) (fun _ _ _ h => h) (Or.inl ⟨by kernel_rfl, ?_⟩) HSD.out ?_
        rotate_left
        · intro ws hsw
          obtain ⟨s1, s2, s3, s4, s5⟩ := hsw
          go_simp
          try with_reducible rfl
        try simp only [Act.put, List.setIfInBounds_toArray, List.set_cons_zero, List.set_cons_succ]
        refine Till.take (i := 3) (v := ?_) rfl (by kernel_rfl) (by kernel_rfl) (by kernel_rfl) (by kernel_rfl) (fun _ _ _ h => h) (Or.inl ⟨by kernel_rfl, ?_⟩) HSD.out ?_
        rotate_left
        · intro ws hsw
          obtain ⟨s1, s2, s3, s4, s5⟩ := hsw
          go_simp
          try with_reducible rfl
        try simp only [Act.put, List.setIfInBounds_toArray, List.set_cons_zero, List.set_cons_succ]
        refine Till.take (i := 4) (v := ?_) rfl (by kernel_rfl) (by kernel_rfl) (by kernel_rfl) (by kernel_rfl) (fun _ _ _ h => h) (Or.inl ⟨by kernel_rfl, ?_⟩) HSD.out ?_
        rotate_left
        · intro ws hsw
          obtain ⟨s1, s2, s3, s4, s5⟩ := hsw
          go_simp
          try with_reducible rfl
        try simp only [Act.put, List.setIfInBounds_toArray, List.set_cons_zero, List.set_cons_succ]
        refine Till.take (i := 5) (v := ?_) rfl (by kernel_rfl) (by kernel_rfl) (by kernel_rfl) (by kernel_rfl) (fun _ _ _ h => h) (Or.inl ⟨by kernel_rfl, ?_⟩) HSD.out ?_
        rotate_left
        · intro ws hsw
          obtain ⟨s1, s2, s3, s4, s5⟩ := hsw
          go_simp
          try with_reducible rfl
        try simp only [Act.put, List.setIfInBounds_toArray, List.set_cons_zero, List.set_cons_succ]
        refine Till.take (i := 6) (v := ?_) rfl (by kernel_rfl) (by kernel_rfl) (by kernel_rfl) (by kernel_rfl) (fun _ _ _ h => h) (Or.inl ⟨by kernel_rfl, ?_⟩) HSD.out ?_
        rotate_left
        · intro ws hsw
          obtain ⟨s1, s2, s3, s4, s5⟩ := hsw
          go_simp
          try with_reducible rfl
        try simp only [Act.put, List.setIfInBounds_toArray, List.set_cons_zero, List.set_cons_succ]
        refine Till.take (i := 7) (v := ?_) rfl (by kernel_rfl) (by kernel_rfl) (by kernel_rfl) (by kernel_rfl) (fun _ _ _ h => h) (Or.inl ⟨by kernel_rfl, ?_⟩) HSD.out ?_
        rotate_left
        · intro ws hsw
          obtain ⟨s1, s2, s3, s4, s5⟩ := hsw
          go_simp
          try with_reducible rfl
        try simp only [Act.put, List.setIfInBounds_toArray, List.set_cons_zero, List.set_cons_succ]
        refine Till.take (i := 8) (v := ?_) rfl (by kernel_rfl) (by kernel_rfl) (by kernel_rfl) (by kernel_rfl) (fun _ _ _ h => h) (Or.inl ⟨by kernel_rfl, ?_⟩) HSD.out ?_
        rotate_left
        · intro ws hsw
          obtain ⟨s1, s2, s3, s4, s5⟩ := hsw
          go_simp
          try with_reducible rfl
        try simp only [Act.put, List.setIfInBounds_toArray, List.set_cons_zero, List.set_cons_succ]
        refine Till.take (i := 9) (v := ?_) rfl (by kernel_rfl) (by kernel_rfl) (by kernel_rfl) (by kernel_rfl) (fun _ _ _ h => h) (Or.inl ⟨by kernel_rfl, ?_⟩) HSD.out ?_
        rotate_left
        · intro ws hsw
          obtain ⟨s1, s2, s3, s4, s5⟩ := hsw
          go_simp
          try with_reducible rfl
        try simp only [Act.put, List.setIfInBounds_toArray, List.set_cons_zero, List.set_cons_succ]
        refine Till.take (i := 10) (v := ?_) rfl (by kernel_rfl) (by kernel_rfl) (by kernel_rfl) (by kernel_rfl) (fun _ _ _ h => h) (Or.inl ⟨by kernel_rfl, ?_⟩) HSD.out ?_
        rotate_left
        · intro ws hsw
          obtain ⟨s1, s2, s3, s4, s5⟩ := hsw
          go_simp
          try with_reducible rfl
        try simp only [Act.put, List.setIfInBounds_toArray, List.set_cons_zero, List.set_cons_succ]
        refine Till.take (i := 11) (v := ?_) rfl (by kernel_rfl) (by kernel_rfl) (by kernel_rfl) (by kernel_rfl) (fun _ _ _ h => h) (Or.inl ⟨by kernel_rfl, ?_⟩) HSD.out ?_
        rotate_left
        · intro ws hsw
          obtain ⟨s1, s2, s3, s4, s5⟩ := hsw
          go_simp
          try with_reducible rfl
        try simp only [Act.put, List.setIfInBounds_toArray, List.set_cons_zero, List.set_cons_succ]
        refine Till.take (i := 12) (v := ?_) rfl (by kernel_rfl) (by kernel_rfl) (by kernel_rfl) (by kernel_rfl) (fun _ _ _ h => h) (Or.inl ⟨by kernel_rfl, ?_⟩) HSD.out ?_
        rotate_left
        · intro ws hsw
          obtain ⟨s1, s2, s3, s4, s5⟩ := hsw
          go_simp
          try with_reducible rfl
        try simp only [Act.put, List.setIfInBounds_toArray, List.set_cons_zero, List.set_cons_succ]
        refine Till.take (i := 13) (v := ?_) rfl (by kernel_rfl) (by kernel_rfl) (by kernel_rfl) (by kernel_rfl) (fun _ _ _ h => h) (Or.inl ⟨by kernel_rfl, ?_⟩) HSD.out ?_
        rotate_left
        · intro ws hsw
          obtain ⟨s1, s2, s3, s4, s5⟩ := hsw
          go_simp
          try with_reducible rfl
        try simp only [Act.put, List.setIfInBounds_toArray, List.set_cons_zero, List.set_cons_succ]
        have WN := Lib.hid (show Below wr.heap.size wr (World.drew (wr.alloc (.cells #[.bool y] 4))) from below_seq (below1 _ _) (drew_below _))
        refine Till.one (i := 14) (by kernel_rfl) rfl (by rfl) (fun K hK => ?_)
        go_simp
        refine hK.out _ _ (fun _ => ⟨cell_later WN.out u2, cell_later WN.out x2, cell_later WN.out y2, cell_later WN.out hc, cell_later WN.out hc'⟩) ?_
        clear hK K
        refine Till.one (i := 15) (by kernel_rfl) rfl (by rfl) (fun K hK => ?_)
        refine step_append_lies _ rfl _ _ 23 rfl (w2.heap.size + 1) 4 i0 (.bool false) 1 1 Try.underlying23 hi hz0 hz1 hz2 rfl (by decide) v k ((tab k (joinAt xs ys)).map Value.bool) rfl (show World.ownsRow (World.drew (wr.alloc _)) _ _ _ _ _ _ from (HO.out.alloc _).row (tab_len _ _)) ⟨wr.heap.size, 0, none⟩ 1 1 _ rfl rfl (new_bool wr _) (one_bool _) (by omega) (by unfold maxLen; omega) (by omega) (by simp; omega) (wr.heap.size + 1) (by simp) ?_
        intro g' c' w5 hown' hgrow _ _
        have p5 := heap_grown (heap_later pr WN.out) hgrow (HO.out.ownBlock (by omega))
        have s5 := heap_grown (heap_later sr WN.out) hgrow (HO.out.ownBlock (by omega))
        have q5 := heap_grown (heap_later qr WN.out) hgrow (HO.out.ownBlock (by omega))
        have u5 := heap_grown (heap_later ur WN.out) hgrow (HO.out.ownBlock (by omega))
        have h5 := World.grownBy.cell hgrow (cell_later WN.out hc) (fun e => HO.out.ownBlock (b := b) (by omega) e.symm)
        have h5' := World.grownBy.cell hgrow (cell_later WN.out hc') (fun e => HO.out.ownBlock (b := b') (by omega) e.symm)
        have B5 := Lib.hid (below_grown (below_seq BEL.out WN.out) hgrow (Nat.le_refl _) BLK.out)
        have O5 := Lib.hid (OwnsB.ofRow (xs := tab (k + 1) (joinAt xs ys)) hown' (by rw [tab_snoc, HXY.out]; simp) (tab_len _ _))
        clear hown' hgrow
        obtain ⟨t0, t1, t2⟩ := cells3 u5
        have e2 := free3 u5 2
        refine hK.out _ _ (fun _ => ⟨t2, (cells3 p5).2.2, (cells3 s5).2.2, h5, h5'⟩) ?_
        clear hK K
        refine Till.one (i := 16) (by kernel_rfl) rfl (by rfl) (fun K hK => ?_)
        go_simp
        refine hK.out _ _ (fun _ => ⟨t2, (cells3 p5).2.2, (cells3 s5).2.2, h5, h5'⟩) ?_
        clear hK K
        refine Till.one (i := 17) (by kernel_rfl) rfl (by rfl) (fun K hK => ?_)
        go_simp
        refine hK.out _ _ (fun h => absurd rfl h) ?_
        clear hK K
        refine Till.done (by kernel_rfl) ?_ _
        go_wp2
        go_roundw
        case rel => exact ⟨k + 1, _, by omega, by go_num, O5.out.setBelow (by simp) _, heap_set_other p5 (by simp; omega) _, heap_set_other s5 (by simp; omega) _, heap_set_other q5 (by simp; omega) _, by simpa using block_setCell u5 (i := 2) _, B5.out.setCell (by simp; omega) _⟩
        case measure => simp [intOf]; omega
      · rw [hx] at hc
        have hxy : joinAt xs ys k = (xs.getD k false || ys.getD k false) := rfl
        rw [hx, ← HY.out] at hxy
        have HXY := Lib.hid hxy; clear hxy
        have HX := Lib.hid hx; clear hx
        have BLK := Lib.hid blk; clear blk
        go_wp2
        have HSD := Lib.hid (show (fun w' : World => w'.cell? ⟨w2.heap.size, 2, none⟩ = some v ∧ w'.cell? ⟨w.heap.size, 2, none⟩ = some (.slice (some ⟨b, off, none⟩) n' cap) ∧ w'.cell? ⟨w.heap.size + 1, 2, none⟩ = some (.slice (some ⟨b', off', none⟩) n' cap') ∧ w'.cell? ⟨b, off + k, none⟩ = some (.bool true) ∧ w'.cell? ⟨b', off' + k, none⟩ = some (.bool y)) wr.drew from ⟨u2, x2, y2, hc, hc'⟩)
        refine wp_region_till (fun w' : World => w'.cell? ⟨w2.heap.size, 2, none⟩ = some v ∧ w'.cell? ⟨w.heap.size, 2, none⟩ = some (.slice (some ⟨b, off, none⟩) n' cap) ∧ w'.cell? ⟨w.heap.size + 1, 2, none⟩ = some (.slice (some ⟨b', off', none⟩) n' cap') ∧ w'.cell? ⟨b, off + k, none⟩ = some (.bool true) ∧ w'.cell? ⟨b', off' + k, none⟩ = some (.bool y)) 17 (by kernel_rfl) ?_
        refine Till.take (i := 0) (v := ?_) rfl (by kernel_rfl) (by kernel_rfl) (by kernel_rfl) (by kernel_rfl) (fun _ _ _ h => h) (Or.inl ⟨by kernel_rfl, ?_⟩) HSD.out ?_
        rotate_left
        · intro ws hsw
          obtain ⟨s1, s2, s3, s4, s5⟩ := hsw
          go_simp
          try with_reducible rfl
        try simp only [Act.put, List.setIfInBounds_toArray, List.set_cons_zero, List.set_cons_succ]
        refine Till.take (i := 1) (v := ?_) rfl (by kernel_rfl) (by kernel_rfl) (by kernel_rfl) (by kernel_rfl) (fun _ _ _ h => h) (Or.inl ⟨by kernel_rfl, ?_⟩) HSD.out ?_
        rotate_left
        · intro ws hsw
          obtain ⟨s1, s2, s3, s4, s5⟩ := hsw
          go_simp
          try with_reducible rfl
        try simp only [Act.put, List.setIfInBounds_toArray, List.set_cons_zero, List.set_cons_succ]
        refine Till.take (i := 2) (v := ?_) rfl (by kernel_rfl) (by kernel_rfl) (by kernel_rfl) (by kernel_rfl) (fun _ _ _ h => h) (Or.inl ⟨by kernel_rfl, ?_⟩) HSD.out ?_
        rotate_left
        · intro ws hsw
          obtain ⟨s1, s2, s3, s4, s5⟩ := hsw
          go_simp
          try with_reducible rfl
        try simp only [Act.put, List.setIfInBounds_toArray, List.set_cons_zero, List.set_cons_succ]
        refine Till.take (i := 3) (v := ?_) rfl (by kernel_rfl) (by kernel_rfl) (by kernel_rfl) (by kernel_rfl) (fun _ _ _ h => h) (Or.inl ⟨by kernel_rfl, ?_⟩) HSD.out ?_
        rotate_left
        · intro ws hsw
          obtain ⟨s1, s2, s3, s4, s5⟩ := hsw
          go_simp
          try with_reducible rfl
        try simp only [Act.put, List.setIfInBounds_toArray, List.set_cons_zero, List.set_cons_succ]
        refine Till.take (i := 4) (v := ?_) rfl (by kernel_rfl) (by kernel_rfl) (by kernel_rfl) (by kernel_rfl) (fun _ _ _ h => h) (Or.inl ⟨by kernel_rfl, ?_⟩) HSD.out ?_
        rotate_left
        · intro ws hsw
          obtain ⟨s1, s2, s3, s4, s5⟩ := hsw
          go_simp
          try with_reducible rfl
        try simp only [Act.put, List.setIfInBounds_toArray, List.set_cons_zero, List.set_cons_succ]
        refine Till.take (i := 5) (v := ?_) rfl (by kernel_rfl) (by kernel_rfl) (by kernel_rfl) (by kernel_rfl) (fun _ _ _ h => h) (Or.inl ⟨by kernel_rfl, ?_⟩) HSD.out ?_
        rotate_left
        · intro ws hsw
          obtain ⟨s1, s2, s3, s4, s5⟩ := hsw
          go_simp
          try with_reducible rfl
        try simp only [Act.put, List.setIfInBounds_toArray, List.set_cons_zero, List.set_cons_succ]
        refine Till.take (i := 6) (v := ?_) rfl (by kernel_rfl) (by kernel_rfl) (by kernel_rfl) (by kernel_rfl) (fun _ _ _ h => h) (Or.inl ⟨by kernel_rfl, ?_⟩) HSD.out ?_
        rotate_left
        · intro ws hsw
          obtain ⟨s1, s2, s3, s4, s5⟩ := hsw
          go_simp
          try with_reducible rfl
        try simp only [Act.put, List.setIfInBounds_toArray, List.set_cons_zero, List.set_cons_succ]
        refine Till.take (i := 7) (v := ?_) rfl (by kernel_rfl) (by kernel_rfl) (by kernel_rfl) (by kernel_rfl) (fun _ _ _ h => h) (Or.inl ⟨by kernel_rfl, ?_⟩) HSD.out ?_
        rotate_left
        · intro ws hsw
          obtain ⟨s1, s2, s3, s4, s5⟩ := hsw
          go_simp
          try with_reducible rfl
        try simp only [Act.put, List.setIfInBounds_toArray, List.set_cons_zero, List.set_cons_succ]
        refine Till.take (i := 8) (v := undef) rfl (by kernel_rfl) (by kernel_rfl) (by kernel_rfl) (by kernel_rfl) (fun _ _ _ h => h) (Or.inr ⟨by kernel_rfl, rfl⟩) HSD.out ?_
        try simp only [Act.put, List.setIfInBounds_toArray, List.set_cons_zero, List.set_cons_succ]
        refine Till.take (i := 9) (v := undef) rfl (by kernel_rfl) (by kernel_rfl) (by kernel_rfl) (by kernel_rfl) (fun _ _ _ h => h) (Or.inr ⟨by kernel_rfl, rfl⟩) HSD.out ?_
        try simp only [Act.put, List.setIfInBounds_toArray, List.set_cons_zero, List.set_cons_succ]
        refine Till.take (i := 10) (v := undef) rfl (by kernel_rfl) (by kernel_rfl) (by kernel_rfl) (by kernel_rfl) (fun _ _ _ h => h) (Or.inr ⟨by kernel_rfl, rfl⟩) HSD.out ?_
        try simp only [Act.put, List.setIfInBounds_toArray, List.set_cons_zero, List.set_cons_succ]
        refine Till.take (i := 11) (v := undef) rfl (by kernel_rfl) (by kernel_rfl) (by kernel_rfl) (by kernel_rfl) (fun _ _ _ h => h) (Or.inr ⟨by kernel_rfl, rfl⟩) HSD.out ?_
        try simp only [Act.put, List.setIfInBounds_toArray, List.set_cons_zero, List.set_cons_succ]
        refine Till.take (i := 12) (v := undef) rfl (by kernel_rfl) (by kernel_rfl) (by kernel_rfl) (by kernel_rfl) (fun _ _ _ h => h) (Or.inr ⟨by kernel_rfl, rfl⟩) HSD.out ?_
        try simp only [Act.put, List.setIfInBounds_toArray, List.set_cons_zero, List.set_cons_succ]
        refine Till.take (i := 13) (v := ?_) rfl (by kernel_rfl) (by kernel_rfl) (by kernel_rfl) (by kernel_rfl) (fun _ _ _ h => h) (Or.inl ⟨by kernel_rfl, ?_⟩) HSD.out ?_
        rotate_left
        · intro ws hsw
          obtain ⟨s1, s2, s3, s4, s5⟩ := hsw
          go_simp
          try with_reducible rfl
        try simp only [Act.put, List.setIfInBounds_toArray, List.set_cons_zero, List.set_cons_succ]
        have WN := Lib.hid (show Below wr.heap.size wr (World.drew (wr.alloc (.cells #[.bool true] 4))) from below_seq (below1 _ _) (drew_below _))
        refine Till.one (i := 14) (by kernel_rfl) rfl (by rfl) (fun K hK => ?_)
        go_simp
        refine hK.out _ _ (fun _ => ⟨cell_later WN.out u2, cell_later WN.out x2, cell_later WN.out y2, cell_later WN.out hc, cell_later WN.out hc'⟩) ?_
        clear hK K
        refine Till.one (i := 15) (by kernel_rfl) rfl (by rfl) (fun K hK => ?_)
        refine step_append_lies _ rfl _ _ 23 rfl (w2.heap.size + 1) 4 i0 (.bool false) 1 1 Try.underlying23 hi hz0 hz1 hz2 rfl (by decide) v k ((tab k (joinAt xs ys)).map Value.bool) rfl (show World.ownsRow (World.drew (wr.alloc _)) _ _ _ _ _ _ from (HO.out.alloc _).row (tab_len _ _)) ⟨wr.heap.size, 0, none⟩ 1 1 _ rfl rfl (new_bool wr _) (one_bool _) (by omega) (by unfold maxLen; omega) (by omega) (by simp; omega) (wr.heap.size + 1) (by simp) ?_
        intro g' c' w5 hown' hgrow _ _
        have p5 := heap_grown (heap_later pr WN.out) hgrow (HO.out.ownBlock (by omega))
        have s5 := heap_grown (heap_later sr WN.out) hgrow (HO.out.ownBlock (by omega))
        have q5 := heap_grown (heap_later qr WN.out) hgrow (HO.out.ownBlock (by omega))
        have u5 := heap_grown (heap_later ur WN.out) hgrow (HO.out.ownBlock (by omega))
        have h5 := World.grownBy.cell hgrow (cell_later WN.out hc) (fun e => HO.out.ownBlock (b := b) (by omega) e.symm)
        have h5' := World.grownBy.cell hgrow (cell_later WN.out hc') (fun e => HO.out.ownBlock (b := b') (by omega) e.symm)
        have B5 := Lib.hid (below_grown (below_seq BEL.out WN.out) hgrow (Nat.le_refl _) BLK.out)
        have O5 := Lib.hid (OwnsB.ofRow (xs := tab (k + 1) (joinAt xs ys)) hown' (by rw [tab_snoc, HXY.out]; simp) (tab_len _ _))
        clear hown' hgrow
        obtain ⟨t0, t1, t2⟩ := cells3 u5
        have e2 := free3 u5 2
        refine hK.out _ _ (fun _ => ⟨t2, (cells3 p5).2.2, (cells3 s5).2.2, h5, h5'⟩) ?_
        clear hK K
        refine Till.one (i := 16) (by kernel_rfl) rfl (by rfl) (fun K hK => ?_)
        go_simp
        refine hK.out _ _ (fun _ => ⟨t2, (cells3 p5).2.2, (cells3 s5).2.2, h5, h5'⟩) ?_
        clear hK K
        refine Till.one (i := 17) (by kernel_rfl) rfl (by rfl) (fun K hK => ?_)
        go_simp
        refine hK.out _ _ (fun h => absurd rfl h) ?_
        clear hK K
        refine Till.done (by kernel_rfl) ?_ _
        go_wp2
        go_roundw
        case rel => exact ⟨k + 1, _, by omega, by go_num, O5.out.setBelow (by simp) _, heap_set_other p5 (by simp; omega) _, heap_set_other s5 (by simp; omega) _, heap_set_other q5 (by simp; omega) _, by simpa using block_setCell u5 (i := 2) _, B5.out.setCell (by simp; omega) _⟩
        case measure => simp [intOf]; omega
    · obtain rfl : k = n' := by omega
      obtain ⟨g, c, rfl⟩ := form_pos (HO.out.row (n := k) (tab_len _ _)) (by omega)
      have HJ : Hid (OwnsB wr (w2.heap.size + 1) (.slice (some ⟨g, 0, none⟩) k c) (joinB xs ys)) := by
        have h := HO.out
        rw [show tab k (joinAt xs ys) = joinB xs ys by rw [HN.out]; rfl] at h
        exact h
      have hlj : Hid (k = (joinB xs ys).length) := by show k = _; rw [HN.out]; simp [joinB, tab_len]

      go_wp2_with fail
      refine (sRegionValid_any _ _ _ _ _ (joinB xs ys) _ hlj.out (by omega) (OwnsB.at HJ.out)).mono ?_; rintro e w6 ⟨rfl, hb6⟩
      have q6 := heap_later qr hb6
      have s6 := heap_later ur hb6
      have b6 := below_seq hbel hb6
      have HO6 := Lib.hid (HJ.out.below hb6); clear HO HJ
      clear u0 u1 u2
      obtain ⟨t0, t1, t2⟩ := cells3 s6
      obtain ⟨d0, d1, d2⟩ := cells3 q6
      have e0 := free3 q6 0
      have e1 := free3 q6 1
      have e2 := free3 q6 2
      go_wp2
      exact bodyPost_ret (v := .tuple #[.agg #[.int .i64 0, .int .i64 0, .slice none 0 0], .bool false]) (by simp [results, Try.results39, go_sem, d0, d1, d2]) rfl ⟨rfl, below_set3 b6 (by omega) _ _ _⟩

end Go.Proofs.Ytlgmnceicnhhnaa
