/- Contracts of impl.RegionJoin. -/
import Derived.Test.YtlgmnceicnhhnaaMeet
namespace Go.Proofs.Ytlgmnceicnhhnaa
open Go.RowKit
set_option linter.unusedVariables false
set_option maxRecDepth 100000
set_option linter.unusedSimpArgs false

def joinAt (xs ys : List Bool) (i : Nat) : Bool := xs.getD i false || ys.getD i false
def joinB (xs ys : List Bool) : List Bool := tab xs.length (joinAt xs ys)
/-- The join behind k rounds, by its index. -/
def joinK (xs ys : List Bool) (k i : Nat) : Bool := if i < k then joinAt xs ys i else xs.getD i false
theorem joinK_step (xs ys : List Bool) (k : Nat) : ∀ i, (if i = k then joinAt xs ys k else joinK xs ys k i) = joinK xs ys (k + 1) i := by
  intro i
  by_cases e : i = k
  · subst e; simp [joinK]
  · have : (i < k) = (i < k + 1) := by apply propext; omega
    simp [joinK, e, this]

set_option maxHeartbeats 1000000 in
theorem iRegionJoin_no (W T W' T' : Int) (a a' : Option Addr) (n n' cap cap' : Nat) (xs ys : List Bool) (w : World) (hn : n = xs.length) (hn1 : n ≤ 1048576) (hm : n' = ys.length) (hm1 : n' ≤ 1048576) (ha : BoolsAt w a xs) (hb : BoolsAt w a' ys) (h : sameF W T W' T' xs ys = false) :
    Calls Try.prog 38 #[.agg #[.int .i64 W, .int .i64 T, .slice a n cap], .agg #[.int .i64 W', .int .i64 T', .slice a' n' cap']] w fun e w' => e = .returned (.tuple #[.agg #[.int .i64 0, .int .i64 0, .slice none 0 0], .bool false]) ∧ Below w.heap.size w w' := by
  have HN := Lib.hid hn; clear hn
  have HM := Lib.hid hm; clear hm
  have A3 := Lib.hid (ha.later (below3 w (.cells #[.int .i64 W, .int .i64 T, .slice a n cap] 25) (.cells #[.int .i64 W', .int .i64 T', .slice a' n' cap'] 25) (.cells #[.int .i64 0, .int .i64 0, .slice none 0 0] 25)) (Nat.le_refl _)); clear ha
  have B3 := Lib.hid (hb.later (below3 w (.cells #[.int .i64 W, .int .i64 T, .slice a n cap] 25) (.cells #[.int .i64 W', .int .i64 T', .slice a' n' cap'] 25) (.cells #[.int .i64 0, .int .i64 0, .slice none 0 0] 25)) (Nat.le_refl _)); clear hb
  go_enter Try.func38, Try.ntmps38
  go_wp2_with fail
  refine (sameField_any' _ _ _ _ _ _ _ _ _ _ xs ys _ HN.out hn1 HM.out hm1 A3.out B3.out).mono ?_; rintro e w1 ⟨rfl, hb1⟩
  have b1 := below_seq (below3 w _ _ _) hb1
  have p1 := heap_later (heap_new3 w _ _ _) hb1
  obtain ⟨d0, d1, d2⟩ := cells3 p1
  have e0 := free3 p1 0
  have e1 := free3 p1 1
  have e2 := free3 p1 2
  go_wp2
  exact bodyPost_ret (v := .tuple #[.agg #[.int .i64 0, .int .i64 0, .slice none 0 0], .bool false]) (by simp [results, Try.results38, go_sem, d0, d1, d2]) rfl ⟨rfl, below_set3 b1 (by omega) _ _ _⟩

set_option maxHeartbeats 2000000 in
theorem iRegionJoin_yes (W T W' T' : Int) (a a' : Option Addr) (n n' cap cap' : Nat) (xs ys : List Bool) (w : World) (hn : n = xs.length) (hn1 : n ≤ 1048576) (hm : n' = ys.length) (hm1 : n' ≤ 1048576) (ha : BoolsAt w a xs) (hb : BoolsAt w a' ys) (h : sameF W T W' T' xs ys = true) (hj : rv W T (joinB xs ys) = true) :
    Calls Try.prog 38 #[.agg #[.int .i64 W, .int .i64 T, .slice a n cap], .agg #[.int .i64 W', .int .i64 T', .slice a' n' cap']] w fun e w' => ∃ g, e = .returned (.tuple #[.agg #[.int .i64 W, .int .i64 T, .slice (some ⟨g, 0, none⟩) n n], .bool true]) ∧ OwnsB w' (w.heap.size + 3) (.slice (some ⟨g, 0, none⟩) n n) (joinB xs ys) ∧ Below w.heap.size w w' := by
  obtain ⟨h1, h2, h3, h4, h5⟩ := sameF_true h
  obtain ⟨v1, v2, v3, v4, v5, _⟩ := rv_true h1
  have hnn : n' = n := by rw [hn, hm, h5]
  subst hnn
  have hwt := mul_bd v1 v2 v3 v4
  have hnW : (n' : Int) = W * T := by rw [hn]; exact v5
  have hp : 0 < n' := by omega
  have HNW := Lib.hid hnW; clear hnW v5 h3 h4 h5
  have HN := Lib.hid hn; clear hn
  have HM := Lib.hid hm; clear hm
  have HA := Lib.hid ha; clear ha
  have HB := Lib.hid hb; clear hb
  have A3 := Lib.hid (HA.out.later (below3 w (.cells #[.int .i64 W, .int .i64 T, .slice a n' cap] 25) (.cells #[.int .i64 W', .int .i64 T', .slice a' n' cap'] 25) (.cells #[.int .i64 0, .int .i64 0, .slice none 0 0] 25)) (Nat.le_refl _))
  have B3 := Lib.hid (HB.out.later (below3 w (.cells #[.int .i64 W, .int .i64 T, .slice a n' cap] 25) (.cells #[.int .i64 W', .int .i64 T', .slice a' n' cap'] 25) (.cells #[.int .i64 0, .int .i64 0, .slice none 0 0] 25)) (Nat.le_refl _))
  go_enter Try.func38, Try.ntmps38
  go_wp2_with fail
  refine (sameField_any' _ _ _ _ _ _ _ _ _ _ xs ys _ HN.out hn1 HM.out hn1 A3.out B3.out).mono ?_; rintro e w1 ⟨rfl, hb1⟩
  have b1 := below_seq (below3 w _ _ _) hb1
  have p1 := heap_later (heap_later (heap_later (heap_new w _) (below1 _ _)) (below1 _ _)) hb1
  have s1 := heap_later (heap_later (heap_new2 w _ _) (below1 _ _)) hb1
  have q1 := heap_later (heap_new3 w _ _ _) hb1
  obtain ⟨c0, c1, c2⟩ := cells3 p1
  clear A3 B3 hb1
  go_wp2_with fail
  refine (copyField_any W T a n' cap xs _ HN.out (by omega) (by omega) (by omega) (by omega) HNW.out hp (HA.out.below b1)).mono ?_; rintro e w2 ⟨g, rfl, ho, hb2⟩
  have b2 := below_seq b1 hb2
  have s2 := heap_later s1 hb2
  have q2 := heap_later q1 hb2
  have R2 : RowB w2 (w.heap.size + 3) g n' n' (fun i => xs.getD i false) := RowB.of (ho.lower (by have := heap_lt q1; omega)) HN.out
  have lg := R2.base
  clear ho hb2 p1 s1 q1 c0 c1 c2
  obtain ⟨c0, c1, c2⟩ := cells3 s2
  have ls := heap_lt s2
  have lq := heap_lt q2
  go_wp2
  go_loopw [7, 8, 19] (fun _ _ i wr => ∃ k : Nat, k ≤ n' ∧ i = .int .i64 k ∧ RowB wr (w.heap.size + 3) g n' n' (joinK xs ys k) ∧ wr.heap[w.heap.size + 2]? = some (.cells #[.int .i64 0, .int .i64 0, .slice none 0 0] 25 (0, 0)) ∧ wr.heap[w2.heap.size]? = some (.cells #[.int .i64 W, .int .i64 T, .slice (some ⟨g, 0, none⟩) n' n'] 25 (0, 0)) ∧ Below w.heap.size w wr) (fun _ _ i _ => n' - (intOf i).toNat)
  case atStart => exact ⟨0, Nat.zero_le _, rfl, (R2.below (below1 _ _)).congr (by intro i hi; simp [joinK]), heap_later q2 (below1 _ _), heap_new _ _, below_seq b2 (below1 _ _)⟩
  case round =>
    obtain ⟨k, hk, rfl, hr, qr, sr, hbel⟩ := hrel
    clear c0 c1 c2
    obtain ⟨t0, t1, t2⟩ := cells3 sr
    have l2 := heap_lt sr
    by_cases hlt : k < n'
    · obtain ⟨b, off, rfl, hc0⟩ := HB.out k (by rw [← HM.out]; exact hlt)
      have hbl := World.block_lt_of_cell? w _ hc0
      simp only at hbl
      have hc := (hbel.cell (p := ⟨b, off + k, none⟩) hbl).trans hc0
      clear hc0
      have e1 : (k : Int) < n' := by omega
      have e0 : (0 : Int) ≤ k := by omega
      have hcell := hr.cell hlt
      have hfree := hr.free k
      have hmk : joinK xs ys k k = xs.getD k false := by simp [joinK]
      rw [hmk] at hcell
      have hst := joinK_step xs ys k
      have HR := Lib.hid hr; clear hr
      have BEL := Lib.hid hbel; clear hbel
      have HST := Lib.hid hst; clear hst hmk
      cases hx : xs.getD k false
      all_goals
        cases hy : ys.getD k false
        all_goals
          rw [hx] at hcell
          rw [hy] at hc
          have hxy : joinAt xs ys k = (xs.getD k false || ys.getD k false) := rfl
          rw [hx, hy] at hxy
          have HXY := Lib.hid hxy; clear hxy
          have HX := Lib.hid hx; clear hx
          have HY := Lib.hid hy; clear hy
          go_wp2
          go_still_tail 12, (by kernel_rfl)
          change wpList _ _ _ _ _ wr.drew
          go_wp2
          have HS := (HR.out.set k (joinAt xs ys k)).1.congr (f' := joinK xs ys (k + 1)) (fun i hi => HST.out i)
          rw [HXY.out] at HS
          go_roundw
          case rel => exact ⟨k + 1, by omega, by go_num, HS, heap_set_other qr (by simp; omega) _, heap_set_other sr (by simp; omega) _, (BEL.out.setCell (by simp; omega) _).drew⟩
          case measure => simp [intOf]; omega
    · obtain rfl : k = n' := by omega
      have OJ := (hr.congr (f' := joinAt xs ys) (fun i hi => by simp [joinK, hi])).owns
      rw [show tab k (joinAt xs ys) = joinB xs ys by rw [HN.out]; rfl] at OJ
      have HO := Lib.hid OJ; clear OJ hr
      have hlj : Hid (k = (joinB xs ys).length) := by show k = _; rw [HN.out]; simp [joinB, tab_len]
      go_wp2_with fail
      refine (iRegionValid_any _ _ _ _ _ (joinB xs ys) _ hlj.out (by omega) (OwnsB.at HO.out)).mono ?_; rintro e w6 ⟨rfl, hb6⟩
      have q6 := heap_later qr hb6
      have s6 := heap_later sr hb6
      have b6 := below_seq hbel hb6
      have HO6 := Lib.hid (HO.out.below hb6); clear HO
      clear t0 t1 t2
      obtain ⟨t0, t1, t2⟩ := cells3 s6
      obtain ⟨d0, d1, d2⟩ := cells3 q6
      have e0 := free3 q6 0
      have e1 := free3 q6 1
      have e2 := free3 q6 2
      go_wp2
      refine bodyPost_ret (v := .tuple #[.agg #[.int .i64 W, .int .i64 T, .slice (some ⟨g, 0, none⟩) k k], .bool true]) (by simp [results, Try.results38, go_sem, d0, d1, d2]) rfl ⟨_, rfl, ?_, ?_⟩
      · exact HO6.out.set3 (by omega) _ _ _
      · exact below_set3 b6 (by omega) _ _ _

set_option maxHeartbeats 2000000 in
theorem iRegionJoin_big (W T W' T' : Int) (a a' : Option Addr) (n n' cap cap' : Nat) (xs ys : List Bool) (w : World) (hn : n = xs.length) (hn1 : n ≤ 1048576) (hm : n' = ys.length) (hm1 : n' ≤ 1048576) (ha : BoolsAt w a xs) (hb : BoolsAt w a' ys) (h : sameF W T W' T' xs ys = true) (hj : rv W T (joinB xs ys) = false) :
    Calls Try.prog 38 #[.agg #[.int .i64 W, .int .i64 T, .slice a n cap], .agg #[.int .i64 W', .int .i64 T', .slice a' n' cap']] w fun e w' => e = .returned (.tuple #[.agg #[.int .i64 0, .int .i64 0, .slice none 0 0], .bool false]) ∧ Below w.heap.size w w' := by
  obtain ⟨h1, h2, h3, h4, h5⟩ := sameF_true h
  obtain ⟨v1, v2, v3, v4, v5, _⟩ := rv_true h1
  have hnn : n' = n := by rw [hn, hm, h5]
  subst hnn
  have hwt := mul_bd v1 v2 v3 v4
  have hnW : (n' : Int) = W * T := by rw [hn]; exact v5
  have hp : 0 < n' := by omega
  have HNW := Lib.hid hnW; clear hnW v5 h3 h4 h5
  have HN := Lib.hid hn; clear hn
  have HM := Lib.hid hm; clear hm
  have HA := Lib.hid ha; clear ha
  have HB := Lib.hid hb; clear hb
  have A3 := Lib.hid (HA.out.later (below3 w (.cells #[.int .i64 W, .int .i64 T, .slice a n' cap] 25) (.cells #[.int .i64 W', .int .i64 T', .slice a' n' cap'] 25) (.cells #[.int .i64 0, .int .i64 0, .slice none 0 0] 25)) (Nat.le_refl _))
  have B3 := Lib.hid (HB.out.later (below3 w (.cells #[.int .i64 W, .int .i64 T, .slice a n' cap] 25) (.cells #[.int .i64 W', .int .i64 T', .slice a' n' cap'] 25) (.cells #[.int .i64 0, .int .i64 0, .slice none 0 0] 25)) (Nat.le_refl _))
  go_enter Try.func38, Try.ntmps38
  go_wp2_with fail
  refine (sameField_any' _ _ _ _ _ _ _ _ _ _ xs ys _ HN.out hn1 HM.out hn1 A3.out B3.out).mono ?_; rintro e w1 ⟨rfl, hb1⟩
  have b1 := below_seq (below3 w _ _ _) hb1
  have p1 := heap_later (heap_later (heap_later (heap_new w _) (below1 _ _)) (below1 _ _)) hb1
  have s1 := heap_later (heap_later (heap_new2 w _ _) (below1 _ _)) hb1
  have q1 := heap_later (heap_new3 w _ _ _) hb1
  obtain ⟨c0, c1, c2⟩ := cells3 p1
  clear A3 B3 hb1
  go_wp2_with fail
  refine (copyField_any W T a n' cap xs _ HN.out (by omega) (by omega) (by omega) (by omega) HNW.out hp (HA.out.below b1)).mono ?_; rintro e w2 ⟨g, rfl, ho, hb2⟩
  have b2 := below_seq b1 hb2
  have s2 := heap_later s1 hb2
  have q2 := heap_later q1 hb2
  have R2 : RowB w2 (w.heap.size + 3) g n' n' (fun i => xs.getD i false) := RowB.of (ho.lower (by have := heap_lt q1; omega)) HN.out
  have lg := R2.base
  clear ho hb2 p1 s1 q1 c0 c1 c2
  obtain ⟨c0, c1, c2⟩ := cells3 s2
  have ls := heap_lt s2
  have lq := heap_lt q2
  go_wp2
  go_loopw [7, 8, 19] (fun _ _ i wr => ∃ k : Nat, k ≤ n' ∧ i = .int .i64 k ∧ RowB wr (w.heap.size + 3) g n' n' (joinK xs ys k) ∧ wr.heap[w.heap.size + 2]? = some (.cells #[.int .i64 0, .int .i64 0, .slice none 0 0] 25 (0, 0)) ∧ wr.heap[w2.heap.size]? = some (.cells #[.int .i64 W, .int .i64 T, .slice (some ⟨g, 0, none⟩) n' n'] 25 (0, 0)) ∧ Below w.heap.size w wr) (fun _ _ i _ => n' - (intOf i).toNat)
  case atStart => exact ⟨0, Nat.zero_le _, rfl, (R2.below (below1 _ _)).congr (by intro i hi; simp [joinK]), heap_later q2 (below1 _ _), heap_new _ _, below_seq b2 (below1 _ _)⟩
  case round =>
    obtain ⟨k, hk, rfl, hr, qr, sr, hbel⟩ := hrel
    clear c0 c1 c2
    obtain ⟨t0, t1, t2⟩ := cells3 sr
    have l2 := heap_lt sr
    by_cases hlt : k < n'
    · obtain ⟨b, off, rfl, hc0⟩ := HB.out k (by rw [← HM.out]; exact hlt)
      have hbl := World.block_lt_of_cell? w _ hc0
      simp only at hbl
      have hc := (hbel.cell (p := ⟨b, off + k, none⟩) hbl).trans hc0
      clear hc0
      have e1 : (k : Int) < n' := by omega
      have e0 : (0 : Int) ≤ k := by omega
      have hcell := hr.cell hlt
      have hfree := hr.free k
      have hmk : joinK xs ys k k = xs.getD k false := by simp [joinK]
      rw [hmk] at hcell
      have hst := joinK_step xs ys k
      have HR := Lib.hid hr; clear hr
      have BEL := Lib.hid hbel; clear hbel
      have HST := Lib.hid hst; clear hst hmk
      cases hx : xs.getD k false
      all_goals
        cases hy : ys.getD k false
        all_goals
          rw [hx] at hcell
          rw [hy] at hc
          have hxy : joinAt xs ys k = (xs.getD k false || ys.getD k false) := rfl
          rw [hx, hy] at hxy
          have HXY := Lib.hid hxy; clear hxy
          have HX := Lib.hid hx; clear hx
          have HY := Lib.hid hy; clear hy
          go_wp2
          go_still_tail 12, (by kernel_rfl)
          change wpList _ _ _ _ _ wr.drew
          go_wp2
          have HS := (HR.out.set k (joinAt xs ys k)).1.congr (f' := joinK xs ys (k + 1)) (fun i hi => HST.out i)
          rw [HXY.out] at HS
          go_roundw
          case rel => exact ⟨k + 1, by omega, by go_num, HS, heap_set_other qr (by simp; omega) _, heap_set_other sr (by simp; omega) _, (BEL.out.setCell (by simp; omega) _).drew⟩
          case measure => simp [intOf]; omega
    · obtain rfl : k = n' := by omega
      have OJ := (hr.congr (f' := joinAt xs ys) (fun i hi => by simp [joinK, hi])).owns
      rw [show tab k (joinAt xs ys) = joinB xs ys by rw [HN.out]; rfl] at OJ
      have HO := Lib.hid OJ; clear OJ hr
      have hlj : Hid (k = (joinB xs ys).length) := by show k = _; rw [HN.out]; simp [joinB, tab_len]
      go_wp2_with fail
      refine (iRegionValid_any _ _ _ _ _ (joinB xs ys) _ hlj.out (by omega) (OwnsB.at HO.out)).mono ?_; rintro e w6 ⟨rfl, hb6⟩
      have q6 := heap_later qr hb6
      have b6 := below_seq hbel hb6
      obtain ⟨d0, d1, d2⟩ := cells3 q6
      have e0 := free3 q6 0
      have e1 := free3 q6 1
      have e2 := free3 q6 2
      go_wp2
      exact bodyPost_ret (v := .tuple #[.agg #[.int .i64 0, .int .i64 0, .slice none 0 0], .bool false]) (by simp [results, Try.results38, go_sem, d0, d1, d2]) rfl ⟨rfl, below_set3 b6 (by omega) _ _ _⟩

end Go.Proofs.Ytlgmnceicnhhnaa
