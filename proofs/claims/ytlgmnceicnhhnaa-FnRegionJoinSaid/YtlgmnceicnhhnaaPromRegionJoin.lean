/- The law FnRegionJoin: its walk. -/
import Derived.Test.YtlgmnceicnhhnaaDrawP
import Derived.Test.YtlgmnceicnhhnaaMeetS
import Derived.Test.YtlgmnceicnhhnaaJoinS
namespace Go.Proofs.Ytlgmnceicnhhnaa
open Go.RowKit
set_option linter.unusedVariables false
set_option maxRecDepth 100000
set_option linter.unusedSimpArgs false

theorem joinB_len (xs ys : List Bool) : (joinB xs ys).length = xs.length := by unfold joinB; rw [tab_len]
theorem meetB_len (xs ys : List Bool) : (meetB xs ys).length = xs.length := by unfold meetB; rw [tab_len]
theorem join_meet (xs ys : List Bool) : joinB xs (meetB xs ys) = xs := by
  unfold joinB
  rw [tab_congr (g := fun i => xs.getD i false) fun i hi => by
    unfold joinAt
    rw [show (meetB xs ys).getD i false = meetAt xs ys i from tab_getD _ hi]
    unfold meetAt; cases xs.getD i false <;> rfl]
  exact tab_of xs
theorem cnt_join_meet {xs ys : List Bool} (h : xs.length = ys.length) : cnt (joinB xs ys) + cnt (meetB xs ys) = cnt xs + cnt ys := by
  rw [cnt_sum, cnt_sum, cnt_sum xs, cnt_sum ys, joinB_len, meetB_len, ← h, ← sumN_add, ← sumN_add]
  refine sumN_congr fun i hi => ?_
  rw [show (joinB xs ys).getD i false = joinAt xs ys i from tab_getD _ hi, show (meetB xs ys).getD i false = meetAt xs ys i from tab_getD _ hi]
  unfold joinAt meetAt
  cases xs.getD i false <;> cases ys.getD i false <;> rfl
theorem cnt_meet_le (xs ys : List Bool) (h : xs.length = ys.length) : cnt (meetB xs ys) ≤ cnt xs := by
  have h1 := cnt_join_meet h
  have h2 : cnt ys ≤ cnt (joinB xs ys) := by
    rw [cnt_sum, cnt_sum, joinB_len, ← h]
    have : ∀ N, N ≤ xs.length → (sumN N fun i => b2n (ys.getD i false)) ≤ sumN N fun i => b2n ((joinB xs ys).getD i false) := by
      intro N
      induction N with
      | zero => intro _; exact Nat.le_refl _
      | succ N ih =>
        intro hN
        rw [sumN_succ, sumN_succ]
        have := ih (by omega)
        rw [show (joinB xs ys).getD N false = joinAt xs ys N from tab_getD _ (by omega)]
        have : b2n (ys.getD N false) ≤ b2n (joinAt xs ys N) := by unfold joinAt; cases xs.getD N false <;> cases ys.getD N false <;> decide
        omega
    exact this _ (Nat.le_refl _)
  omega
theorem rv_meet {W T : Int} {xs ys : List Bool} (h : rv W T xs = true) (hl : xs.length = ys.length) : rv W T (meetB xs ys) = true := by
  obtain ⟨v1, v2, v3, v4, v5, v6⟩ := rv_true h
  have := cnt_meet_le xs ys hl
  simp [rv]; refine ⟨v1, v2, v3, v4, by rw [meetB_len]; exact v5, by omega⟩

set_option maxHeartbeats 4000000 in
theorem promRegionJoin_walk (cb : Option Addr) (n cap : Nat) (zs : List Int) (w : World) (hn : n = zs.length) (hn' : n ≤ maxLen) (hcap : n ≤ cap) (hb : BytesAt w cb zs) :
    Calls Try.prog 9 #[.slice cb n cap] w fun e w' => e = .returned (.bool true) ∧ Below w.heap.size w w' := by
  have HN := Lib.hid hn; clear hn
  have HB := Lib.hid hb; clear hb
  by_cases hbig : 1048576 < n
  · unfold maxLen at hn'
    go_enter Try.func9, Try.ntmps9
    go_wp2
    go_ret
    exact ⟨rfl, Below.refl _ _⟩
  have hsm : n ≤ 1048576 := by omega
  clear hbig hn'
  go_enter Try.func9, Try.ntmps9
  go_wp2_with fail
  refine (drawRegionJoin_any _ _ _ zs _ HN.out hsm hcap HB.out).mono ?_; rintro e w1 ⟨W, T, a, m, c, xs, W', T', a', m', c', ys, rfl, hm, h36, hs, ho, hm', h36', hs', ho', b1⟩
  have HM := Lib.hid hm; clear hm
  have HM' := Lib.hid hm'; clear hm'
  have AX := Lib.hid (OwnsB.at ho); clear ho
  have AY := Lib.hid (OwnsB.at ho'); clear ho'
  obtain ⟨s0, s1, s2, s3⟩ := hs
  obtain ⟨s0', s1', s2', s3'⟩ := hs'
  have hm1 : m ≤ 1048576 := by omega
  have hm1' : m' ≤ 1048576 := by omega
  cases h : sameF W T W' T' xs ys
  · obtain ⟨wA, hwA⟩ : ∃ wA, wA = (w1.alloc (.cells #[.int .i64 W, .int .i64 T, .slice a m c] 25)).alloc (.cells #[.int .i64 W', .int .i64 T', .slice a' m' c'] 25) := ⟨_, rfl⟩
    have pa := heap_later (heap_new w1 (.cells #[.int .i64 W, .int .i64 T, .slice a m c] 25)) (below1 _ (.cells #[.int .i64 W', .int .i64 T', .slice a' m' c'] 25))
    have pb := heap_new2 w1 (.cells #[.int .i64 W, .int .i64 T, .slice a m c] 25) (.cells #[.int .i64 W', .int .i64 T', .slice a' m' c'] 25)
    rw [← hwA] at pa pb
    have bA : Below w.heap.size w wA := by rw [hwA]; exact below_seq b1 (below2 _ _ _)
    have AXA : Hid (BoolsAt wA a xs) := by rw [hwA]; exact AX.out.two _ _
    have AYA : Hid (BoolsAt wA a' ys) := by rw [hwA]; exact AY.out.two _ _
    go_wp2_with fail
    rw [← hwA]
    have lA := heap_lt pb
    clear hwA
    refine (iRegionJoin_no _ _ _ _ _ _ _ _ _ _ xs ys _ HM.out hm1 HM'.out hm1' AXA.out AYA.out h).mono ?_; rintro e w2 ⟨rfl, hb2⟩
    have b2 := below_seq bA hb2
    have pa_2 := heap_later pa hb2
    have pb_2 := heap_later pb hb2
    have AX_2 := Lib.hid (BoolsAt.below AXA.out hb2)
    have AY_2 := Lib.hid (BoolsAt.below AYA.out hb2)
    clear pa pb AXA AYA
    obtain ⟨c2_pa0, c2_pa1, c2_pa2⟩ := cells3 pa_2
    have l2_pa := heap_lt pa_2
    obtain ⟨c2_pb0, c2_pb1, c2_pb2⟩ := cells3 pb_2
    have l2_pb := heap_lt pb_2
    go_wp2_with fail
    refine (sRegionJoin_no _ _ _ _ _ _ _ _ _ _ xs ys _ HM.out hm1 HM'.out hm1' (BoolsAt.one AX_2.out _) (BoolsAt.one AY_2.out _) h).mono ?_; rintro e w3 ⟨rfl, hb3⟩
    have b3 := below_seq (below_seq b2 (below1 _ _)) hb3
    have px_3 := heap_later (heap_new _ _) hb3
    clear pa_2 pb_2 AX_2 AY_2 c2_pa0 c2_pa1 c2_pa2 l2_pa c2_pb0 c2_pb1 c2_pb2 l2_pb
    obtain ⟨c3_px0, c3_px1, c3_px2⟩ := cells3 px_3
    have l3_px := heap_lt px_3
    go_wp2_with fail
    refine (sameRegion_same _ _ _ _ _ _ _ [] _ rfl (by simp) (BoolsAt.empty _ _) (BoolsAt.empty _ _)).mono ?_; rintro e w4 ⟨rfl, hb4⟩
    have b4 := below_seq (below_seq b3 (below1 _ _)) hb4
    have px_4 := heap_later (heap_later px_3 (below1 _ _)) hb4
    have py_4 := heap_later (heap_new _ _) hb4
    clear px_3 c3_px0 c3_px1 c3_px2 l3_px
    obtain ⟨c4_px0, c4_px1, c4_px2⟩ := cells3 px_4
    have l4_px := heap_lt px_4
    go_wp2_with fail
    refine (alive_any _).mono ?_; rintro e w5 ⟨rfl, hb5⟩
    have b5 := below_seq b4 hb5
    have px_5 := heap_later px_4 hb5
    have py_5 := heap_later py_4 hb5
    clear px_4 py_4 c4_px0 c4_px1 c4_px2 l4_px
    go_wp2
    go_ret
    exact ⟨rfl, b5⟩
  cases hj : rv W T (joinB xs ys)
  · obtain ⟨wA, hwA⟩ : ∃ wA, wA = (w1.alloc (.cells #[.int .i64 W, .int .i64 T, .slice a m c] 25)).alloc (.cells #[.int .i64 W', .int .i64 T', .slice a' m' c'] 25) := ⟨_, rfl⟩
    have pa := heap_later (heap_new w1 (.cells #[.int .i64 W, .int .i64 T, .slice a m c] 25)) (below1 _ (.cells #[.int .i64 W', .int .i64 T', .slice a' m' c'] 25))
    have pb := heap_new2 w1 (.cells #[.int .i64 W, .int .i64 T, .slice a m c] 25) (.cells #[.int .i64 W', .int .i64 T', .slice a' m' c'] 25)
    rw [← hwA] at pa pb
    have bA : Below w.heap.size w wA := by rw [hwA]; exact below_seq b1 (below2 _ _ _)
    have AXA : Hid (BoolsAt wA a xs) := by rw [hwA]; exact AX.out.two _ _
    have AYA : Hid (BoolsAt wA a' ys) := by rw [hwA]; exact AY.out.two _ _
    go_wp2_with fail
    rw [← hwA]
    have lA := heap_lt pb
    clear hwA
    refine (iRegionJoin_big _ _ _ _ _ _ _ _ _ _ xs ys _ HM.out hm1 HM'.out hm1' AXA.out AYA.out h hj).mono ?_; rintro e w2 ⟨rfl, hb2⟩
    have b2 := below_seq bA hb2
    have pa_2 := heap_later pa hb2
    have pb_2 := heap_later pb hb2
    have AX_2 := Lib.hid (BoolsAt.below AXA.out hb2)
    have AY_2 := Lib.hid (BoolsAt.below AYA.out hb2)
    clear pa pb AXA AYA
    obtain ⟨c2_pa0, c2_pa1, c2_pa2⟩ := cells3 pa_2
    have l2_pa := heap_lt pa_2
    obtain ⟨c2_pb0, c2_pb1, c2_pb2⟩ := cells3 pb_2
    have l2_pb := heap_lt pb_2
    go_wp2_with fail
    refine (sRegionJoin_big _ _ _ _ _ _ _ _ _ _ xs ys _ HM.out hm1 HM'.out hm1' (BoolsAt.one AX_2.out _) (BoolsAt.one AY_2.out _) h hj).mono ?_; rintro e w3 ⟨rfl, hb3⟩
    have b3 := below_seq (below_seq b2 (below1 _ _)) hb3
    have px_3 := heap_later (heap_new _ _) hb3
    clear pa_2 pb_2 AX_2 AY_2 c2_pa0 c2_pa1 c2_pa2 l2_pa c2_pb0 c2_pb1 c2_pb2 l2_pb
    obtain ⟨c3_px0, c3_px1, c3_px2⟩ := cells3 px_3
    have l3_px := heap_lt px_3
    go_wp2_with fail
    refine (sameRegion_same _ _ _ _ _ _ _ [] _ rfl (by simp) (BoolsAt.empty _ _) (BoolsAt.empty _ _)).mono ?_; rintro e w4 ⟨rfl, hb4⟩
    have b4 := below_seq (below_seq b3 (below1 _ _)) hb4
    have px_4 := heap_later (heap_later px_3 (below1 _ _)) hb4
    have py_4 := heap_later (heap_new _ _) hb4
    clear px_3 c3_px0 c3_px1 c3_px2 l3_px
    obtain ⟨c4_px0, c4_px1, c4_px2⟩ := cells3 px_4
    have l4_px := heap_lt px_4
    go_wp2_with fail
    refine (alive_any _).mono ?_; rintro e w5 ⟨rfl, hb5⟩
    have b5 := below_seq b4 hb5
    have px_5 := heap_later px_4 hb5
    have py_5 := heap_later py_4 hb5
    clear px_4 py_4 c4_px0 c4_px1 c4_px2 l4_px
    go_wp2
    go_ret
    exact ⟨rfl, b5⟩
  · obtain ⟨k1, k2, rfl, rfl, k5⟩ := sameF_true h
    have hmm : m' = m := by rw [HM.out, HM'.out, k5]
    subst hmm
    have HB1 : Hid (m' = (joinB xs ys).length) := by show m' = _; rw [joinB_len]; exact HM.out
    have HB2 : Hid (m' = (meetB xs ys).length) := by show m' = _; rw [meetB_len]; exact HM.out
    have hrm := rv_meet k1 k5
    have HJM := Lib.hid (join_meet xs ys)
    have HX2 : Hid (sameF W T W T xs (meetB xs ys) = true) := by
      show sameF _ _ _ _ _ _ = true
      simp only [sameF, Bool.and_eq_true, decide_eq_true_eq]
      exact ⟨⟨⟨k1, hrm⟩, trivial⟩, trivial⟩
    have HJ2 : Hid (rv W T (joinB xs (meetB xs ys)) = true) := by show rv _ _ _ = true; rw [join_meet]; exact k1
    have hcnt := cnt_join_meet k5
    obtain ⟨Jn, hJ⟩ : ∃ k, k = cnt (joinB xs ys) := ⟨_, rfl⟩
    obtain ⟨Mn, hMn⟩ : ∃ k, k = cnt (meetB xs ys) := ⟨_, rfl⟩
    obtain ⟨An, hAn⟩ : ∃ k, k = cnt xs := ⟨_, rfl⟩
    obtain ⟨Bn, hBn⟩ : ∃ k, k = cnt ys := ⟨_, rfl⟩
    rw [← hJ, ← hMn, ← hAn, ← hBn] at hcnt
    have EJ : Hid (many W T (joinB xs ys) = Jn) := by show many _ _ _ = _; unfold many; rw [hj, if_pos rfl, hJ]
    have EM : Hid (many W T (meetB xs ys) = Mn) := by show many _ _ _ = _; unfold many; rw [hrm, if_pos rfl, hMn]
    have EA : Hid (many W T xs = An) := by show many _ _ _ = _; unfold many; rw [k1, if_pos rfl, hAn]
    have EB : Hid (many W T ys = Bn) := by show many _ _ _ = _; unfold many; rw [k2, if_pos rfl, hBn]
    have l1 : Jn ≤ 24 := by rw [hJ]; exact (rv_true hj).2.2.2.2.2
    have l2 : Mn ≤ 24 := by rw [hMn]; exact (rv_true hrm).2.2.2.2.2
    have l3 : An ≤ 24 := by rw [hAn]; exact (rv_true k1).2.2.2.2.2
    have l4 : Bn ≤ 24 := by rw [hBn]; exact (rv_true k2).2.2.2.2.2
    have HJ := Lib.hid hj; clear hj
    have HX := Lib.hid h; clear h k1 k2 k5 hrm hJ hMn hAn hBn
    obtain ⟨wA, hwA⟩ : ∃ wA, wA = (w1.alloc (.cells #[.int .i64 W, .int .i64 T, .slice a m' c] 25)).alloc (.cells #[.int .i64 W, .int .i64 T, .slice a' m' c'] 25) := ⟨_, rfl⟩
    have pa := heap_later (heap_new w1 (.cells #[.int .i64 W, .int .i64 T, .slice a m' c] 25)) (below1 _ (.cells #[.int .i64 W, .int .i64 T, .slice a' m' c'] 25))
    have pb := heap_new2 w1 (.cells #[.int .i64 W, .int .i64 T, .slice a m' c] 25) (.cells #[.int .i64 W, .int .i64 T, .slice a' m' c'] 25)
    rw [← hwA] at pa pb
    have bA : Below w.heap.size w wA := by rw [hwA]; exact below_seq b1 (below2 _ _ _)
    have AXA : Hid (BoolsAt wA a xs) := by rw [hwA]; exact AX.out.two _ _
    have AYA : Hid (BoolsAt wA a' ys) := by rw [hwA]; exact AY.out.two _ _
    go_wp2_with fail
    rw [← hwA]
    have lA := heap_lt pb
    clear hwA
    refine (iRegionJoin_yes _ _ _ _ _ _ _ _ _ _ xs ys _ HM.out hm1 HM'.out hm1' AXA.out AYA.out HX.out HJ.out).mono ?_; rintro e w2 ⟨g2, rfl, ho2, hb2⟩
    have b2 := below_seq bA hb2
    have z2 : wA.heap.size + 0 ≤ w2.heap.size := by have := hb2.size; (try simp at this); omega
    have pa_2 := heap_later pa hb2
    have pb_2 := heap_later pb hb2
    have AX_2 := Lib.hid (BoolsAt.below AXA.out hb2)
    have AY_2 := Lib.hid (BoolsAt.below AYA.out hb2)
    have FX_2 := Lib.hid (OwnsB.at ho2)
    clear pa pb AXA AYA
    obtain ⟨c2_pa0, c2_pa1, c2_pa2⟩ := cells3 pa_2
    have l2_pa := heap_lt pa_2
    obtain ⟨c2_pb0, c2_pb1, c2_pb2⟩ := cells3 pb_2
    have l2_pb := heap_lt pb_2
    clear ho2
    go_wp2_with fail
    refine (sRegionJoin_yes _ _ _ _ _ _ _ _ _ _ xs ys _ HM.out hm1 HM'.out hm1' (BoolsAt.one AX_2.out _) (BoolsAt.one AY_2.out _) HX.out HJ.out).mono ?_; rintro e w3 ⟨g3, c3, rfl, ho3, hb3⟩
    have b3 := below_seq (below_seq b2 (below1 _ _)) hb3
    have z3 : w2.heap.size + 1 ≤ w3.heap.size := by have := hb3.size; (try simp at this); omega
    have pa_3 := heap_later (heap_later pa_2 (below1 _ _)) hb3
    have pb_3 := heap_later (heap_later pb_2 (below1 _ _)) hb3
    have AX_3 := Lib.hid (BoolsAt.below (BoolsAt.one AX_2.out _) hb3)
    have AY_3 := Lib.hid (BoolsAt.below (BoolsAt.one AY_2.out _) hb3)
    have FX_3 := Lib.hid (BoolsAt.below (BoolsAt.one FX_2.out _) hb3)
    have px_3 := heap_later (heap_new _ _) hb3
    have FY_3 := Lib.hid (OwnsB.at ho3)
    clear pa_2 pb_2 AX_2 AY_2 FX_2 c2_pa0 c2_pa1 c2_pa2 l2_pa c2_pb0 c2_pb1 c2_pb2 l2_pb
    obtain ⟨c3_px0, c3_px1, c3_px2⟩ := cells3 px_3
    have l3_px := heap_lt px_3
    clear ho3
    go_wp2_with fail
    refine (sameRegion_same _ _ _ _ _ _ _ (joinB xs ys) _ HB1.out hm1 (BoolsAt.one FX_3.out _) (BoolsAt.one FY_3.out _)).mono ?_; rintro e w4 ⟨rfl, hb4⟩
    have b4 := below_seq (below_seq b3 (below1 _ _)) hb4
    have z4 : w3.heap.size + 1 ≤ w4.heap.size := by have := hb4.size; (try simp at this); omega
    have pa_4 := heap_later (heap_later pa_3 (below1 _ _)) hb4
    have pb_4 := heap_later (heap_later pb_3 (below1 _ _)) hb4
    have AX_4 := Lib.hid (BoolsAt.below (BoolsAt.one AX_3.out _) hb4)
    have AY_4 := Lib.hid (BoolsAt.below (BoolsAt.one AY_3.out _) hb4)
    have FX_4 := Lib.hid (BoolsAt.below (BoolsAt.one FX_3.out _) hb4)
    have px_4 := heap_later (heap_later px_3 (below1 _ _)) hb4
    have py_4 := heap_later (heap_new _ _) hb4
    clear pa_3 pb_3 AX_3 AY_3 FX_3 px_3 FY_3 c3_px0 c3_px1 c3_px2 l3_px
    obtain ⟨c4_pa0, c4_pa1, c4_pa2⟩ := cells3 pa_4
    have l4_pa := heap_lt pa_4
    obtain ⟨c4_pb0, c4_pb1, c4_pb2⟩ := cells3 pb_4
    have l4_pb := heap_lt pb_4
    go_wp2_with fail
    refine (iRegionMeet_yes _ _ _ _ _ _ _ _ _ _ xs ys _ HM.out hm1 HM'.out hm1' AX_4.out AY_4.out HX.out).mono ?_; rintro e w5 ⟨g5, rfl, ho5, hb5⟩
    have b5 := below_seq b4 hb5
    have z5 : w4.heap.size + 0 ≤ w5.heap.size := by have := hb5.size; (try simp at this); omega
    have pa_5 := heap_later pa_4 hb5
    have pb_5 := heap_later pb_4 hb5
    have AX_5 := Lib.hid (BoolsAt.below AX_4.out hb5)
    have AY_5 := Lib.hid (BoolsAt.below AY_4.out hb5)
    have FX_5 := Lib.hid (BoolsAt.below FX_4.out hb5)
    have px_5 := heap_later px_4 hb5
    have py_5 := heap_later py_4 hb5
    have FM_5 := Lib.hid (OwnsB.at ho5)
    clear pa_4 pb_4 AX_4 AY_4 FX_4 px_4 py_4 c4_pa0 c4_pa1 c4_pa2 l4_pa c4_pb0 c4_pb1 c4_pb2 l4_pb
    obtain ⟨c5_pa0, c5_pa1, c5_pa2⟩ := cells3 pa_5
    have l5_pa := heap_lt pa_5
    clear ho5
    go_wp2_with fail
    refine (iRegionJoin_yes _ _ _ _ _ _ _ _ _ _ xs (meetB xs ys) _ HM.out hm1 HB2.out hm1 (BoolsAt.one AX_5.out _) (BoolsAt.one FM_5.out _) HX2.out HJ2.out).mono ?_; rintro e w6 ⟨g6, rfl, ho6, hb6⟩
    have b6 := below_seq (below_seq b5 (below1 _ _)) hb6
    have z6 : w5.heap.size + 1 ≤ w6.heap.size := by have := hb6.size; (try simp at this); omega
    have pa_6 := heap_later (heap_later pa_5 (below1 _ _)) hb6
    have pb_6 := heap_later (heap_later pb_5 (below1 _ _)) hb6
    have AX_6 := Lib.hid (BoolsAt.below (BoolsAt.one AX_5.out _) hb6)
    have AY_6 := Lib.hid (BoolsAt.below (BoolsAt.one AY_5.out _) hb6)
    have FX_6 := Lib.hid (BoolsAt.below (BoolsAt.one FX_5.out _) hb6)
    have px_6 := heap_later (heap_later px_5 (below1 _ _)) hb6
    have py_6 := heap_later (heap_later py_5 (below1 _ _)) hb6
    have FM_6 := Lib.hid (BoolsAt.below (BoolsAt.one FM_5.out _) hb6)
    have pm_6 := heap_later (heap_new _ _) hb6
    have FB_6 := Lib.hid ((by have h9 := OwnsB.at ho6; rw [HJM.out] at h9; exact h9 : BoolsAt _ _ xs))
    clear pa_5 pb_5 AX_5 AY_5 FX_5 px_5 py_5 FM_5 c5_pa0 c5_pa1 c5_pa2 l5_pa
    clear ho6
    obtain ⟨wB, hwB⟩ : ∃ wB, wB = w6.alloc (.cells #[.int .i64 W, .int .i64 T, .slice (some ⟨g6, 0, none⟩) m' m'] 25) := ⟨_, rfl⟩
    have pkB : wB.heap[w6.heap.size]? = some (.cells #[.int .i64 W, .int .i64 T, .slice (some ⟨g6, 0, none⟩) m' m'] 25 (0, 0)) := by rw [hwB]; exact heap_new _ _
    have paB := heap_later pa_6 (below1 _ (.cells #[.int .i64 W, .int .i64 T, .slice (some ⟨g6, 0, none⟩) m' m'] 25))
    have pbB := heap_later pb_6 (below1 _ (.cells #[.int .i64 W, .int .i64 T, .slice (some ⟨g6, 0, none⟩) m' m'] 25))
    have pxB := heap_later px_6 (below1 _ (.cells #[.int .i64 W, .int .i64 T, .slice (some ⟨g6, 0, none⟩) m' m'] 25))
    have pmB := heap_later pm_6 (below1 _ (.cells #[.int .i64 W, .int .i64 T, .slice (some ⟨g6, 0, none⟩) m' m'] 25))
    rw [← hwB] at paB pbB pxB pmB
    have A1 : Hid (BoolsAt wB a xs) := by rw [hwB]; exact AX_6.out.one _
    have A2 : Hid (BoolsAt wB a' ys) := by rw [hwB]; exact AY_6.out.one _
    have A3 : Hid (BoolsAt wB (some ⟨g2, 0, none⟩) (joinB xs ys)) := by rw [hwB]; exact FX_6.out.one _
    have A4 : Hid (BoolsAt wB (some ⟨g5, 0, none⟩) (meetB xs ys)) := by rw [hwB]; exact FM_6.out.one _
    have A5 : Hid (BoolsAt wB (some ⟨g6, 0, none⟩) xs) := by rw [hwB]; exact FB_6.out.one _
    have bB : Below w.heap.size w wB := by rw [hwB]; exact below_seq b6 (below1 _ _)
    have q1 : IntKind.i64.wrap ((Jn : Int) + Mn) = (Jn : Int) + Mn := IntWalk.i64_in _ (by omega)
    have q2 : IntKind.i64.wrap ((An : Int) + Bn) = (An : Int) + Bn := IntWalk.i64_in _ (by clear q1; omega)
    have q3 : ((Jn : Int) + Mn == (An : Int) + Bn) = true := by clear q1 q2; simp; omega
    clear hcnt
    go_wp2_with fail
    rw [← hwB]
    clear hwB
    obtain ⟨pac0, pac1, pac2⟩ := cells3 paB
    have pal := heap_lt paB
    obtain ⟨pbc0, pbc1, pbc2⟩ := cells3 pbB
    have pbl := heap_lt pbB
    obtain ⟨pxc0, pxc1, pxc2⟩ := cells3 pxB
    have pxl := heap_lt pxB
    obtain ⟨pmc0, pmc1, pmc2⟩ := cells3 pmB
    have pml := heap_lt pmB
    obtain ⟨pkc0, pkc1, pkc2⟩ := cells3 pkB
    have pkl := heap_lt pkB
    have Ppa : wB.drew.heap[w1.heap.size]? = some _ := paB
    have Ppb : wB.drew.heap[w1.heap.size + 1]? = some _ := pbB
    have Ppx : wB.drew.heap[w2.heap.size]? = some _ := pxB
    have Ppm : wB.drew.heap[w5.heap.size]? = some _ := pmB
    have Ppk : wB.drew.heap[w6.heap.size]? = some _ := pkB
    have B1 : Hid (BoolsAt wB.drew a xs) := by show BoolsAt _ _ _; exact A1.out
    have B2 : Hid (BoolsAt wB.drew a' ys) := by show BoolsAt _ _ _; exact A2.out
    have B3 : Hid (BoolsAt wB.drew (some ⟨g2, 0, none⟩) (joinB xs ys)) := by show BoolsAt _ _ _; exact A3.out
    have B4 : Hid (BoolsAt wB.drew (some ⟨g5, 0, none⟩) (meetB xs ys)) := by show BoolsAt _ _ _; exact A4.out
    have B5 : Hid (BoolsAt wB.drew (some ⟨g6, 0, none⟩) xs) := by show BoolsAt _ _ _; exact A5.out
    go_region_held3 (fun w' => w'.cell? ⟨w1.heap.size, 0, none⟩ = some (.int .i64 W) ∧ w'.cell? ⟨w1.heap.size, 1, none⟩ = some (.int .i64 T) ∧ w'.cell? ⟨w1.heap.size, 2, none⟩ = some (.slice a m' c) ∧ w'.cell? ⟨(w1.heap.size + 1), 0, none⟩ = some (.int .i64 W) ∧ w'.cell? ⟨(w1.heap.size + 1), 1, none⟩ = some (.int .i64 T) ∧ w'.cell? ⟨(w1.heap.size + 1), 2, none⟩ = some (.slice a' m' c') ∧ w'.cell? ⟨w2.heap.size, 0, none⟩ = some (.int .i64 W) ∧ w'.cell? ⟨w2.heap.size, 1, none⟩ = some (.int .i64 T) ∧ w'.cell? ⟨w2.heap.size, 2, none⟩ = some (.slice (some ⟨g2, 0, none⟩) m' m') ∧ w'.cell? ⟨w5.heap.size, 0, none⟩ = some (.int .i64 W) ∧ w'.cell? ⟨w5.heap.size, 1, none⟩ = some (.int .i64 T) ∧ w'.cell? ⟨w5.heap.size, 2, none⟩ = some (.slice (some ⟨g5, 0, none⟩) m' m') ∧ w'.cell? ⟨w6.heap.size, 0, none⟩ = some (.int .i64 W) ∧ w'.cell? ⟨w6.heap.size, 1, none⟩ = some (.int .i64 T) ∧ w'.cell? ⟨w6.heap.size, 2, none⟩ = some (.slice (some ⟨g6, 0, none⟩) m' m'))
      (go_keep)
      (first
        | (go_at_call 25; (with_reducible refine (sameRegion_same _ _ _ _ _ _ _ xs _ HM.out hm1 (((((B5.out).below hb8).below hb9).below hb10).below hb11) (((((B1.out).below hb8).below hb9).below hb10).below hb11)).mono ?_); rintro e w12 ⟨rfl, hb12⟩; have pa12 := heap_later pa11 hb12; have pb12 := heap_later pb11 hb12; have px12 := heap_later px11 hb12; have pm12 := heap_later pm11 hb12; have pk12 := heap_later pk11 hb12; obtain ⟨pac120, pac121, pac122⟩ := cells3 pa12; obtain ⟨pbc120, pbc121, pbc122⟩ := cells3 pb12; obtain ⟨pxc120, pxc121, pxc122⟩ := cells3 px12; obtain ⟨pmc120, pmc121, pmc122⟩ := cells3 pm12; obtain ⟨pkc120, pkc121, pkc122⟩ := cells3 pk12)
        | (go_at_call 26; (with_reducible refine (iCellsMany_any _ _ _ _ _ ys _ HM'.out hm1 ((((B2.out).below hb8).below hb9).below hb10)).mono ?_); rintro e w11 ⟨rfl, hb11⟩; rw [EB.out]; have pa11 := heap_later pa10 hb11; have pb11 := heap_later pb10 hb11; have px11 := heap_later px10 hb11; have pm11 := heap_later pm10 hb11; have pk11 := heap_later pk10 hb11; obtain ⟨pac110, pac111, pac112⟩ := cells3 pa11; obtain ⟨pbc110, pbc111, pbc112⟩ := cells3 pb11; obtain ⟨pxc110, pxc111, pxc112⟩ := cells3 px11; obtain ⟨pmc110, pmc111, pmc112⟩ := cells3 pm11; obtain ⟨pkc110, pkc111, pkc112⟩ := cells3 pk11)
        | (go_at_call 26; (with_reducible refine (iCellsMany_any _ _ _ _ _ xs _ HM.out hm1 (((B1.out).below hb8).below hb9)).mono ?_); rintro e w10 ⟨rfl, hb10⟩; rw [EA.out]; have pa10 := heap_later pa9 hb10; have pb10 := heap_later pb9 hb10; have px10 := heap_later px9 hb10; have pm10 := heap_later pm9 hb10; have pk10 := heap_later pk9 hb10; obtain ⟨pac100, pac101, pac102⟩ := cells3 pa10; obtain ⟨pbc100, pbc101, pbc102⟩ := cells3 pb10; obtain ⟨pxc100, pxc101, pxc102⟩ := cells3 px10; obtain ⟨pmc100, pmc101, pmc102⟩ := cells3 pm10; obtain ⟨pkc100, pkc101, pkc102⟩ := cells3 pk10)
        | (go_at_call 26; (with_reducible refine (iCellsMany_any _ _ _ _ _ (meetB xs ys) _ HB2.out hm1 ((B4.out).below hb8)).mono ?_); rintro e w9 ⟨rfl, hb9⟩; rw [EM.out]; have pa9 := heap_later pa8 hb9; have pb9 := heap_later pb8 hb9; have px9 := heap_later px8 hb9; have pm9 := heap_later pm8 hb9; have pk9 := heap_later pk8 hb9; obtain ⟨pac90, pac91, pac92⟩ := cells3 pa9; obtain ⟨pbc90, pbc91, pbc92⟩ := cells3 pb9; obtain ⟨pxc90, pxc91, pxc92⟩ := cells3 px9; obtain ⟨pmc90, pmc91, pmc92⟩ := cells3 pm9; obtain ⟨pkc90, pkc91, pkc92⟩ := cells3 pk9)
        | (go_at_call 26; (with_reducible refine (iCellsMany_any _ _ _ _ _ (joinB xs ys) _ HB1.out hm1 (B3.out)).mono ?_); rintro e w8 ⟨rfl, hb8⟩; rw [EJ.out]; have pa8 := heap_later Ppa hb8; have pb8 := heap_later Ppb hb8; have px8 := heap_later Ppx hb8; have pm8 := heap_later Ppm hb8; have pk8 := heap_later Ppk hb8; obtain ⟨pac80, pac81, pac82⟩ := cells3 pa8; obtain ⟨pbc80, pbc81, pbc82⟩ := cells3 pb8; obtain ⟨pxc80, pxc81, pxc82⟩ := cells3 px8; obtain ⟨pmc80, pmc81, pmc82⟩ := cells3 pm8; obtain ⟨pkc80, pkc81, pkc82⟩ := cells3 pk8))
    go_wp2
    go_ret
    exact ⟨rfl, below_seq bB (below_seq (drew_below _) (below_seq hb8 (below_seq hb9 (below_seq hb10 (below_seq hb11 hb12)))))⟩

end Go.Proofs.Ytlgmnceicnhhnaa
