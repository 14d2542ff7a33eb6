/- The law FnRegionMeet: its walk. -/
import Derived.Test.YtlgmnceicnhhnaaDrawP
import Derived.Test.YtlgmnceicnhhnaaMeetS
namespace Go.Proofs.Ytlgmnceicnhhnaa
open Go.RowKit
set_option linter.unusedVariables false
set_option maxRecDepth 100000
set_option linter.unusedSimpArgs false

theorem BoolsAt.cellAt'' {w : World} {b off : Nat} {xs : List Bool} (h : BoolsAt w (some ⟨b, off, none⟩) xs) {i : Nat} (hi : i < xs.length) : w.cell? ⟨b, off + i, none⟩ = some (.bool (xs.getD i false)) := by
  obtain ⟨b', off', e, hc⟩ := h i hi
  simp only [Option.some.injEq, Addr.mk.injEq, and_true] at e
  obtain ⟨rfl, rfl⟩ := e
  exact hc
theorem meet_comm {xs ys : List Bool} (h : xs.length = ys.length) : meetB ys xs = meetB xs ys := by
  unfold meetB; rw [h]; exact tab_congr fun i _ => by unfold meetAt; cases xs.getD i false <;> cases ys.getD i false <;> rfl
theorem meet_self (xs : List Bool) : meetB xs xs = xs := by
  unfold meetB
  rw [tab_congr (g := fun i => xs.getD i false) fun i _ => by unfold meetAt; cases xs.getD i false <;> rfl]
  exact tab_of xs
theorem sameF_swap {W T : Int} {xs ys : List Bool} (h : sameF W T W T xs ys = true) : sameF W T W T ys xs = true := by
  simp only [sameF, Bool.and_eq_true, decide_eq_true_eq] at h ⊢
  exact ⟨⟨⟨h.1.1.2, h.1.1.1⟩, trivial⟩, trivial⟩
theorem sameF_self {W T : Int} {xs ys : List Bool} (h : sameF W T W T xs ys = true) : sameF W T W T xs xs = true := by
  simp only [sameF, Bool.and_eq_true, decide_eq_true_eq] at h ⊢
  exact ⟨⟨⟨h.1.1.1, h.1.1.1⟩, trivial⟩, trivial⟩

set_option maxHeartbeats 3000000 in
theorem promRegionMeet_walk (cb : Option Addr) (n cap : Nat) (zs : List Int) (w : World) (hn : n = zs.length) (hn' : n ≤ maxLen) (hcap : n ≤ cap) (hb : BytesAt w cb zs) :
    Calls Try.prog 10 #[.slice cb n cap] w fun e w' => e = .returned (.bool true) ∧ Below w.heap.size w w' := by
  have HN := Lib.hid hn; clear hn
  have HB := Lib.hid hb; clear hb
  by_cases hbig : 1048576 < n
  · unfold maxLen at hn'
    go_enter Try.func10, Try.ntmps10
    go_wp2
    go_ret
    exact ⟨rfl, Below.refl _ _⟩
  have hsm : n ≤ 1048576 := by omega
  clear hbig hn'
  go_enter Try.func10, Try.ntmps10
  go_wp2_with fail
  refine (drawRegionMeet_any _ _ _ zs _ HN.out hsm hcap HB.out).mono ?_; rintro e w1 ⟨W, T, a, m, c, xs, W', T', a', m', c', ys, rfl, hm, h36, hs, ho, hm', h36', hs', ho', b1⟩
  have HM := Lib.hid hm; clear hm
  have HM' := Lib.hid hm'; clear hm'
  have AX := Lib.hid (OwnsB.at ho); clear ho
  have AY := Lib.hid (OwnsB.at ho'); clear ho'
  obtain ⟨s0, s1, s2, s3⟩ := hs
  obtain ⟨s0', s1', s2', s3'⟩ := hs'
  have hm1 : m ≤ 1048576 := by omega
  have hm1' : m' ≤ 1048576 := by omega
  cases h : sameF W T W' T' xs ys
  · obtain ⟨wA, hwA⟩ : ∃ wA, wA = (w1.alloc (.cells #[.int .i64 W, .int .i64 T, .slice a m c] 25)).alloc (.cells #[.int .i64 W', .int .i64 T', .slice a' m' c'] 25) := ⟨_, rfl⟩
    have pa := heap_later (heap_new w1 (.cells #[.int .i64 W, .int .i64 T, .slice a m c] 25)) (below1 _ (.cells #[.int .i64 W', .int .i64 T', .slice a' m' c'] 25))
    have pb := heap_new2 w1 (.cells #[.int .i64 W, .int .i64 T, .slice a m c] 25) (.cells #[.int .i64 W', .int .i64 T', .slice a' m' c'] 25)
    rw [← hwA] at pa pb
    have bA : Below w.heap.size w wA := by rw [hwA]; exact below_seq b1 (below2 _ _ _)
    have AXA : Hid (BoolsAt wA a xs) := by rw [hwA]; exact AX.out.two _ _
    have AYA : Hid (BoolsAt wA a' ys) := by rw [hwA]; exact AY.out.two _ _
    go_wp2_with fail
    rw [← hwA]
    have lA := heap_lt pb
    clear hwA
    refine (iRegionMeet_no _ _ _ _ _ _ _ _ _ _ xs ys _ HM.out hm1 HM'.out hm1' AXA.out AYA.out h).mono ?_; rintro e w2 ⟨rfl, hb2⟩
    have b2 := below_seq bA hb2
    have pa_2 := heap_later pa hb2
    have pb_2 := heap_later pb hb2
    have AX_2 := Lib.hid (BoolsAt.below AXA.out hb2)
    have AY_2 := Lib.hid (BoolsAt.below AYA.out hb2)
    clear pa pb AXA AYA
    obtain ⟨c2_pa0, c2_pa1, c2_pa2⟩ := cells3 pa_2
    have l2_pa := heap_lt pa_2
    obtain ⟨c2_pb0, c2_pb1, c2_pb2⟩ := cells3 pb_2
    have l2_pb := heap_lt pb_2
    go_wp2_with fail
    refine (sRegionMeet_no _ _ _ _ _ _ _ _ _ _ xs ys _ HM.out hm1 HM'.out hm1' (BoolsAt.one AX_2.out _) (BoolsAt.one AY_2.out _) h).mono ?_; rintro e w3 ⟨rfl, hb3⟩
    have b3 := below_seq (below_seq b2 (below1 _ _)) hb3
    have px_3 := heap_later (heap_new _ _) hb3
    clear pa_2 pb_2 AX_2 AY_2 c2_pa0 c2_pa1 c2_pa2 l2_pa c2_pb0 c2_pb1 c2_pb2 l2_pb
    obtain ⟨c3_px0, c3_px1, c3_px2⟩ := cells3 px_3
    have l3_px := heap_lt px_3
    go_wp2_with fail
    refine (sameRegion_same _ _ _ _ _ _ _ [] _ rfl (by simp) (BoolsAt.empty _ _) (BoolsAt.empty _ _)).mono ?_; rintro e w4 ⟨rfl, hb4⟩
    have b4 := below_seq (below_seq b3 (below1 _ _)) hb4
    have px_4 := heap_later (heap_later px_3 (below1 _ _)) hb4
    have py_4 := heap_later (heap_new _ _) hb4
    clear px_3 c3_px0 c3_px1 c3_px2 l3_px
    obtain ⟨c4_px0, c4_px1, c4_px2⟩ := cells3 px_4
    have l4_px := heap_lt px_4
    go_wp2_with fail
    refine (alive_any _).mono ?_; rintro e w5 ⟨rfl, hb5⟩
    have b5 := below_seq b4 hb5
    have px_5 := heap_later px_4 hb5
    have py_5 := heap_later py_4 hb5
    clear px_4 py_4 c4_px0 c4_px1 c4_px2 l4_px
    go_wp2
    go_ret
    exact ⟨rfl, b5⟩
  · obtain ⟨k1, k2, rfl, rfl, k5⟩ := sameF_true h
    have hmm : m' = m := by rw [HM.out, HM'.out, k5]
    subst hmm
    have HC := Lib.hid (meet_comm k5)
    have HS := Lib.hid (meet_self xs)
    have HB1 : Hid (m' = (meetB xs ys).length) := by show m' = _; unfold meetB; rw [tab_len]; exact HM.out
    have HX1 := Lib.hid (sameF_swap h)
    have HX2 := Lib.hid (sameF_self h)
    have HX := Lib.hid h; clear h k1 k2 k5
    obtain ⟨wA, hwA⟩ : ∃ wA, wA = (w1.alloc (.cells #[.int .i64 W, .int .i64 T, .slice a m' c] 25)).alloc (.cells #[.int .i64 W, .int .i64 T, .slice a' m' c'] 25) := ⟨_, rfl⟩
    have pa := heap_later (heap_new w1 (.cells #[.int .i64 W, .int .i64 T, .slice a m' c] 25)) (below1 _ (.cells #[.int .i64 W, .int .i64 T, .slice a' m' c'] 25))
    have pb := heap_new2 w1 (.cells #[.int .i64 W, .int .i64 T, .slice a m' c] 25) (.cells #[.int .i64 W, .int .i64 T, .slice a' m' c'] 25)
    rw [← hwA] at pa pb
    have bA : Below w.heap.size w wA := by rw [hwA]; exact below_seq b1 (below2 _ _ _)
    have AXA : Hid (BoolsAt wA a xs) := by rw [hwA]; exact AX.out.two _ _
    have AYA : Hid (BoolsAt wA a' ys) := by rw [hwA]; exact AY.out.two _ _
    go_wp2_with fail
    rw [← hwA]
    have lA := heap_lt pb
    clear hwA
    refine (iRegionMeet_yes _ _ _ _ _ _ _ _ _ _ xs ys _ HM.out hm1 HM'.out hm1' AXA.out AYA.out HX.out).mono ?_; rintro e w2 ⟨g2, rfl, ho2, hb2⟩
    have b2 := below_seq bA hb2
    have z2 : wA.heap.size + 0 ≤ w2.heap.size := by have := hb2.size; (try simp at this); omega
    have pa_2 := heap_later pa hb2
    have pb_2 := heap_later pb hb2
    have AX_2 := Lib.hid (BoolsAt.below AXA.out hb2)
    have AY_2 := Lib.hid (BoolsAt.below AYA.out hb2)
    have FX_2 := Lib.hid (OwnsB.at ho2)
    clear pa pb AXA AYA
    obtain ⟨c2_pa0, c2_pa1, c2_pa2⟩ := cells3 pa_2
    have l2_pa := heap_lt pa_2
    obtain ⟨c2_pb0, c2_pb1, c2_pb2⟩ := cells3 pb_2
    have l2_pb := heap_lt pb_2
    clear ho2
    go_wp2_with fail
    refine (sRegionMeet_yes _ _ _ _ _ _ _ _ _ _ xs ys _ HM.out hm1 HM'.out hm1' (BoolsAt.one AX_2.out _) (BoolsAt.one AY_2.out _) HX.out).mono ?_; rintro e w3 ⟨g3, c3, rfl, ho3, hb3⟩
    have b3 := below_seq (below_seq b2 (below1 _ _)) hb3
    have z3 : w2.heap.size + 1 ≤ w3.heap.size := by have := hb3.size; (try simp at this); omega
    have pa_3 := heap_later (heap_later pa_2 (below1 _ _)) hb3
    have pb_3 := heap_later (heap_later pb_2 (below1 _ _)) hb3
    have AX_3 := Lib.hid (BoolsAt.below (BoolsAt.one AX_2.out _) hb3)
    have AY_3 := Lib.hid (BoolsAt.below (BoolsAt.one AY_2.out _) hb3)
    have FX_3 := Lib.hid (BoolsAt.below (BoolsAt.one FX_2.out _) hb3)
    have px_3 := heap_later (heap_new _ _) hb3
    have FY_3 := Lib.hid (OwnsB.at ho3)
    clear pa_2 pb_2 AX_2 AY_2 FX_2 c2_pa0 c2_pa1 c2_pa2 l2_pa c2_pb0 c2_pb1 c2_pb2 l2_pb
    obtain ⟨c3_px0, c3_px1, c3_px2⟩ := cells3 px_3
    have l3_px := heap_lt px_3
    clear ho3
    go_wp2_with fail
    refine (sameRegion_same _ _ _ _ _ _ _ (meetB xs ys) _ HB1.out hm1 (BoolsAt.one FX_3.out _) (BoolsAt.one FY_3.out _)).mono ?_; rintro e w4 ⟨rfl, hb4⟩
    have b4 := below_seq (below_seq b3 (below1 _ _)) hb4
    have z4 : w3.heap.size + 1 ≤ w4.heap.size := by have := hb4.size; (try simp at this); omega
    have pa_4 := heap_later (heap_later pa_3 (below1 _ _)) hb4
    have pb_4 := heap_later (heap_later pb_3 (below1 _ _)) hb4
    have AX_4 := Lib.hid (BoolsAt.below (BoolsAt.one AX_3.out _) hb4)
    have AY_4 := Lib.hid (BoolsAt.below (BoolsAt.one AY_3.out _) hb4)
    have FX_4 := Lib.hid (BoolsAt.below (BoolsAt.one FX_3.out _) hb4)
    have px_4 := heap_later (heap_later px_3 (below1 _ _)) hb4
    have py_4 := heap_later (heap_new _ _) hb4
    clear pa_3 pb_3 AX_3 AY_3 FX_3 px_3 FY_3 c3_px0 c3_px1 c3_px2 l3_px
    obtain ⟨c4_pa0, c4_pa1, c4_pa2⟩ := cells3 pa_4
    have l4_pa := heap_lt pa_4
    obtain ⟨c4_pb0, c4_pb1, c4_pb2⟩ := cells3 pb_4
    have l4_pb := heap_lt pb_4
    go_wp2_with fail
    refine (iRegionMeet_yes _ _ _ _ _ _ _ _ _ _ ys xs _ HM'.out hm1' HM.out hm1 AY_4.out AX_4.out HX1.out).mono ?_; rintro e w5 ⟨g5, rfl, ho5, hb5⟩
    have b5 := below_seq b4 hb5
    have z5 : w4.heap.size + 0 ≤ w5.heap.size := by have := hb5.size; (try simp at this); omega
    have pa_5 := heap_later pa_4 hb5
    have pb_5 := heap_later pb_4 hb5
    have AX_5 := Lib.hid (BoolsAt.below AX_4.out hb5)
    have AY_5 := Lib.hid (BoolsAt.below AY_4.out hb5)
    have FX_5 := Lib.hid (BoolsAt.below FX_4.out hb5)
    have px_5 := heap_later px_4 hb5
    have py_5 := heap_later py_4 hb5
    have FO_5 := Lib.hid ((by rw [← HC.out]; exact OwnsB.at ho5 : BoolsAt _ _ (meetB xs ys)))
    clear pa_4 pb_4 AX_4 AY_4 FX_4 px_4 py_4 c4_pa0 c4_pa1 c4_pa2 l4_pa c4_pb0 c4_pb1 c4_pb2 l4_pb
    obtain ⟨c5_pa0, c5_pa1, c5_pa2⟩ := cells3 pa_5
    have l5_pa := heap_lt pa_5
    clear ho5
    go_wp2_with fail
    refine (iRegionMeet_yes _ _ _ _ _ _ _ _ _ _ xs xs _ HM.out hm1 HM.out hm1 (BoolsAt.one AX_5.out _) (BoolsAt.one AX_5.out _) HX2.out).mono ?_; rintro e w6 ⟨g6, rfl, ho6, hb6⟩
    have b6 := below_seq (below_seq b5 (below1 _ _)) hb6
    have z6 : w5.heap.size + 1 ≤ w6.heap.size := by have := hb6.size; (try simp at this); omega
    have pa_6 := heap_later (heap_later pa_5 (below1 _ _)) hb6
    have pb_6 := heap_later (heap_later pb_5 (below1 _ _)) hb6
    have AX_6 := Lib.hid (BoolsAt.below (BoolsAt.one AX_5.out _) hb6)
    have AY_6 := Lib.hid (BoolsAt.below (BoolsAt.one AY_5.out _) hb6)
    have FX_6 := Lib.hid (BoolsAt.below (BoolsAt.one FX_5.out _) hb6)
    have px_6 := heap_later (heap_later px_5 (below1 _ _)) hb6
    have py_6 := heap_later (heap_later py_5 (below1 _ _)) hb6
    have FO_6 := Lib.hid (BoolsAt.below (BoolsAt.one FO_5.out _) hb6)
    have po_6 := heap_later (heap_new _ _) hb6
    have FS_6 := Lib.hid ((by have h9 := OwnsB.at ho6; rw [HS.out] at h9; exact h9 : BoolsAt _ _ xs))
    clear pa_5 pb_5 AX_5 AY_5 FX_5 px_5 py_5 FO_5 c5_pa0 c5_pa1 c5_pa2 l5_pa
    clear ho6
    obtain ⟨wB, hwB⟩ : ∃ wB, wB = w6.alloc (.cells #[.int .i64 W, .int .i64 T, .slice (some ⟨g6, 0, none⟩) m' m'] 25) := ⟨_, rfl⟩
    have ps : wB.heap[w6.heap.size]? = some (.cells #[.int .i64 W, .int .i64 T, .slice (some ⟨g6, 0, none⟩) m' m'] 25 (0, 0)) := by rw [hwB]; exact heap_new _ _
    have qa := heap_later pa_6 (below1 _ (.cells #[.int .i64 W, .int .i64 T, .slice (some ⟨g6, 0, none⟩) m' m'] 25))
    have qb := heap_later pb_6 (below1 _ (.cells #[.int .i64 W, .int .i64 T, .slice (some ⟨g6, 0, none⟩) m' m'] 25))
    have qx := heap_later px_6 (below1 _ (.cells #[.int .i64 W, .int .i64 T, .slice (some ⟨g6, 0, none⟩) m' m'] 25))
    have qo := heap_later po_6 (below1 _ (.cells #[.int .i64 W, .int .i64 T, .slice (some ⟨g6, 0, none⟩) m' m'] 25))
    have A1 : Hid (BoolsAt wB a xs) := by rw [hwB]; exact AX_6.out.one _
    have A2 : Hid (BoolsAt wB a' ys) := by rw [hwB]; exact AY_6.out.one _
    have A3 : Hid (BoolsAt wB (some ⟨g2, 0, none⟩) (meetB xs ys)) := by rw [hwB]; exact FX_6.out.one _
    have A4 : Hid (BoolsAt wB (some ⟨g5, 0, none⟩) (meetB xs ys)) := by rw [hwB]; exact FO_6.out.one _
    have A5 : Hid (BoolsAt wB (some ⟨g6, 0, none⟩) xs) := by rw [hwB]; exact FS_6.out.one _
    have bB : Below w.heap.size w wB := by rw [hwB]; exact below_seq b6 (below1 _ _)
    rw [← hwB] at qa qb qx qo
    go_wp2_with fail
    rw [← hwB]
    clear hwB
    obtain ⟨u0, u1, u2⟩ := cells3 qa
    obtain ⟨v0, v1, v2⟩ := cells3 qb
    obtain ⟨x0, x1, x2⟩ := cells3 qx
    have hpos : True := trivial
    go_loopw [13] (fun i wr => ∃ k : Nat, k ≤ m' ∧ i = .int .i64 k ∧ ∃ q, wr = wB.drewN q) (fun i _ => m' - (intOf i).toNat)
    case atStart => exact ⟨0, Nat.zero_le _, rfl, 0, rfl⟩
    case round =>
      obtain ⟨k, hk, rfl, q, rfl⟩ := hrel
      by_cases hlt : k < m'
      · obtain ⟨ba, oa, rfl, ha1⟩ := A1.out k (by rw [← HM.out]; exact hlt)
        obtain ⟨bb, ob, rfl, ha2⟩ := A2.out k (by rw [← HM'.out]; exact hlt)
        have ha3 := A3.out.cellAt'' (i := k) (by rw [← HB1.out]; exact hlt)
        rw [Nat.zero_add] at ha3
        have e1 : (k : Int) < m' := by omega
        have e0 : (0 : Int) ≤ k := by omega
        have hmk : (meetB xs ys).getD k false = (xs.getD k false && ys.getD k false) := tab_getD _ (by rw [← HM.out]; exact hlt)
        rw [hmk] at ha3
        obtain ⟨p1, hp1⟩ : ∃ p1, p1 = xs.getD k false := ⟨_, rfl⟩
        obtain ⟨p2, hp2⟩ : ∃ p2, p2 = ys.getD k false := ⟨_, rfl⟩
        rw [← hp1, ← hp2] at ha3
        rw [← hp1] at ha1
        rw [← hp2] at ha2
        clear hp1 hp2 hmk
        cases p1
        · go_wp2
          go_big_quiet (fail)
          go_wp2
          go_roundw
          case rel => exact ⟨k + 1, by omega, by go_num, _, rfl⟩
          case measure => simp [intOf]; omega
        · cases p2
          all_goals
            go_wp2
            go_big_quiet (fail)
            go_wp2
            go_roundw
            case rel => exact ⟨k + 1, by omega, by go_num, _, rfl⟩
            case measure => simp [intOf]; omega
      · obtain rfl : k = m' := by omega
        obtain ⟨o0, o1, o2⟩ := cells3 qo
        obtain ⟨y0, y1, y2⟩ := cells3 ps
        go_wp2_with fail
        refine (sameRegion_same _ _ _ _ _ _ _ (meetB xs ys) _ HB1.out hm1 (show BoolsAt (wB.drewN q) _ _ from A4.out) (show BoolsAt (wB.drewN q) _ _ from A3.out)).mono ?_; rintro e w8 ⟨rfl, hb8⟩
        have y8 := heap_later (show (wB.drewN q).heap[w6.heap.size]? = some _ from ps) hb8
        have u8 := heap_later (show (wB.drewN q).heap[w1.heap.size]? = some _ from qa) hb8
        clear u0 u1 u2 v0 v1 v2 x0 x1 x2 o0 o1 o2 y0 y1 y2
        obtain ⟨u0, u1, u2⟩ := cells3 u8
        obtain ⟨y0, y1, y2⟩ := cells3 y8
        go_wp2_with fail
        refine (sameRegion_same _ _ _ _ _ _ _ xs _ HM.out hm1 ((show BoolsAt (wB.drewN q) _ _ from A5.out).below hb8) ((show BoolsAt (wB.drewN q) _ _ from A1.out).below hb8)).mono ?_; rintro e w9 ⟨rfl, hb9⟩
        go_wp2
        go_ret
        exact ⟨rfl, below_seq bB (below_seq (drewN_below _ _) (below_seq hb8 hb9))⟩

end Go.Proofs.Ytlgmnceicnhhnaa
