/- Contracts of both functions DarkCells. No statement is proved here. -/
import Derived.Test.YthlagmnnkckcnaaDark
import Derived.Test.YthlagmnnkckcnaaInts
namespace Go.Proofs.Ythlagmnnkckcnaa
open Go.RowKit
set_option linter.unusedVariables false
set_option maxRecDepth 100000
set_option linter.unusedSimpArgs false

/-- The dark cells among the first k ones, in ascending order. -/
def darkK (W : Int) (xs : List Bool) (k : Nat) : List Int := ((List.range k).filter fun i => xs.getD i false && dkAt W i).map fun (i : Nat) => (i : Int)
def darkF (W T : Int) (xs : List Bool) : List Int := if rv W T xs then darkK W xs xs.length else []
theorem darkK_yes {W : Int} {xs : List Bool} {k : Nat} (h : (xs.getD k false && dkAt W k) = true) : darkK W xs (k + 1) = darkK W xs k ++ [(k : Int)] := by
  unfold darkK; rw [List.range_succ, List.filter_append, List.map_append]; simp only [List.filter_cons, h]; simp
theorem darkK_no {W : Int} {xs : List Bool} {k : Nat} (h : (xs.getD k false && dkAt W k) = false) : darkK W xs (k + 1) = darkK W xs k := by
  unfold darkK; rw [List.range_succ, List.filter_append, List.map_append]; simp only [List.filter_cons, h]; simp
theorem darkK_le (W : Int) (xs : List Bool) (k : Nat) : (darkK W xs k).length ≤ k := by
  unfold darkK; rw [List.length_map]; have := List.length_filter_le (fun i => xs.getD i false && dkAt W i) (List.range k); rw [List.length_range] at this; exact this
theorem darkF_le (W T : Int) (xs : List Bool) : (darkF W T xs).length ≤ xs.length := by
  unfold darkF; split
  · exact darkK_le _ _ _
  · simp

theorem own_nil7 (w : World) {B : Nat} (hB : B ≤ w.heap.size) : OwnsI (w.alloc (.cells #[] 3 (0, 0))) B (.slice (some ⟨w.heap.size, 0, none⟩) 0 0) [] :=
  World.ownsRow_made w #[] 0 hB (Nat.zero_le _) rfl

set_option maxHeartbeats 2000000 in
theorem sDarkCells_ret (W T : Int) (a : Option Addr) (n cap : Nat) (xs : List Bool) (w : World) (hn : n = xs.length) (hn' : n ≤ 1048576) (ha : BoolsAt w a xs) :
    Calls Try.prog 16 #[.agg #[.int .i64 W, .int .i64 T, .slice a n cap]] w (RetL w (darkF W T xs).length (darkF W T xs)) := by
  have HN := Lib.hid hn; clear hn
  have HA := Lib.hid ha; clear ha
  obtain ⟨wA, hwA⟩ : ∃ wA, wA = (w.alloc (.cells #[.int .i64 W, .int .i64 T, .slice a n cap] 25)).alloc (.cells #[] 3 (0, 0)) := ⟨_, rfl⟩
  have pA : wA.heap[w.heap.size]? = some (.cells #[.int .i64 W, .int .i64 T, .slice a n cap] 25 (0, 0)) := by rw [hwA]; exact heap_later (heap_new w _) (below1 _ _)
  have bA : Below w.heap.size w wA := by rw [hwA]; exact below2 _ _ _
  have oA : OwnsI wA (w.heap.size + 1) (.slice (some ⟨w.heap.size + 1, 0, none⟩) 0 0) [] := by
    rw [hwA]; have := own_nil7 (w.alloc (.cells #[.int .i64 W, .int .i64 T, .slice a n cap] 25)) (B := w.heap.size + 1) (by simp); simpa using this
  have HOA := Lib.hid oA; clear oA
  obtain ⟨c0, c1, c2⟩ := cells3 pA
  cases h : rv W T xs
  · have e : darkF W T xs = [] := by unfold darkF; rw [h]; rfl
    rw [e]
    have H := Lib.hid h; clear h e
    by_cases hn0 : 0 < n
    · have hn1 : (0 : Int) < n := by omega
      go_enter Try.func16, Try.ntmps16
      go_wp2_with fail
      rw [← hwA]
      clear hwA
      refine wp_loop_rounds 1 ?_
      rw [rounds_succ]
      go_wp2_with fail
      refine (sRegionValid_any _ _ _ _ _ xs _ HN.out hn' (HA.out.below bA)).mono ?_; rintro e w1 ⟨rfl, hb1⟩
      rw [H.out]
      go_wp2
      go_ret
      exact ⟨some ⟨w.heap.size + 1, 0, none⟩, 0, rfl, (HOA.out.below hb1).lower (by omega), below_seq bA hb1⟩
    · obtain rfl : n = 0 := by omega
      go_enter Try.func16, Try.ntmps16
      go_wp2_with fail
      rw [← hwA]
      clear hwA
      refine wp_loop_rounds 1 ?_
      rw [rounds_succ]
      go_wp2
      go_ret
      exact ⟨some ⟨w.heap.size + 1, 0, none⟩, 0, rfl, HOA.out.lower (by omega), bA⟩
  · obtain ⟨v1, v2, v3, v4, v5, _⟩ := rv_true h
    have e : darkF W T xs = darkK W xs n := by unfold darkF; rw [h, if_pos rfl, HN.out]
    rw [e]
    have H := Lib.hid h; clear h e
    have HV := Lib.hid v5; clear v5
    obtain ⟨i0, hi, hz0, hz1, hz2⟩ := info_parts infoInt
    have hn36 : n ≤ 1048576 := hn'
    go_enter Try.func16, Try.ntmps16
    go_wp2_with fail
    rw [← hwA]
    clear hwA c0 c1 c2
    go_loopw [3, 4] (fun v i wr => ∃ k : Nat, k ≤ n ∧ i = .int .i64 k ∧ OwnsI wr (w.heap.size + 1) v (darkK W xs k) ∧ wr.heap[w.heap.size]? = some (.cells #[.int .i64 W, .int .i64 T, .slice a n cap] 25 (0, 0)) ∧ Below w.heap.size w wr) (fun _ i _ => n - (intOf i).toNat)
    case atStart => exact ⟨0, Nat.zero_le _, rfl, HOA.out, pA, bA⟩
    case round =>
      obtain ⟨k, hk, rfl, ho, pr, hbel⟩ := hrel
      have HO := Lib.hid ho; clear ho
      have BEL := Lib.hid hbel; clear hbel
      obtain ⟨c0, c1, c2⟩ := cells3 pr
      have l1 := heap_lt pr
      by_cases hlt : k < n
      · have hle := darkK_le W xs k
        have e1 : (k : Int) < n := by omega
        have e0 : (0 : Int) ≤ k := by omega
        have hW0 : W ≠ 0 := by omega
        obtain ⟨m1, m2, m3, m4⟩ := divmod_bd (W := W) (k := k) v1
        go_wp2_with fail
        refine (sRegionValid_any _ _ _ _ _ xs _ HN.out hn' (HA.out.below BEL.out)).mono ?_; rintro e w1 ⟨rfl, hb1⟩
        have p1 := heap_later pr hb1
        have B1 := Lib.hid (below_seq BEL.out hb1)
        have O1 := Lib.hid (HO.out.below hb1)
        rw [H.out]
        clear c0 c1 c2 hb1 pr l1
        obtain ⟨c0, c1, c2⟩ := cells3 p1
        have l1 := heap_lt p1
        obtain ⟨b, off, rfl, hc⟩ := (HA.out.below B1.out) k (by rw [← HN.out]; exact hlt)
        cases hx : xs.getD k false
        · rw [hx] at hc
          have HNX := Lib.hid (darkK_no (W := W) (xs := xs) (k := k) (by rw [hx]; rfl))
          have HX := Lib.hid hx; clear hx
          go_wp2
          go_quiet (fail)
          go_wp2
          go_roundw
          case rel => exact ⟨k + 1, by omega, by go_num, by rw [HNX.out]; exact (O1.out.below (drewN_below _ _)), heap_later p1 (drewN_below _ _), below_seq B1.out (drewN_below _ _)⟩
          case measure => simp [intOf]; omega
        · rw [hx] at hc
          cases hd : dkAt W k
          · have HNX := Lib.hid (darkK_no (W := W) (xs := xs) (k := k) (by rw [hx, hd]; rfl))
            have HX := Lib.hid hx; clear hx
            have hd' : (((k : Int) % W + (k : Int) / W) % 2 == 0) = _ := hd
            have HD := Lib.hid hd; clear hd
            go_wp2
            go_quiet (fail)
            go_wp2
            go_roundw
            case rel => exact ⟨k + 1, by omega, by go_num, by rw [HNX.out]; exact (O1.out.below (drewN_below _ _)), heap_later p1 (drewN_below _ _), below_seq B1.out (drewN_below _ _)⟩
            case measure => simp [intOf]; omega
          · have HNX := Lib.hid (darkK_yes (W := W) (xs := xs) (k := k) (by rw [hx, hd]; rfl))
            have HX := Lib.hid hx; clear hx
            have hd' : (((k : Int) % W + (k : Int) / W) % 2 == 0) = _ := hd
            have HD := Lib.hid hd; clear hd
            go_wp2
            go_quiet (fail)
            have p2 := heap_later p1 (drewN_below w1 nq)
            have B2 := Lib.hid (below_seq B1.out (drewN_below w1 nq))
            have O2 := Lib.hid (O1.out.below (drewN_below w1 nq))
            go_wp2_with (at_builtin; refine wpList_append_own _ rfl _ _ 27 rfl (w.heap.size + 1) 3 i0 (.int .i64 0) 1 8 Try.underlying27 hi hz0 hz1 hz2 rfl (by decide) _ (darkK W xs k).length ((darkK W xs k).map (Value.int .i64)) rfl (World.ownsRow.alloc O2.out _) ⟨w1.heap.size, 0, none⟩ 1 1 [.int .i64 k] rfl rfl (new_int _ _) (one_int _) (by unfold maxLen; omega) (by omega) (by simp; omega) ?_; intro v' w8 hown' hgrow _; have p8 := heap_grown (heap_later p2 (below1 _ _)) hgrow (O2.out.ownBlock (by omega)); have O8 := Lib.hid (OwnsI.ofRow (xs := darkK W xs (k + 1)) hown' (by rw [HNX.out]; simp) (by rw [HNX.out]; simp)); have B8 := Lib.hid (below_grown (below_seq B2.out (below1 _ _)) hgrow (Nat.le_refl _) (O2.out.ownAt (by omega))); clear hown' hgrow)
            go_roundw
            case rel => exact ⟨k + 1, by omega, by go_num, O8.out, p8, B8.out⟩
            case measure => simp [intOf]; omega
      · obtain rfl : k = n := by omega
        obtain ⟨a9, cap9, hv⟩ := HO.out.form2
        subst hv
        go_wp2
        go_ret
        exact ⟨a9, cap9, rfl, HO.out.lower (by omega), BEL.out⟩

set_option maxHeartbeats 2000000 in
theorem iDarkCells_ret (W T : Int) (a : Option Addr) (n cap : Nat) (xs : List Bool) (w : World) (hn : n = xs.length) (hn' : n ≤ 1048576) (ha : BoolsAt w a xs) :
    Calls Try.prog 14 #[.agg #[.int .i64 W, .int .i64 T, .slice a n cap]] w (RetL w (darkF W T xs).length (darkF W T xs)) := by
  have HN := Lib.hid hn; clear hn
  have HA := Lib.hid ha; clear ha
  cases h : rv W T xs
  · have e : darkF W T xs = [] := by unfold darkF; rw [h]; rfl
    rw [e]
    have H := Lib.hid h; clear h e
    go_enter Try.func14, Try.ntmps14
    go_wp2_with fail
    refine (iRegionValid_any _ _ _ _ _ xs _ HN.out hn' (HA.out.one _)).mono ?_; rintro e w1 ⟨rfl, hb1⟩
    rw [H.out]
    go_wp2
    go_ret
    exact ⟨none, 0, rfl, OwnsI.nil _ _, below_seq (below1 _ _) hb1⟩
  · obtain ⟨v1, v2, v3, v4, v5, _⟩ := rv_true h
    have e : darkF W T xs = darkK W xs n := by unfold darkF; rw [h, if_pos rfl, HN.out]
    rw [e]
    have H := Lib.hid h; clear h e
    have HV := Lib.hid v5; clear v5
    obtain ⟨i0, hi, hz0, hz1, hz2⟩ := info_parts infoInt
    go_enter Try.func14, Try.ntmps14
    go_wp2_with fail
    refine (iRegionValid_any _ _ _ _ _ xs _ HN.out hn' (HA.out.one _)).mono ?_; rintro e w1 ⟨rfl, hb1⟩
    rw [H.out]
    have p1 := heap_later (heap_new w (.cells #[.int .i64 W, .int .i64 T, .slice a n cap] 25)) hb1
    have l1 := heap_lt p1
    have b1 := below_seq (below1 _ _) hb1
    clear hb1
    obtain ⟨c0, c1, c2⟩ := cells3 p1
    go_wp2
    clear c0 c1 c2
    go_loopw [3, 4, 5, 12] (fun v _ _ i wr => ∃ k : Nat, k ≤ n ∧ i = .int .i64 k ∧ OwnsI wr (w.heap.size + 1) v (darkK W xs k) ∧ wr.heap[w.heap.size]? = some (.cells #[.int .i64 W, .int .i64 T, .slice a n cap] 25 (0, 0)) ∧ Below w.heap.size w wr) (fun _ _ _ i _ => n - (intOf i).toNat)
    case atStart => exact ⟨0, Nat.zero_le _, rfl, OwnsI.nil _ _, p1, b1⟩
    case round =>
      obtain ⟨k, hk, rfl, ho, pr, hbel⟩ := hrel
      have HO := Lib.hid ho; clear ho
      have BEL := Lib.hid hbel; clear hbel
      obtain ⟨c0, c1, c2⟩ := cells3 pr
      have l1 := heap_lt pr
      by_cases hlt : k < n
      · have hle := darkK_le W xs k
        have e1 : (k : Int) < n := by omega
        have e0 : (0 : Int) ≤ k := by omega
        have hW0 : W ≠ 0 := by omega
        obtain ⟨m1, m2, m3, m4⟩ := divmod_bd (W := W) (k := k) v1
        have T1 : Hid ((k : Int).tmod W = (k : Int) % W) := Int.tmod_eq_emod_of_nonneg (by omega)
        have T2 : Hid (IntKind.i64.wrap ((k : Int) / W) = (k : Int) / W) := IntWalk.i64_in _ (by omega)
        obtain ⟨b, off, rfl, hc⟩ := (HA.out.below BEL.out) k (by rw [← HN.out]; exact hlt)
        cases hx : xs.getD k false
        · rw [hx] at hc
          have HNX := Lib.hid (darkK_no (W := W) (xs := xs) (k := k) (by rw [hx]; rfl))
          have HX := Lib.hid hx; clear hx
          go_wp2
          go_quiet (fail)
          go_wp2
          go_roundw
          case rel => exact ⟨k + 1, by omega, by go_num, by rw [HNX.out]; exact (HO.out.below (drewN_below _ _)), heap_later pr (drewN_below _ _), below_seq BEL.out (drewN_below _ _)⟩
          case measure => simp [intOf]; omega
        · rw [hx] at hc
          cases hd : dkAt W k
          · have HNX := Lib.hid (darkK_no (W := W) (xs := xs) (k := k) (by rw [hx, hd]; rfl))
            have HX := Lib.hid hx; clear hx
            have hd' : (((k : Int) % W + (k : Int) / W) % 2 == 0) = _ := hd
            have HD := Lib.hid hd; clear hd
            go_wp2
            go_quiet ((go_at_call 49; go_must (exact Calls.quiet_of_same (darkAt_eq _ _ ((k : Int) % W) ((k : Int) / W) _ (by first | rfl | exact T1.out) (by first | rfl | exact T2.out) m1 (by omega) m3 (by omega)))))
            go_wp2
            go_roundw
            case rel => exact ⟨k + 1, by omega, by go_num, by rw [HNX.out]; exact (HO.out.below (drewN_below _ _)), heap_later pr (drewN_below _ _), below_seq BEL.out (drewN_below _ _)⟩
            case measure => simp [intOf]; omega
          · have HNX := Lib.hid (darkK_yes (W := W) (xs := xs) (k := k) (by rw [hx, hd]; rfl))
            have HX := Lib.hid hx; clear hx
            have hd' : (((k : Int) % W + (k : Int) / W) % 2 == 0) = _ := hd
            have HD := Lib.hid hd; clear hd
            rename_i wr _
            go_wp2
            go_quiet ((go_at_call 49; go_must (exact Calls.quiet_of_same (darkAt_eq _ _ ((k : Int) % W) ((k : Int) / W) _ (by first | rfl | exact T1.out) (by first | rfl | exact T2.out) m1 (by omega) m3 (by omega)))))
            have p2 := heap_later pr (drewN_below _ nq)
            have B2 := Lib.hid (below_seq BEL.out (drewN_below _ nq))
            have O2 := Lib.hid (HO.out.below (drewN_below _ nq))
            go_wp2_with (at_builtin; refine wpList_append_own _ rfl _ _ 27 rfl (w.heap.size + 1) 3 i0 (.int .i64 0) 1 8 Try.underlying27 hi hz0 hz1 hz2 rfl (by decide) _ (darkK W xs k).length ((darkK W xs k).map (Value.int .i64)) rfl (World.ownsRow.alloc O2.out _) ⟨wr.heap.size, 0, none⟩ 1 1 [.int .i64 k] rfl rfl (new_int _ _) (one_int _) (by unfold maxLen; omega) (by omega) (by simp; omega) ?_; intro v' w8 hown' hgrow _; have p8 := heap_grown (heap_later p2 (below1 _ _)) hgrow (O2.out.ownBlock (by omega)); have O8 := Lib.hid (OwnsI.ofRow (xs := darkK W xs (k + 1)) hown' (by rw [HNX.out]; simp) (by rw [HNX.out]; simp)); have B8 := Lib.hid (below_grown (below_seq B2.out (below1 _ _)) hgrow (Nat.le_refl _) (O2.out.ownAt (by omega))); clear hown' hgrow)
            go_roundw
            case rel => exact ⟨k + 1, by omega, by go_num, O8.out, p8, B8.out⟩
            case measure => simp [intOf]; omega
      · obtain rfl : k = n := by omega
        obtain ⟨a9, cap9, hv⟩ := HO.out.form2
        subst hv
        go_wp2
        go_ret
        exact ⟨a9, cap9, rfl, HO.out.lower (by omega), BEL.out⟩

end Go.Proofs.Ythlagmnnkckcnaa
