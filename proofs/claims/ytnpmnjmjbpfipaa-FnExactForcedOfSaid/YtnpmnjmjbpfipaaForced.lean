/- Contracts of the two functions ForcedOf. -/
import Derived.Test.YtnpmnjmjbpfipaaWithS
import Derived.Test.YtnpmnjmjbpfipaaDpC
import Derived.Test.YtnpmnjmjbpfipaaRetI
import Derived.Test.YtnpmnjmjbpfipaaFaultsS
namespace Go.Proofs.Ytnpmnjmjbpfipaa
open Go.RowKit
set_option linter.unusedVariables false
set_option maxRecDepth 100000
set_option linter.unusedSimpArgs false

/-- A cell, once for each direction in which as many tilings have a domino as there are in all. -/
def forcedW (W T : Int) (xs : List Bool) (k : Nat) : Nat → List Int
  | 0 => []
  | j + 1 => forcedW W T xs k j ++ (if withN W T xs k ((j : Int) + 1) = dpT W T xs then [(k : Int)] else [])
def forcedTo (W T : Int) (xs : List Bool) : Nat → List Int
  | 0 => []
  | k + 1 => forcedTo W T xs k ++ forcedW W T xs k 4
def forcedF (W T : Int) (xs : List Bool) : List Int := if rv W T xs = true ∧ 0 < dpT W T xs then forcedTo W T xs xs.length else []
theorem forcedW_le (W T : Int) (xs : List Bool) (k j : Nat) : (forcedW W T xs k j).length ≤ j := by
  induction j with
  | zero => simp [forcedW]
  | succ j ih =>
    simp only [forcedW, List.length_append]
    split <;> simp <;> omega
theorem forcedTo_le (W T : Int) (xs : List Bool) (k : Nat) : (forcedTo W T xs k).length ≤ 4 * k := by
  induction k with
  | zero => simp [forcedTo]
  | succ k ih => have := forcedW_le W T xs k 4; simp only [forcedTo, List.length_append]; omega
theorem forcedF_len (W T : Int) (xs : List Bool) (h : xs.length ≤ 1048576) : (forcedF W T xs).length ≤ 4194304 := by
  unfold forcedF
  split
  · have := forcedTo_le W T xs xs.length; omega
  · simp
theorem forcedF_len36 (W T : Int) (xs : List Bool) : (forcedF W T xs).length ≤ 1048576 := by
  unfold forcedF
  split
  · rename_i h
    obtain ⟨v1, v2, v3, v4, v5, _⟩ := rv_true h.1
    have h1 : W * T ≤ 6 * 6 := Int.mul_le_mul v2 v4 (by omega) (by omega)
    have := forcedTo_le W T xs xs.length
    omega
  · simp
theorem withN_out {W T : Int} {xs : List Bool} {k : Nat} {way : Int} (h : xs.getD k false = false) : withN W T xs k way = 0 := by
  unfold withN canTake
  simp only [Int.toNat_natCast, h, Bool.false_and, Bool.and_false]
  rfl
theorem withN_le {W T : Int} {xs : List Bool} (h : xs.length ≤ 36) (k way : Int) : withN W T xs k way ≤ 68719476736 := by
  unfold withN
  split
  · exact dpT_le (by rw [lessB_len]; exact h)
  · omega

set_option maxHeartbeats 4000000 in
theorem iForcedOf_ret (W T : Int) (a : Option Addr) (n cap : Nat) (xs : List Bool) (w : World) (hn : n = xs.length) (hn' : n ≤ 1048576) (ha : BoolsAt w a xs) :
    Calls Try.prog 34 #[.agg #[.int .i64 W, .int .i64 T, .slice a n cap]] w (RetL w (forcedF W T xs).length (forcedF W T xs)) := by
  have HN := Lib.hid hn; clear hn
  have HA := Lib.hid ha; clear ha
  by_cases h : rv W T xs = true ∧ 0 < dpT W T xs
  · obtain ⟨hr, hd⟩ := h
    have e : forcedF W T xs = forcedTo W T xs n := by unfold forcedF; rw [if_pos ⟨hr, hd⟩, HN.out]
    rw [e]
    have ht : tilT W T xs = (dpT W T xs : Int) := by unfold tilT; rw [if_pos hr]
    obtain ⟨hW0, hW1, hT0, hT1, v5, _⟩ := rv_true hr
    have hWT : (n : Int) = W * T := by rw [HN.out]; exact v5
    have n36 : n ≤ 36 := by
      have h1 : W * T ≤ 6 * 6 := Int.mul_le_mul hW1 hT1 (by omega) (by omega)
      omega
    have HWT := Lib.hid hWT; clear hWT v5 hr e
    obtain ⟨D, hD⟩ : ∃ D, D = dpT W T xs := ⟨_, rfl⟩
    rw [← hD] at hd ht
    have hDle : D ≤ 68719476736 := by rw [hD]; exact dpT_le (by rw [← HN.out]; exact n36)
    have HD := Lib.hid hD; clear hD
    obtain ⟨i0, hi, hz0, hz1, hz2⟩ := info_parts infoInt
    go_enter Try.func34, Try.ntmps34
    go_wp2_with fail
    refine (iTilingsMany_any _ _ _ _ _ xs _ HN.out hn' (HA.out.one _)).mono ?_; rintro e w1 ⟨rfl, hb1⟩
    have p1 := heap_later (heap_new w _) hb1
    have b1 := below_seq (below1 _ _) hb1
    rw [ht]
    obtain ⟨c0, c1, c2⟩ := cells3 p1
    go_wp2_with fail
    go_loopw [4, 14] (fun v i wr => ∃ k : Nat, k ≤ n ∧ i = .int .i64 k ∧ OwnsI wr (w.heap.size + 1) v (forcedTo W T xs k) ∧ wr.heap[w.heap.size]? = some (.cells #[.int .i64 W, .int .i64 T, .slice a n cap] 35 (0, 0)) ∧ Below w.heap.size w wr) (fun _ i _ => n - (intOf i).toNat)
    case atStart => exact ⟨0, Nat.zero_le _, rfl, OwnsI.nil _ _, p1, b1⟩
    case round =>
      rename World => wo
      clear c0 c1 c2 p1 b1 hb1
      obtain ⟨k, hk, rfl, ho, pr, hbel⟩ := hrel
      obtain ⟨c0, c1, c2⟩ := cells3 pr
      have l1 := heap_lt pr
      by_cases hlt : k < n
      · have fl := forcedTo_le W T xs k
        go_wp2_with fail
        go_loopw [4, 6] (fun v i wr => ∃ j : Nat, j ≤ 4 ∧ i = .int .i64 ((j : Int) + 1) ∧ OwnsI wr (w.heap.size + 1) v (forcedTo W T xs k ++ forcedW W T xs k j) ∧ wr.heap[w.heap.size]? = some (.cells #[.int .i64 W, .int .i64 T, .slice a n cap] 35 (0, 0)) ∧ Below w.heap.size w wr) (fun _ i _ => 5 - (intOf i).toNat)
        case atStart => exact ⟨0, Nat.zero_le _, rfl, by simpa [forcedW] using ho, pr, hbel⟩
        case round =>
          rename World => wi
          clear c0 c1 c2 pr hbel ho l1
          obtain ⟨j, hj, rfl, ho, pr, hbel⟩ := hrel
          have HO := Lib.hid ho; clear ho
          have BEL := Lib.hid hbel; clear hbel
          obtain ⟨c0, c1, c2⟩ := cells3 pr
          have l1 := heap_lt pr
          have gl := forcedW_le W T xs k j
          by_cases hj4 : j < 4
          · obtain ⟨Q, hQ⟩ : ∃ Q, Q = withN W T xs k ((j : Int) + 1) := ⟨_, rfl⟩
            have hQle : Q ≤ 68719476736 := by rw [hQ]; exact withN_le (by rw [← HN.out]; exact n36) _ _
            have hnx : forcedW W T xs k (j + 1) = forcedW W T xs k j ++ (if Q = D then [(k : Int)] else []) := by rw [hQ, HD.out]; rfl
            have e4 : (j : Int) + 1 ≤ 4 := by omega
            go_wp2_with fail
            refine (countWith_any _ _ _ _ _ xs _ _ _ HN.out hW0 hW1 hT0 hT1 HWT.out (HA.out.below BEL.out)).mono ?_; rintro e w3 ⟨rfl, hb3⟩
            rw [← hQ]
            have p3 := heap_later pr hb3
            have B3 := Lib.hid (below_seq BEL.out hb3)
            have O3 := Lib.hid (HO.out.below hb3)
            have l3 := heap_lt p3
            clear c0 c1 c2 pr hb3 hQ
            by_cases hqd : Q = D
            · subst hqd
              rw [if_pos rfl] at hnx
              have HNX := Lib.hid hnx; clear hnx
              go_wp2_with (at_builtin; refine wpList_append_own _ rfl _ _ 41 rfl (w.heap.size + 1) 3 i0 (.int .i64 0) 1 8 Try.underlying41 hi hz0 hz1 hz2 rfl (by decide) _ (forcedTo W T xs k ++ forcedW W T xs k j).length ((forcedTo W T xs k ++ forcedW W T xs k j).map (Value.int .i64)) rfl (World.ownsRow.alloc O3.out _) ⟨w3.heap.size, 0, none⟩ 1 1 [.int .i64 k] rfl rfl (new_int _ _) (one_int _) (by unfold maxLen; rw [List.length_append]; omega) (by rw [List.length_append]; omega) (by simp; omega) ?_; intro v' w8 hown' hgrow _; have p8 := heap_grown (heap_later p3 (below1 _ _)) hgrow (O3.out.ownBlock (by omega)); have O8 := Lib.hid (OwnsI.ofRow (xs := forcedTo W T xs k ++ forcedW W T xs k (j + 1)) hown' (by rw [HNX.out]; simp) (by rw [HNX.out]; simp; omega)); have B8 := Lib.hid (below_grown (below_seq B3.out (below1 _ _)) hgrow (Nat.le_refl _) (O3.out.ownAt (by omega))); clear hown' hgrow)
              exact ⟨⟨j + 1, by omega, by go_num, O8.out, p8, B8.out⟩, by simp [intOf]; omega⟩
            · rw [if_neg hqd, List.append_nil] at hnx
              have HNX := Lib.hid hnx; clear hnx
              have zq : ((Q : Int) == (D : Int)) = false := by simp; omega
              go_wp2_with fail
              exact ⟨⟨j + 1, by omega, by go_num, by rw [HNX.out]; exact O3.out, p3, B3.out⟩, by simp [intOf]; omega⟩
          · obtain rfl : j = 4 := by omega
            clear hj4
            go_wp2_with fail
            exact ⟨⟨k + 1, by omega, by go_num, HO.out, pr, BEL.out⟩, by simp [intOf]; omega⟩
      · obtain rfl : k = n := by omega
        obtain ⟨a9, cap9, hv⟩ := ho.form2
        subst hv
        have HO := Lib.hid ho; clear ho
        go_wp2
        go_ret
        exact ⟨a9, cap9, rfl, HO.out.lower (by omega), hbel⟩
  · have e : forcedF W T xs = [] := by unfold forcedF; rw [if_neg h]
    rw [e]
    obtain ⟨t, ht⟩ : ∃ t, t = tilT W T xs := ⟨_, rfl⟩
    have ht0 : t < 1 := by
      rw [ht]; unfold tilT
      by_cases hr : rv W T xs = true
      · rw [if_pos hr]
        have : ¬ 0 < dpT W T xs := fun q => h ⟨hr, q⟩
        omega
      · rw [if_neg hr]; omega
    go_enter Try.func34, Try.ntmps34
    go_wp2_with fail
    refine (iTilingsMany_any _ _ _ _ _ xs _ HN.out hn' (HA.out.one _)).mono ?_; rintro e w1 ⟨rfl, hb1⟩
    rw [← ht]
    clear ht
    go_wp2
    go_ret
    exact ⟨none, 0, rfl, OwnsI.nil _ _, below_seq (below1 _ _) hb1⟩

set_option maxHeartbeats 4000000 in
theorem sForcedOf_ret (W T : Int) (a : Option Addr) (n cap : Nat) (xs : List Bool) (w : World) (hn : n = xs.length) (hn' : n ≤ 1048576) (ha : BoolsAt w a xs) :
    Calls Try.prog 33 #[.agg #[.int .i64 W, .int .i64 T, .slice a n cap]] w (RetL w (forcedF W T xs).length (forcedF W T xs)) := by
  have HN := Lib.hid hn; clear hn
  have HA := Lib.hid ha; clear ha
  obtain ⟨wA, hwA⟩ : ∃ wA, wA = (w.alloc (.cells #[.int .i64 W, .int .i64 T, .slice a n cap] 35)).alloc (.cells #[] 3 (0, 0)) := ⟨_, rfl⟩
  have pA : wA.heap[w.heap.size]? = some (.cells #[.int .i64 W, .int .i64 T, .slice a n cap] 35 (0, 0)) := by rw [hwA]; exact heap_later (heap_new w _) (below1 _ _)
  have bA : Below w.heap.size w wA := by rw [hwA]; exact below2 _ _ _
  have oA : OwnsI wA (w.heap.size + 1) (.slice (some ⟨w.heap.size + 1, 0, none⟩) 0 0) [] := by
    rw [hwA]; have := own_nil_lit (w.alloc (.cells #[.int .i64 W, .int .i64 T, .slice a n cap] 35)) (B := w.heap.size + 1) (by simp); simpa using this
  have HOA := Lib.hid oA; clear oA
  obtain ⟨c0, c1, c2⟩ := cells3 pA
  by_cases h : rv W T xs = true ∧ 0 < dpT W T xs
  · obtain ⟨hr, hd⟩ := h
    have e : forcedF W T xs = forcedTo W T xs n := by unfold forcedF; rw [if_pos ⟨hr, hd⟩, HN.out]
    rw [e]
    have ht : tilT W T xs = (dpT W T xs : Int) := by unfold tilT; rw [if_pos hr]
    have hwt : ∀ k way, withT W T xs k way = (withN W T xs k way : Int) := fun k way => by unfold withT; rw [if_pos hr]
    obtain ⟨hW0, hW1, hT0, hT1, v5, _⟩ := rv_true hr
    have n36 : n ≤ 36 := by
      have h1 : W * T ≤ 6 * 6 := Int.mul_le_mul hW1 hT1 (by omega) (by omega)
      rw [HN.out]
      omega
    clear v5 hr e
    have HWTT := Lib.hid hwt; clear hwt
    obtain ⟨D, hD⟩ : ∃ D, D = dpT W T xs := ⟨_, rfl⟩
    rw [← hD] at hd ht
    have hDle : D ≤ 68719476736 := by rw [hD]; exact dpT_le (by rw [← HN.out]; exact n36)
    have HD := Lib.hid hD; clear hD
    have hDi : (0 : Int) < D := by omega
    obtain ⟨i0, hi, hz0, hz1, hz2⟩ := info_parts infoInt
    go_enter Try.func33, Try.ntmps33
    go_wp2_with fail
    rw [← hwA]
    clear hwA
    refine (sTilingsMany_any _ _ _ _ _ xs _ HN.out hn' (HA.out.below bA)).mono ?_; rintro e w1 ⟨rfl, hb1⟩
    have p1 := heap_later pA hb1
    have b1 := below_seq bA hb1
    have O1 := HOA.out.below hb1
    rw [ht]
    clear c0 c1 c2 pA bA hb1 HOA
    obtain ⟨c0, c1, c2⟩ := cells3 p1
    go_wp2_with fail
    go_loopw [3, 5, 6] (fun v i _ wr => ∃ k : Nat, k ≤ n ∧ i = .int .i64 k ∧ OwnsI wr (w.heap.size + 1) v (forcedTo W T xs k) ∧ wr.heap[w.heap.size]? = some (.cells #[.int .i64 W, .int .i64 T, .slice a n cap] 35 (0, 0)) ∧ Below w.heap.size w wr) (fun _ i _ _ => n - (intOf i).toNat)
    case atStart => exact ⟨0, Nat.zero_le _, rfl, O1, p1, b1⟩
    case round =>
      rename World => wo
      clear c0 c1 c2 p1 b1 O1
      obtain ⟨k, hk, rfl, ho, pr, hbel⟩ := hrel
      obtain ⟨c0, c1, c2⟩ := cells3 pr
      have l1 := heap_lt pr
      by_cases hlt : k < n
      · have fl := forcedTo_le W T xs k
        have e4 : (k : Int) < n := by omega
        obtain ⟨bx, ox, rfl, hx⟩ := HA.out k (by rw [← HN.out]; exact hlt)
        have hlx := World.block_lt_of_cell? w _ hx
        simp only at hlx
        obtain ⟨xk, hxk⟩ : ∃ xk, xk = xs.getD k false := ⟨_, rfl⟩
        rw [← hxk] at hx
        have HXK := Lib.hid hxk; clear hxk
        go_wp2_with fail
        go_loopw [3, 6] (fun v i wr => ∃ j : Nat, j ≤ 4 ∧ i = .int .i64 ((j : Int) + 1) ∧ OwnsI wr (w.heap.size + 1) v (forcedTo W T xs k ++ forcedW W T xs k j) ∧ wr.heap[w.heap.size]? = some (.cells #[.int .i64 W, .int .i64 T, .slice (some ⟨bx, ox, none⟩) n cap] 35 (0, 0)) ∧ Below w.heap.size w wr) (fun _ i _ => 5 - (intOf i).toNat)
        case atStart => exact ⟨0, Nat.zero_le _, rfl, by simpa [forcedW] using ho, pr, hbel⟩
        case round =>
          rename World => wi
          clear c0 c1 c2 pr hbel ho l1
          obtain ⟨j, hj, rfl, ho, pr, hbel⟩ := hrel
          have HO := Lib.hid ho; clear ho
          have hxi : wi.cell? ⟨bx, ox + k, none⟩ = _ := (hbel.cell (p := ⟨bx, ox + k, none⟩) hlx).trans hx
          have BEL := Lib.hid hbel; clear hbel
          obtain ⟨c0, c1, c2⟩ := cells3 pr
          have l1 := heap_lt pr
          have gl := forcedW_le W T xs k j
          by_cases hj4 : j < 4
          · obtain ⟨Q, hQ⟩ : ∃ Q, Q = withN W T xs k ((j : Int) + 1) := ⟨_, rfl⟩
            have hQle : Q ≤ 68719476736 := by rw [hQ]; exact withN_le (by rw [← HN.out]; exact n36) _ _
            have hnx : forcedW W T xs k (j + 1) = forcedW W T xs k j ++ (if Q = D then [(k : Int)] else []) := by rw [hQ, HD.out]; rfl
            have e5 : (j : Int) + 1 ≤ 4 := by omega
            cases xk
            · have hQ0 : Q = 0 := by rw [hQ]; exact withN_out HXK.out.symm
              rw [if_neg (by omega), List.append_nil] at hnx
              have HNX := Lib.hid hnx; clear hnx hQ hQ0
              go_wp2_with fail
              exact ⟨⟨j + 1, by omega, by go_num, by rw [HNX.out]; exact HO.out, pr, BEL.out⟩, by simp [intOf]; omega⟩
            · go_wp2_with fail
              refine (sTilingsWith_any _ _ _ _ _ xs _ _ _ HN.out hn' (HA.out.below BEL.out)).mono ?_; rintro e w3 ⟨rfl, hb3⟩
              rw [HWTT.out, ← hQ]
              have p3 := heap_later pr hb3
              have B3 := Lib.hid (below_seq BEL.out hb3)
              have O3 := Lib.hid (HO.out.below hb3)
              have l3 := heap_lt p3
              clear c0 c1 c2 pr hb3 hQ hxi
              by_cases hqd : Q = D
              · subst hqd
                rw [if_pos rfl] at hnx
                have HNX := Lib.hid hnx; clear hnx
                go_wp2_with (at_builtin; refine wpList_append_own _ rfl _ _ 41 rfl (w.heap.size + 1) 3 i0 (.int .i64 0) 1 8 Try.underlying41 hi hz0 hz1 hz2 rfl (by decide) _ (forcedTo W T xs k ++ forcedW W T xs k j).length ((forcedTo W T xs k ++ forcedW W T xs k j).map (Value.int .i64)) rfl (World.ownsRow.alloc O3.out _) ⟨w3.heap.size, 0, none⟩ 1 1 [.int .i64 k] rfl rfl (new_int _ _) (one_int _) (by unfold maxLen; rw [List.length_append]; omega) (by rw [List.length_append]; omega) (by simp; omega) ?_; intro v' w8 hown' hgrow _; have p8 := heap_grown (heap_later p3 (below1 _ _)) hgrow (O3.out.ownBlock (by omega)); have O8 := Lib.hid (OwnsI.ofRow (xs := forcedTo W T xs k ++ forcedW W T xs k (j + 1)) hown' (by rw [HNX.out]; simp) (by rw [HNX.out]; simp; omega)); have B8 := Lib.hid (below_grown (below_seq B3.out (below1 _ _)) hgrow (Nat.le_refl _) (O3.out.ownAt (by omega))); clear hown' hgrow)
                exact ⟨⟨j + 1, by omega, by go_num, O8.out, p8, B8.out⟩, by simp [intOf]; omega⟩
              · rw [if_neg hqd, List.append_nil] at hnx
                have HNX := Lib.hid hnx; clear hnx
                have zq : ((Q : Int) == (D : Int)) = false := by simp; omega
                go_wp2_with fail
                exact ⟨⟨j + 1, by omega, by go_num, by rw [HNX.out]; exact O3.out, p3, B3.out⟩, by simp [intOf]; omega⟩
          · obtain rfl : j = 4 := by omega
            clear hj4
            go_wp2_with fail
            exact ⟨⟨k + 1, by omega, by go_num, HO.out, pr, BEL.out⟩, by simp [intOf]; omega⟩
      · obtain rfl : k = n := by omega
        obtain ⟨a9, cap9, hv⟩ := ho.form2
        subst hv
        have HO := Lib.hid ho; clear ho
        go_wp2
        go_ret
        exact ⟨a9, cap9, rfl, HO.out.lower (by omega), hbel⟩
  · have e : forcedF W T xs = [] := by unfold forcedF; rw [if_neg h]
    rw [e]
    obtain ⟨t, ht⟩ : ∃ t, t = tilT W T xs := ⟨_, rfl⟩
    have ht0 : t < 1 := by
      rw [ht]; unfold tilT
      by_cases hr : rv W T xs = true
      · rw [if_pos hr]
        have : ¬ 0 < dpT W T xs := fun q => h ⟨hr, q⟩
        omega
      · rw [if_neg hr]; omega
    clear h
    by_cases hnz : 0 < n
    · have hni : (0 : Int) < n := by omega
      go_enter Try.func33, Try.ntmps33
      go_wp2_with fail
      rw [← hwA]
      clear hwA
      refine (sTilingsMany_any _ _ _ _ _ xs _ HN.out hn' (HA.out.below bA)).mono ?_; rintro e w1 ⟨rfl, hb1⟩
      rw [← ht]
      have p1 := heap_later pA hb1
      clear ht c0 c1 c2
      obtain ⟨c0, c1, c2⟩ := cells3 p1
      go_wp2_with fail
      refine wp_loop_rounds 1 ?_
      rw [rounds_succ]
      go_wp2
      go_ret
      exact ⟨some ⟨w.heap.size + 1, 0, none⟩, 0, rfl, (HOA.out.below hb1).lower (by omega), below_seq bA hb1⟩
    · obtain rfl : n = 0 := by omega
      go_enter Try.func33, Try.ntmps33
      go_wp2_with fail
      rw [← hwA]
      clear hwA
      refine (sTilingsMany_any _ _ _ _ _ xs _ HN.out hn' (HA.out.below bA)).mono ?_; rintro e w1 ⟨rfl, hb1⟩
      rw [← ht]
      have p1 := heap_later pA hb1
      clear ht c0 c1 c2
      obtain ⟨c0, c1, c2⟩ := cells3 p1
      go_wp2_with fail
      refine wp_loop_rounds 1 ?_
      rw [rounds_succ]
      go_wp2
      go_ret
      exact ⟨some ⟨w.heap.size + 1, 0, none⟩, 0, rfl, (HOA.out.below hb1).lower (by omega), below_seq bA hb1⟩

end Go.Proofs.Ytnpmnjmjbpfipaa
