/- Contracts of impl.heightMay, impl.riseMay, impl.firstCorner, impl.HeightsOk. -/
import Derived.Test.YtgfeemghpdeblaaSidesOf
import Derived.Test.YtgfeemghpdeblaaSimple
namespace Go.Proofs.Ytgfeemghpdeblaa
open Go.RowKit
set_option linter.unusedVariables false
set_option maxRecDepth 100000
set_option linter.unusedSimpArgs false

theorem hasCell_is (W T x y : Int) (a : Option Addr) (n cap : Nat) (xs : List Bool) (w : World) {v : Bool} (hn : n = xs.length) (hW0 : 0 ≤ W) (hW1 : W ≤ 100) (hT0 : 0 ≤ T) (hT1 : T ≤ 100) (hWT : (n : Int) = W * T) (ha : BoolsAt w a xs) (h : atB W T xs x y = v) :
    Calls Try.prog 99 #[.agg #[.int .i64 W, .int .i64 T, .slice a n cap], .int .i64 x, .int .i64 y] w fun e w' => e = .returned (.bool v) ∧ Below w.heap.size w w' := by
  subst h; exact hasCell_any W T x y a n cap xs w hn hW0 hW1 hT0 hT1 hWT ha

set_option maxHeartbeats 4000000 in
theorem heightMay_any (W T : Int) (a : Option Addr) (n cap : Nat) (xs : List Bool) (k : Nat) (v : Int) (w : World) (hn : n = xs.length) (hW0 : 1 ≤ W) (hW1 : W ≤ 6) (hT0 : 1 ≤ T) (hT1 : T ≤ 6) (hWT : (n : Int) = W * T) (hk : (k : Int) < (W + 1) * (T + 1)) (ha : BoolsAt w a xs) :
    Calls Try.prog 103 #[.agg #[.int .i64 W, .int .i64 T, .slice a n cap], .int .i64 k, .int .i64 v] w fun e w' => e = .returned (.bool (hMay W T xs k v)) ∧ Below w.heap.size w w' := by
  obtain ⟨kx0, kx1, ky0, ke⟩ := kxy hW0 k
  have ky1 := ky_le hW0 hk
  have hcb := corn_bd hW0 hW1 hT0 hT1
  have hk49 : (k : Int) ≤ 49 := by omega
  have HN := Lib.hid hn; clear hn
  have HA := Lib.hid ha; clear ha
  have HWT := Lib.hid hWT; clear hWT
  have hM : hMay W T xs k v = if (atB W T xs (kx W k) (ky W k) || atB W T xs (kx W k - 1) (ky W k) || atB W T xs (kx W k) (ky W k - 1) || atB W T xs (kx W k - 1) (ky W k - 1)) then inB v (-60) 60 else v == 99 := rfl
  have r1 : (k : Int) % (W + 1) = kx W k := rfl
  have r2 : (k : Int) / (W + 1) = ky W k := rfl
  have r1' : (k : Int).tmod (W + 1) = kx W k := Int.tmod_eq_emod_of_nonneg (by omega)
  have r2' : (k : Int).tdiv (W + 1) = ky W k := Int.tdiv_eq_ediv_of_nonneg (by omega)
  obtain ⟨x, hx⟩ : ∃ x, kx W k = x := ⟨_, rfl⟩
  obtain ⟨y, hy⟩ : ∃ y, ky W k = y := ⟨_, rfl⟩
  rw [hx] at r1 r1' kx0 kx1; rw [hy] at r2 r2' ky0 ky1
  rw [hx, hy] at hM
  have r3 : IntKind.i64.wrap (W + 1) = W + 1 := by rw [IntKind.wrap_i64]; omega
  have r4 : W + 1 ≠ 0 := by omega
  have r5 : ((W + 1 : Int) == 0) = false := by simpa using r4
  have r6 : IntKind.i64.wrap x = x := by rw [IntKind.wrap_i64]; omega
  have r7 : IntKind.i64.wrap y = y := by rw [IntKind.wrap_i64]; omega
  clear hx hy ke hk
  obtain ⟨wA, hwA⟩ : ∃ wA, wA = w.alloc (.cells #[.int .i64 W, .int .i64 T, .slice a n cap] 28) := ⟨_, rfl⟩
  have pA : wA.heap[w.heap.size]? = some (.cells #[.int .i64 W, .int .i64 T, .slice a n cap] 28 (0, 0)) := by rw [hwA]; exact heap_new _ _
  have bA : Below w.heap.size w wA := by rw [hwA]; exact below1 _ _
  obtain ⟨d0, d1, d2⟩ := cells3 pA
  have hq : ∀ q : Nat, (wA.drewN q).heap[w.heap.size]? = some (.cells #[.int .i64 W, .int .i64 T, .slice a n cap] 28 (0, 0)) := fun q => pA
  have HQ := Lib.hid hq; clear hq
  cases h1 : atB W T xs (x) (y)
  ·
    cases h2 : atB W T xs (x - 1) (y)
    ·
      cases h3 : atB W T xs (x) (y - 1)
      ·
        cases h4 : atB W T xs (x - 1) (y - 1)
        ·
          have HM : Hid (hMay W T xs k v = (v == 99)) := by show _ = _; rw [hM, h1, h2, h3, h4]; rfl
          rw [HM.out]
          have H1 := Lib.hid h1
          have H2 := Lib.hid h2
          have H3 := Lib.hid h3
          have H4 := Lib.hid h4
          clear hM h1 h2 h3 h4
          go_enter Try.func103, Try.ntmps103
          go_wp2_with fail
          rw [← hwA]; clear hwA
          go_quiet (fail)
          clear r1 r2 r1' r2' r3 r4 r5 r6 r7
          have p0 := HQ.out nq; have b0 := below_seq bA (drewN_below wA nq)
          obtain ⟨c00, c01, c02⟩ := cells3 p0
          go_wp2_with fail
          refine (hasCell_is _ _ _ _ _ _ _ xs _ HN.out (by omega) (by omega) (by omega) (by omega) HWT.out (HA.out.below b0) H1.out).mono ?_; rintro e w1 ⟨rfl, hb1⟩
          have p1 := heap_later p0 hb1; have b1 := below_seq b0 hb1
          obtain ⟨c10, c11, c12⟩ := cells3 p1
          go_wp2_with fail
          refine (hasCell_is _ _ _ _ _ _ _ xs _ HN.out (by omega) (by omega) (by omega) (by omega) HWT.out (HA.out.below b1) H2.out).mono ?_; rintro e w2 ⟨rfl, hb2⟩
          have p2 := heap_later p1 hb2; have b2 := below_seq b1 hb2
          obtain ⟨c20, c21, c22⟩ := cells3 p2
          go_wp2_with fail
          refine (hasCell_is _ _ _ _ _ _ _ xs _ HN.out (by omega) (by omega) (by omega) (by omega) HWT.out (HA.out.below b2) H3.out).mono ?_; rintro e w3 ⟨rfl, hb3⟩
          have p3 := heap_later p2 hb3; have b3 := below_seq b2 hb3
          obtain ⟨c30, c31, c32⟩ := cells3 p3
          go_wp2_with fail
          refine (hasCell_is _ _ _ _ _ _ _ xs _ HN.out (by omega) (by omega) (by omega) (by omega) HWT.out (HA.out.below b3) H4.out).mono ?_; rintro e w4 ⟨rfl, hb4⟩
          have p4 := heap_later p3 hb4; have b4 := below_seq b3 hb4
          go_wp2
          go_ret
          exact ⟨rfl, b4⟩
        · have HM : Hid (hMay W T xs k v = inB v (-60) 60) := by show _ = _; rw [hM, h1, h2, h3, h4]; simp
          rw [HM.out]
          have H1 := Lib.hid h1
          have H2 := Lib.hid h2
          have H3 := Lib.hid h3
          have H4 := Lib.hid h4
          clear hM h1 h2 h3 h4
          by_cases g1 : -60 ≤ v
          · by_cases g2 : v ≤ 60
            all_goals
              go_enter Try.func103, Try.ntmps103
              go_wp2_with fail
              rw [← hwA]; clear hwA
              go_quiet (fail)
              clear r1 r2 r1' r2' r3 r4 r5 r6 r7
              have p0 := HQ.out nq; have b0 := below_seq bA (drewN_below wA nq)
              obtain ⟨c00, c01, c02⟩ := cells3 p0
              go_wp2_with fail
              refine (hasCell_is _ _ _ _ _ _ _ xs _ HN.out (by omega) (by omega) (by omega) (by omega) HWT.out (HA.out.below b0) H1.out).mono ?_; rintro e w1 ⟨rfl, hb1⟩
              have p1 := heap_later p0 hb1; have b1 := below_seq b0 hb1
              obtain ⟨c10, c11, c12⟩ := cells3 p1
              go_wp2_with fail
              refine (hasCell_is _ _ _ _ _ _ _ xs _ HN.out (by omega) (by omega) (by omega) (by omega) HWT.out (HA.out.below b1) H2.out).mono ?_; rintro e w2 ⟨rfl, hb2⟩
              have p2 := heap_later p1 hb2; have b2 := below_seq b1 hb2
              obtain ⟨c20, c21, c22⟩ := cells3 p2
              go_wp2_with fail
              refine (hasCell_is _ _ _ _ _ _ _ xs _ HN.out (by omega) (by omega) (by omega) (by omega) HWT.out (HA.out.below b2) H3.out).mono ?_; rintro e w3 ⟨rfl, hb3⟩
              have p3 := heap_later p2 hb3; have b3 := below_seq b2 hb3
              obtain ⟨c30, c31, c32⟩ := cells3 p3
              go_wp2_with fail
              refine (hasCell_is _ _ _ _ _ _ _ xs _ HN.out (by omega) (by omega) (by omega) (by omega) HWT.out (HA.out.below b3) H4.out).mono ?_; rintro e w4 ⟨rfl, hb4⟩
              have p4 := heap_later p3 hb4; have b4 := below_seq b3 hb4
              go_wp2
              go_ret
              exact ⟨ret_bool (by simp [inB]; omega), b4⟩
          · go_enter Try.func103, Try.ntmps103
            go_wp2_with fail
            rw [← hwA]; clear hwA
            go_quiet (fail)
            clear r1 r2 r1' r2' r3 r4 r5 r6 r7
            have p0 := HQ.out nq; have b0 := below_seq bA (drewN_below wA nq)
            obtain ⟨c00, c01, c02⟩ := cells3 p0
            go_wp2_with fail
            refine (hasCell_is _ _ _ _ _ _ _ xs _ HN.out (by omega) (by omega) (by omega) (by omega) HWT.out (HA.out.below b0) H1.out).mono ?_; rintro e w1 ⟨rfl, hb1⟩
            have p1 := heap_later p0 hb1; have b1 := below_seq b0 hb1
            obtain ⟨c10, c11, c12⟩ := cells3 p1
            go_wp2_with fail
            refine (hasCell_is _ _ _ _ _ _ _ xs _ HN.out (by omega) (by omega) (by omega) (by omega) HWT.out (HA.out.below b1) H2.out).mono ?_; rintro e w2 ⟨rfl, hb2⟩
            have p2 := heap_later p1 hb2; have b2 := below_seq b1 hb2
            obtain ⟨c20, c21, c22⟩ := cells3 p2
            go_wp2_with fail
            refine (hasCell_is _ _ _ _ _ _ _ xs _ HN.out (by omega) (by omega) (by omega) (by omega) HWT.out (HA.out.below b2) H3.out).mono ?_; rintro e w3 ⟨rfl, hb3⟩
            have p3 := heap_later p2 hb3; have b3 := below_seq b2 hb3
            obtain ⟨c30, c31, c32⟩ := cells3 p3
            go_wp2_with fail
            refine (hasCell_is _ _ _ _ _ _ _ xs _ HN.out (by omega) (by omega) (by omega) (by omega) HWT.out (HA.out.below b3) H4.out).mono ?_; rintro e w4 ⟨rfl, hb4⟩
            have p4 := heap_later p3 hb4; have b4 := below_seq b3 hb4
            go_wp2
            go_ret
            exact ⟨ret_bool (by simp [inB]; omega), b4⟩
      · have HM : Hid (hMay W T xs k v = inB v (-60) 60) := by show _ = _; rw [hM, h1, h2, h3]; simp
        rw [HM.out]
        have H1 := Lib.hid h1
        have H2 := Lib.hid h2
        have H3 := Lib.hid h3
        clear hM h1 h2 h3
        by_cases g1 : -60 ≤ v
        · by_cases g2 : v ≤ 60
          all_goals
            go_enter Try.func103, Try.ntmps103
            go_wp2_with fail
            rw [← hwA]; clear hwA
            go_quiet (fail)
            clear r1 r2 r1' r2' r3 r4 r5 r6 r7
            have p0 := HQ.out nq; have b0 := below_seq bA (drewN_below wA nq)
            obtain ⟨c00, c01, c02⟩ := cells3 p0
            go_wp2_with fail
            refine (hasCell_is _ _ _ _ _ _ _ xs _ HN.out (by omega) (by omega) (by omega) (by omega) HWT.out (HA.out.below b0) H1.out).mono ?_; rintro e w1 ⟨rfl, hb1⟩
            have p1 := heap_later p0 hb1; have b1 := below_seq b0 hb1
            obtain ⟨c10, c11, c12⟩ := cells3 p1
            go_wp2_with fail
            refine (hasCell_is _ _ _ _ _ _ _ xs _ HN.out (by omega) (by omega) (by omega) (by omega) HWT.out (HA.out.below b1) H2.out).mono ?_; rintro e w2 ⟨rfl, hb2⟩
            have p2 := heap_later p1 hb2; have b2 := below_seq b1 hb2
            obtain ⟨c20, c21, c22⟩ := cells3 p2
            go_wp2_with fail
            refine (hasCell_is _ _ _ _ _ _ _ xs _ HN.out (by omega) (by omega) (by omega) (by omega) HWT.out (HA.out.below b2) H3.out).mono ?_; rintro e w3 ⟨rfl, hb3⟩
            have p3 := heap_later p2 hb3; have b3 := below_seq b2 hb3
            go_wp2
            go_ret
            exact ⟨ret_bool (by simp [inB]; omega), b3⟩
        · go_enter Try.func103, Try.ntmps103
          go_wp2_with fail
          rw [← hwA]; clear hwA
          go_quiet (fail)
          clear r1 r2 r1' r2' r3 r4 r5 r6 r7
          have p0 := HQ.out nq; have b0 := below_seq bA (drewN_below wA nq)
          obtain ⟨c00, c01, c02⟩ := cells3 p0
          go_wp2_with fail
          refine (hasCell_is _ _ _ _ _ _ _ xs _ HN.out (by omega) (by omega) (by omega) (by omega) HWT.out (HA.out.below b0) H1.out).mono ?_; rintro e w1 ⟨rfl, hb1⟩
          have p1 := heap_later p0 hb1; have b1 := below_seq b0 hb1
          obtain ⟨c10, c11, c12⟩ := cells3 p1
          go_wp2_with fail
          refine (hasCell_is _ _ _ _ _ _ _ xs _ HN.out (by omega) (by omega) (by omega) (by omega) HWT.out (HA.out.below b1) H2.out).mono ?_; rintro e w2 ⟨rfl, hb2⟩
          have p2 := heap_later p1 hb2; have b2 := below_seq b1 hb2
          obtain ⟨c20, c21, c22⟩ := cells3 p2
          go_wp2_with fail
          refine (hasCell_is _ _ _ _ _ _ _ xs _ HN.out (by omega) (by omega) (by omega) (by omega) HWT.out (HA.out.below b2) H3.out).mono ?_; rintro e w3 ⟨rfl, hb3⟩
          have p3 := heap_later p2 hb3; have b3 := below_seq b2 hb3
          go_wp2
          go_ret
          exact ⟨ret_bool (by simp [inB]; omega), b3⟩
    · have HM : Hid (hMay W T xs k v = inB v (-60) 60) := by show _ = _; rw [hM, h1, h2]; simp
      rw [HM.out]
      have H1 := Lib.hid h1
      have H2 := Lib.hid h2
      clear hM h1 h2
      by_cases g1 : -60 ≤ v
      · by_cases g2 : v ≤ 60
        all_goals
          go_enter Try.func103, Try.ntmps103
          go_wp2_with fail
          rw [← hwA]; clear hwA
          go_quiet (fail)
          clear r1 r2 r1' r2' r3 r4 r5 r6 r7
          have p0 := HQ.out nq; have b0 := below_seq bA (drewN_below wA nq)
          obtain ⟨c00, c01, c02⟩ := cells3 p0
          go_wp2_with fail
          refine (hasCell_is _ _ _ _ _ _ _ xs _ HN.out (by omega) (by omega) (by omega) (by omega) HWT.out (HA.out.below b0) H1.out).mono ?_; rintro e w1 ⟨rfl, hb1⟩
          have p1 := heap_later p0 hb1; have b1 := below_seq b0 hb1
          obtain ⟨c10, c11, c12⟩ := cells3 p1
          go_wp2_with fail
          refine (hasCell_is _ _ _ _ _ _ _ xs _ HN.out (by omega) (by omega) (by omega) (by omega) HWT.out (HA.out.below b1) H2.out).mono ?_; rintro e w2 ⟨rfl, hb2⟩
          have p2 := heap_later p1 hb2; have b2 := below_seq b1 hb2
          go_wp2
          go_ret
          exact ⟨ret_bool (by simp [inB]; omega), b2⟩
      · go_enter Try.func103, Try.ntmps103
        go_wp2_with fail
        rw [← hwA]; clear hwA
        go_quiet (fail)
        clear r1 r2 r1' r2' r3 r4 r5 r6 r7
        have p0 := HQ.out nq; have b0 := below_seq bA (drewN_below wA nq)
        obtain ⟨c00, c01, c02⟩ := cells3 p0
        go_wp2_with fail
        refine (hasCell_is _ _ _ _ _ _ _ xs _ HN.out (by omega) (by omega) (by omega) (by omega) HWT.out (HA.out.below b0) H1.out).mono ?_; rintro e w1 ⟨rfl, hb1⟩
        have p1 := heap_later p0 hb1; have b1 := below_seq b0 hb1
        obtain ⟨c10, c11, c12⟩ := cells3 p1
        go_wp2_with fail
        refine (hasCell_is _ _ _ _ _ _ _ xs _ HN.out (by omega) (by omega) (by omega) (by omega) HWT.out (HA.out.below b1) H2.out).mono ?_; rintro e w2 ⟨rfl, hb2⟩
        have p2 := heap_later p1 hb2; have b2 := below_seq b1 hb2
        go_wp2
        go_ret
        exact ⟨ret_bool (by simp [inB]; omega), b2⟩
  · have HM : Hid (hMay W T xs k v = inB v (-60) 60) := by show _ = _; rw [hM, h1]; simp
    rw [HM.out]
    have H1 := Lib.hid h1
    clear hM h1
    by_cases g1 : -60 ≤ v
    · by_cases g2 : v ≤ 60
      all_goals
        go_enter Try.func103, Try.ntmps103
        go_wp2_with fail
        rw [← hwA]; clear hwA
        go_quiet (fail)
        clear r1 r2 r1' r2' r3 r4 r5 r6 r7
        have p0 := HQ.out nq; have b0 := below_seq bA (drewN_below wA nq)
        obtain ⟨c00, c01, c02⟩ := cells3 p0
        go_wp2_with fail
        refine (hasCell_is _ _ _ _ _ _ _ xs _ HN.out (by omega) (by omega) (by omega) (by omega) HWT.out (HA.out.below b0) H1.out).mono ?_; rintro e w1 ⟨rfl, hb1⟩
        have p1 := heap_later p0 hb1; have b1 := below_seq b0 hb1
        go_wp2
        go_ret
        exact ⟨ret_bool (by simp [inB]; omega), b1⟩
    · go_enter Try.func103, Try.ntmps103
      go_wp2_with fail
      rw [← hwA]; clear hwA
      go_quiet (fail)
      clear r1 r2 r1' r2' r3 r4 r5 r6 r7
      have p0 := HQ.out nq; have b0 := below_seq bA (drewN_below wA nq)
      obtain ⟨c00, c01, c02⟩ := cells3 p0
      go_wp2_with fail
      refine (hasCell_is _ _ _ _ _ _ _ xs _ HN.out (by omega) (by omega) (by omega) (by omega) HWT.out (HA.out.below b0) H1.out).mono ?_; rintro e w1 ⟨rfl, hb1⟩
      have p1 := heap_later p0 hb1; have b1 := below_seq b0 hb1
      go_wp2
      go_ret
      exact ⟨ret_bool (by simp [inB]; omega), b1⟩

theorem jumpOf_any (k kt r cl wy : Int) (b : Bool) (w : World) (hr : r = 1 ∨ r = -1) :
    Calls Try.prog 79 #[.agg #[.int .i64 k, .int .i64 kt, .int .i64 r, .bool b, .int .i64 cl, .int .i64 wy]] w fun e w' => e = .returned (.int .i64 (-3 * r)) ∧ Below w.heap.size w w' := by
  rcases hr with rfl | rfl
  all_goals
    go_enter Try.func79, Try.ntmps79
    go_wp2
    go_ret
    exact ⟨rfl, below1 _ _⟩
set_option maxHeartbeats 1000000 in
theorem riseMay_any (k kt r cl wy d : Int) (b : Bool) (w : World) (hr : r = 1 ∨ r = -1) :
    Calls Try.prog 104 #[.agg #[.int .i64 k, .int .i64 kt, .int .i64 r, .bool b, .int .i64 cl, .int .i64 wy], .int .i64 d] w fun e w' => e = .returned (.bool (d == r || (b && d == -3 * r))) ∧ Below w.heap.size w w' := by
  have p1 := heap_new w (.cells #[.int .i64 k, .int .i64 kt, .int .i64 r, .bool b, .int .i64 cl, .int .i64 wy] 54)
  have HR := Lib.hid hr; clear hr
  by_cases h1 : d = r
  · subst h1
    go_enter Try.func104, Try.ntmps104
    go_wp2
    go_ret
    exact ⟨ret_bool (by simp), below1 _ _⟩
  · have e1 : (d == r) = false := by simpa using h1
    have E1 := Lib.hid e1
    clear h1
    cases b
    · go_enter Try.func104, Try.ntmps104
      go_wp2
      go_ret
      exact ⟨ret_bool (by rw [E1.out]; rfl), below1 _ _⟩
    · go_enter Try.func104, Try.ntmps104
      go_wp2_with fail
      refine (jumpOf_any _ _ _ _ _ _ _ HR.out).mono ?_; rintro e w2 ⟨rfl, hb2⟩
      go_wp2
      go_ret
      exact ⟨ret_bool (by rw [E1.out]; rfl), below_seq (below1 _ _) hb2⟩
end Go.Proofs.Ytgfeemghpdeblaa
