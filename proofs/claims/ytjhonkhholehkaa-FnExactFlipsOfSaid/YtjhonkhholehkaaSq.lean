/- Contracts of what flips are made of: impl.southWestOf, impl.northEastOf, impl.twoAround, impl.turnTwo, spec.l5Square; of both functions FlipMay. -/
import Derived.Test.YtjhonkhholehkaaSqM
namespace Go.Proofs.Ytjhonkhholehkaa
open Go.RowKit
set_option linter.unusedVariables false
set_option maxRecDepth 100000
set_option linter.unusedSimpArgs false

theorem wf_bd {c : Int} (h : (Lit.int .i64 c).wf = true) : -9223372036854775808 ≤ c ∧ c ≤ 9223372036854775807 := by
  simp [Lit.wf, IntKind.min, IntKind.max, IntKind.signed, IntKind.bits] at h
  exact h
theorem cxy_bd {W c : Int} (hW : 1 ≤ W) (hW6 : W ≤ 6) (h0 : -9223372036854775808 ≤ c) (h1 : c ≤ 9223372036854775807) :
    -6 ≤ cxI W c ∧ cxI W c ≤ 6 ∧ -4611686018427387904 ≤ cyI W c ∧ cyI W c ≤ 4611686018427387904 := by
  unfold cxI cyI
  by_cases hc : 0 ≤ c
  · rw [Int.tmod_eq_emod_of_nonneg hc, Int.tdiv_eq_ediv_of_nonneg hc]
    have a := Int.emod_nonneg c (show W + 1 ≠ 0 by omega)
    have b := Int.emod_lt_of_pos c (show 0 < W + 1 by omega)
    have d := Int.ediv_nonneg hc (show 0 ≤ W + 1 by omega)
    have e : c / (W + 1) ≤ 4611686018427387904 := Int.ediv_le_of_le_mul (by omega) (by have : 4611686018427387904 * 2 ≤ 4611686018427387904 * (W + 1) := Int.mul_le_mul_of_nonneg_left (by omega) (by omega); omega)
    omega
  · obtain ⟨m, rfl⟩ : ∃ m : Int, c = -m := ⟨-c, by omega⟩
    rw [Int.neg_tmod, Int.neg_tdiv, Int.tmod_eq_emod_of_nonneg (by omega), Int.tdiv_eq_ediv_of_nonneg (by omega)]
    have a := Int.emod_nonneg m (show W + 1 ≠ 0 by omega)
    have b := Int.emod_lt_of_pos m (show 0 < W + 1 by omega)
    have d := Int.ediv_nonneg (show 0 ≤ m by omega) (show 0 ≤ W + 1 by omega)
    have e : m / (W + 1) ≤ 4611686018427387904 := Int.ediv_le_of_le_mul (by omega) (by have : 4611686018427387904 * 2 ≤ 4611686018427387904 * (W + 1) := Int.mul_le_mul_of_nonneg_left (by omega) (by omega); omega)
    omega
theorem ret_ib {a a' : Int} {b b' : Bool} (h : a = a') (hb : b = b') : Ending.returned (.tuple #[.int .i64 a, .bool b]) = .returned (.tuple #[.int .i64 a', .bool b']) := by rw [h, hb]

set_option maxHeartbeats 1000000 in
theorem southWestOf_any (W T : Int) (a : Option Addr) (n cap : Nat) (c : Int) (w : World) (hW0 : 1 ≤ W) (hW1 : W ≤ 6) (hT0 : 1 ≤ T) (hT1 : T ≤ 6) (hc0 : -9223372036854775808 ≤ c) (hc1 : c ≤ 9223372036854775807) :
    Calls Try.prog 56 #[.agg #[.int .i64 W, .int .i64 T, .slice a n cap], .int .i64 c] w fun e w' => e = .returned (.tuple #[.int .i64 (sqI W T c), .bool (sqF W T c)]) ∧ Below w.heap.size w w' := by
  obtain ⟨x0, x1, y0, y1⟩ := cxy_bd hW0 hW1 hc0 hc1
  have hF : sqF W T c = (inF W T (cxI W c - 1) (cyI W c - 1) && inF W T (cxI W c) (cyI W c)) := rfl
  have hI : sqI W T c = if sqF W T c then (cyI W c - 1) * W + (cxI W c - 1) else -1 := rfl
  obtain ⟨x, hx⟩ : ∃ x, cxI W c = x := ⟨_, rfl⟩
  obtain ⟨y, hy⟩ : ∃ y, cyI W c = y := ⟨_, rfl⟩
  rw [hx, hy] at hF hI
  rw [hx] at x0 x1; rw [hy] at y0 y1
  have r1 : c.tmod (W + 1) = x := hx
  have r2 : c.tdiv (W + 1) = y := hy
  have r6 : IntKind.i64.wrap x = x := by rw [IntKind.wrap_i64]; omega
  have r7 : IntKind.i64.wrap y = y := by rw [IntKind.wrap_i64]; omega
  have r3 : IntKind.i64.wrap (W + 1) = W + 1 := by rw [IntKind.wrap_i64]; omega
  have r4 : W + 1 ≠ 0 := by omega
  have r5 : ((W + 1 : Int) == 0) = false := by simpa using r4
  clear hx hy
  obtain ⟨wA, hwA⟩ : ∃ wA, wA = w.alloc (.cells #[.int .i64 W, .int .i64 T, .slice a n cap] 28) := ⟨_, rfl⟩
  have pA : wA.heap[w.heap.size]? = some (.cells #[.int .i64 W, .int .i64 T, .slice a n cap] 28 (0, 0)) := by rw [hwA]; exact heap_new _ _
  have bA : Below w.heap.size w wA := by rw [hwA]; exact below1 _ _
  obtain ⟨d0, d1, d2⟩ := cells3 pA
  have lA := heap_lt pA
  cases h1 : inF W T (x - 1) (y - 1)
  · have HF : Hid (sqF W T c = false) := by show _ = _; rw [hF, h1]; rfl
    have HI : Hid (sqI W T c = -1) := by show _ = _; rw [hI, HF.out]; rfl
    have H1 := Lib.hid h1; clear h1 hF hI
    go_enter Try.func56, Try.ntmps56
    go_wp2_with fail
    rw [← hwA]; clear hwA
    go_quiet (fail)
    have pq : (wA.drewN nq).heap[w.heap.size]? = some _ := pA
    obtain ⟨q0, q1, q2⟩ := cells3 pq
    clear r1 r2 r3 r4 r5 r6 r7
    go_wp2_with fail
    refine (inField_is _ _ _ _ _ _ H1.out).mono ?_; rintro e w2 ⟨rfl, hb2⟩
    go_wp2
    go_ret2
    exact ⟨ret_ib HI.out.symm HF.out.symm, below_seq bA (below_seq (drewN_below _ _) hb2)⟩
  · cases h2 : inF W T x y
    · have HF : Hid (sqF W T c = false) := by show _ = _; rw [hF, h1, h2]; rfl
      have HI : Hid (sqI W T c = -1) := by show _ = _; rw [hI, HF.out]; rfl
      have H1 := Lib.hid h1; have H2 := Lib.hid h2; clear h1 h2 hF hI
      go_enter Try.func56, Try.ntmps56
      go_wp2_with fail
      rw [← hwA]; clear hwA
      go_quiet (fail)
      have pq : (wA.drewN nq).heap[w.heap.size]? = some _ := pA
      obtain ⟨q0, q1, q2⟩ := cells3 pq
      clear r1 r2 r3 r4 r5 r6 r7
      go_wp2_with fail
      refine (inField_is _ _ _ _ _ _ H1.out).mono ?_; rintro e w2 ⟨rfl, hb2⟩
      have p2 := heap_later pq hb2
      obtain ⟨c0, c1, c2⟩ := cells3 p2
      go_wp2_with fail
      refine (inField_is _ _ _ _ _ _ H2.out).mono ?_; rintro e w3 ⟨rfl, hb3⟩
      go_wp2
      go_ret2
      exact ⟨ret_ib HI.out.symm HF.out.symm, below_seq bA (below_seq (drewN_below _ _) (below_seq hb2 hb3))⟩
    · have HF : Hid (sqF W T c = true) := by show _ = _; rw [hF, h1, h2]; rfl
      have HI : Hid (sqI W T c = (y - 1) * W + (x - 1)) := by show _ = _; rw [hI, HF.out]; rfl
      have ⟨g1, g2, g3, g4⟩ : 0 ≤ x - 1 ∧ x - 1 < W ∧ 0 ≤ y - 1 ∧ y - 1 < T := by simpa [inF] using h1
      obtain ⟨i0, i1, i2⟩ := idx_bd (W := W) (T := T) g1 g2 g3 g4
      have pb := (prod_bd (W := W) (T := T) (by omega) (by omega) (by omega) (by omega)).2
      have i3 : (y - 1) * W ≤ 100000 := by omega
      have H1 := Lib.hid h1; have H2 := Lib.hid h2; clear h1 h2 hF hI
      go_enter Try.func56, Try.ntmps56
      go_wp2_with fail
      rw [← hwA]; clear hwA
      go_quiet (fail)
      have pq : (wA.drewN nq).heap[w.heap.size]? = some _ := pA
      obtain ⟨q0, q1, q2⟩ := cells3 pq
      clear r1 r2 r3 r4 r5 r6 r7
      go_wp2_with fail
      refine (inField_is _ _ _ _ _ _ H1.out).mono ?_; rintro e w2 ⟨rfl, hb2⟩
      have p2 := heap_later pq hb2
      obtain ⟨c0, c1, c2⟩ := cells3 p2
      go_wp2_with fail
      refine (inField_is _ _ _ _ _ _ H2.out).mono ?_; rintro e w3 ⟨rfl, hb3⟩
      have p3 := heap_later p2 hb3
      obtain ⟨e0, e1, e2⟩ := cells3 p3
      go_wp2_with fail
      refine (cellAt_any _ _ _ _ (.bool false) _ _ _ _ g1 (by omega) i0 i3).mono ?_; rintro e w4 ⟨rfl, hb4⟩
      go_wp2
      go_ret2
      exact ⟨ret_ib HI.out.symm HF.out.symm, below_seq bA (below_seq (drewN_below _ _) (below_seq hb2 (below_seq hb3 hb4)))⟩

theorem northEastOf_any (W T : Int) (a : Option Addr) (n cap : Nat) (k : Int) (w : World) (hW0 : 1 ≤ W) (hW1 : W ≤ 6) (hk0 : 0 ≤ k) (hk1 : k ≤ 10000) :
    Calls Try.prog 57 #[.agg #[.int .i64 W, .int .i64 T, .slice a n cap], .int .i64 k] w fun e w' => e = .returned (.int .i64 (k + W + 1)) ∧ Below w.heap.size w w' := by
  go_enter Try.func57, Try.ntmps57
  go_wp2
  go_ret
  exact ⟨rfl, below1 _ _⟩

/-- What the two entries are that tell whether a right list may be flipped. -/
theorem sq_small {W T c : Int} {n : Nat} (hW : 1 ≤ W) (hW6 : W ≤ 6) (hT : 1 ≤ T) (hT6 : T ≤ 6) (hWT : (n : Int) = W * T) (h : sqF W T c = true) :
    ∃ a d : Nat, sqI W T c = a ∧ (a : Int) + W + 1 = d ∧ a < n ∧ d < n ∧ n ≤ 36 := by
  obtain ⟨a, wn, rfl, hw, ha, hb, _⟩ := sq_at hW hW6 hT hT6 h
  rw [← hWT] at hb
  have : (wn : Int) * T ≤ 6 * 6 := Int.mul_le_mul (by omega) hT6 (by omega) (by omega)
  exact ⟨a, a + wn + 1, ha, by omega, by omega, by omega, by omega⟩

set_option maxHeartbeats 2000000 in
theorem twoAround_any (W T : Int) (a : Option Addr) (n cap : Nat) (xs : List Bool) (la : Option Addr) (lcap : Nat) (L : List Int) (c : Int) (w : World) (hn : n = xs.length) (hm : n = L.length) (hk : lok W T xs L = true) (hc0 : -9223372036854775808 ≤ c) (hc1 : c ≤ 9223372036854775807) (hl : IntsAt w la L) :
    Calls Try.prog 36 #[.agg #[.int .i64 W, .int .i64 T, .slice a n cap], .slice la n lcap, .int .i64 c] w fun e w' => e = .returned (.bool (mayB W T L c)) ∧ Below w.heap.size w w' := by
  obtain ⟨hr, _, _⟩ := lok_rv hk
  obtain ⟨v1, v2, v3, v4, v5, _⟩ := rv_true hr
  have HM := Lib.hid hm; clear hm
  have HL := Lib.hid hl; clear hl
  have HWT : Hid ((n : Int) = W * T) := by show _ = _; rw [hn]; exact v5
  clear v5 hn
  cases h : sqF W T c
  · have HE : Hid (mayB W T L c = false) := by show _ = _; unfold mayB; rw [h]; rfl
    rw [HE.out]
    have H := Lib.hid h; clear h hk hr
    go_enter Try.func36, Try.ntmps36
    go_wp2_with fail
    refine (southWestOf_any _ _ _ _ _ _ _ v1 v2 v3 v4 hc0 hc1).mono ?_; rintro e w1 ⟨rfl, hb1⟩
    rw [H.out]
    go_wp2
    go_ret
    exact ⟨rfl, below_seq (below1 _ _) hb1⟩
  · obtain ⟨k, d, ek, ed, k1, d1, n36⟩ := sq_small v1 v2 v3 v4 HWT.out h
    have hway : 0 ≤ L.getD k 0 ∧ L.getD k 0 ≤ 4 := lok_way hk (by rw [← HM.out]; exact k1)
    obtain ⟨x, hx⟩ : ∃ x, x = L.getD k 0 := ⟨_, rfl⟩
    obtain ⟨y, hy⟩ : ∃ y, y = L.getD d 0 := ⟨_, rfl⟩
    have hE : mayB W T L c = ((x == 1 || x == 2) && (y == backI x)) := by
      unfold mayB; rw [h, ek, ed, hx, hy]; simp
    obtain ⟨lb, lo, rfl, -⟩ := HL.out 0 (by rw [← HM.out]; omega)
    rw [← hx] at hway
    have HX : Hid (x = L.getD k 0) := hx
    have HY : Hid (y = L.getD d 0) := hy
    have ke : (k : Int) < n := by omega
    have de : (d : Int) < n := by omega
    have H := Lib.hid h; have EK := Lib.hid ek; have ED := Lib.hid ed; clear h hk hr ek ed hx hy
    obtain ⟨wA, hwA⟩ : ∃ wA, wA = w.alloc (.cells #[.int .i64 W, .int .i64 T, .slice a n cap] 28) := ⟨_, rfl⟩
    have pA : wA.heap[w.heap.size]? = some (.cells #[.int .i64 W, .int .i64 T, .slice a n cap] 28 (0, 0)) := by rw [hwA]; exact heap_new _ _
    have bA : Below w.heap.size w wA := by rw [hwA]; exact below1 _ _
    obtain ⟨d0, d1', d2⟩ := cells3 pA
    by_cases h12 : x = 1 ∨ x = 2
    · have HE : Hid (mayB W T L c = (y == backI x)) := by
        show _ = _; rw [hE]; rcases h12 with rfl | rfl <;> simp
      rw [HE.out]
      clear hE
      have e1 : (x != 1 && x != 2) = false := by rcases h12 with rfl | rfl <;> decide
      have hx1 : x = 1 ∨ (x = 2) := h12
      clear h12
      have hw1 : x ≤ 1000 := by omega
      have hw0 : 0 ≤ x := by omega
      clear hway
      rcases hx1 with rfl | rfl
      · go_enter Try.func36, Try.ntmps36
        go_wp2_with fail
        rw [← hwA]; clear hwA
        refine (southWestOf_any _ _ _ _ _ _ _ v1 v2 v3 v4 hc0 hc1).mono ?_; rintro e w1 ⟨rfl, hb1⟩
        rw [H.out, EK.out]
        have p1 := heap_later pA hb1
        have b1 := below_seq bA hb1
        obtain ⟨c0, c1, c2⟩ := cells3 p1
        have qk := (HL.out.below b1).cellAt (i := k) (by rw [← HM.out]; exact k1)
        have qd := (HL.out.below b1).cellAt (i := d) (by rw [← HM.out]; exact d1)
        rw [← HX.out] at qk; rw [← HY.out] at qd
        have P1 : w1.drew.heap[w.heap.size]? = some _ := p1
        go_wp2_with fail
        go_region_held3 (fun w' => w'.cell? ⟨w.heap.size, 0, none⟩ = some (.int .i64 W) ∧ w'.cell? ⟨w.heap.size, 1, none⟩ = some (.int .i64 T) ∧ w'.cell? ⟨w.heap.size, 2, none⟩ = some (.slice a n cap) ∧ w'.cell? ⟨lb, lo + k, none⟩ = some (.int .i64 1) ∧ w'.cell? ⟨lb, lo + d, none⟩ = some (.int .i64 y))
          (go_keep)
          (first
            | (go_at_call 57; refine (northEastOf_any _ _ _ _ _ _ _ v1 v2 (by omega) (by omega)).mono ?_; rintro e w2 ⟨rfl, hb2⟩; rw [ED.out]; have p2 := heap_later P1 hb2; obtain ⟨c20, c21, c22⟩ := cells3 p2; have qk2 := cell_later hb2 (show (World.drew w1).cell? _ = some _ from qk); have qd2 := cell_later hb2 (show (World.drew w1).cell? _ = some _ from qd))
            | (go_at_call 58; refine (opposite_same _ _ hw0 hw1).mono ?_; rintro e w3 ⟨rfl, rfl⟩))
        go_wp2
        go_ret
        exact ⟨rfl, below_seq b1 (below_seq (drew_below _) hb2)⟩
      · go_enter Try.func36, Try.ntmps36
        go_wp2_with fail
        rw [← hwA]; clear hwA
        refine (southWestOf_any _ _ _ _ _ _ _ v1 v2 v3 v4 hc0 hc1).mono ?_; rintro e w1 ⟨rfl, hb1⟩
        rw [H.out, EK.out]
        have p1 := heap_later pA hb1
        have b1 := below_seq bA hb1
        obtain ⟨c0, c1, c2⟩ := cells3 p1
        have qk := (HL.out.below b1).cellAt (i := k) (by rw [← HM.out]; exact k1)
        have qd := (HL.out.below b1).cellAt (i := d) (by rw [← HM.out]; exact d1)
        rw [← HX.out] at qk; rw [← HY.out] at qd
        have P1 : w1.drew.heap[w.heap.size]? = some _ := p1
        go_wp2_with fail
        go_region_held3 (fun w' => w'.cell? ⟨w.heap.size, 0, none⟩ = some (.int .i64 W) ∧ w'.cell? ⟨w.heap.size, 1, none⟩ = some (.int .i64 T) ∧ w'.cell? ⟨w.heap.size, 2, none⟩ = some (.slice a n cap) ∧ w'.cell? ⟨lb, lo + k, none⟩ = some (.int .i64 2) ∧ w'.cell? ⟨lb, lo + d, none⟩ = some (.int .i64 y))
          (go_keep)
          (first
            | (go_at_call 57; refine (northEastOf_any _ _ _ _ _ _ _ v1 v2 (by omega) (by omega)).mono ?_; rintro e w2 ⟨rfl, hb2⟩; rw [ED.out]; have p2 := heap_later P1 hb2; obtain ⟨c20, c21, c22⟩ := cells3 p2; have qk2 := cell_later hb2 (show (World.drew w1).cell? _ = some _ from qk); have qd2 := cell_later hb2 (show (World.drew w1).cell? _ = some _ from qd))
            | (go_at_call 58; refine (opposite_same _ _ hw0 hw1).mono ?_; rintro e w3 ⟨rfl, rfl⟩))
        go_wp2
        go_ret
        exact ⟨rfl, below_seq b1 (below_seq (drew_below _) hb2)⟩
    · have HE : Hid (mayB W T L c = false) := by
        show _ = _; rw [hE]
        rw [show (x == 1) = false by simp; omega, show (x == 2) = false by simp; omega]; rfl
      rw [HE.out]
      clear hE
      have t1 : (x != 1) = true := by simp; omega
      have t2 : (x != 2) = true := by simp; omega
      clear h12
      go_enter Try.func36, Try.ntmps36
      go_wp2_with fail
      rw [← hwA]; clear hwA
      refine (southWestOf_any _ _ _ _ _ _ _ v1 v2 v3 v4 hc0 hc1).mono ?_; rintro e w1 ⟨rfl, hb1⟩
      rw [H.out, EK.out]
      have b1 := below_seq bA hb1
      have qk := (HL.out.below b1).cellAt (i := k) (by rw [← HM.out]; exact k1)
      rw [← HX.out] at qk
      go_wp2
      go_ret
      exact ⟨rfl, b1⟩

set_option maxHeartbeats 2000000 in
theorem turnTwo_no (W T : Int) (a : Option Addr) (n cap : Nat) (xs : List Bool) (la : Option Addr) (lcap : Nat) (L : List Int) (c : Int) (w : World) (hn : n = xs.length) (hm : n = L.length) (hk : lok W T xs L = true) (hc0 : -9223372036854775808 ≤ c) (hc1 : c ≤ 9223372036854775807) (hl : IntsAt w la L) (h : mayB W T L c = false) :
    Calls Try.prog 39 #[.agg #[.int .i64 W, .int .i64 T, .slice a n cap], .slice la n lcap, .int .i64 c] w fun e w' => e = .returned (.bool false) ∧ Below w.heap.size w w' := by
  have HN := Lib.hid hn; clear hn
  have HM := Lib.hid hm; clear hm
  have HL := Lib.hid hl; clear hl
  have HK := Lib.hid hk; clear hk
  have H := Lib.hid h; clear h
  go_enter Try.func39, Try.ntmps39
  go_wp2_with fail
  refine (twoAround_any _ _ _ _ _ xs _ _ L _ _ HN.out HM.out HK.out hc0 hc1 (HL.out.one _)).mono ?_; rintro e w1 ⟨rfl, hb1⟩
  rw [H.out]
  go_wp2
  go_ret
  exact ⟨rfl, below_seq (below1 _ _) hb1⟩

set_option maxHeartbeats 4000000 in
theorem turnTwo_yes (W T : Int) (a : Option Addr) (n cap : Nat) (xs : List Bool) (g lcap B : Nat) (L : List Int) (c : Int) (w : World) (hn : n = xs.length) (hn' : n ≤ 1048576) (hm : n = L.length) (hk : lok W T xs L = true) (hc0 : -9223372036854775808 ≤ c) (hc1 : c ≤ 9223372036854775807) (ha : BoolsAt w a xs) (w0 : World) (ha0 : BoolsAt w0 a xs) (hB : w0.heap.size ≤ B) (ho : OwnsI w B (.slice (some ⟨g, 0, none⟩) n lcap) L) (h : mayB W T L c = true) :
    Calls Try.prog 39 #[.agg #[.int .i64 W, .int .i64 T, .slice a n cap], .slice (some ⟨g, 0, none⟩) n lcap, .int .i64 c] w fun e w' => e = .returned (.bool true) ∧ OwnsI w' B (.slice (some ⟨g, 0, none⟩) n lcap) (flipL W T L c) ∧ w.grownBy w' (some g) := by
  obtain ⟨hr, _, _⟩ := lok_rv hk
  obtain ⟨v1, v2, v3, v4, v5, _⟩ := rv_true hr
  obtain ⟨k, wn, hWn, hw2, hsq, hbd, hF, hx, hd, _⟩ := may_at hk h
  have h12 : ∃ x v : Int, L.getD k 0 = x ∧ (x = 1 ∧ v = 2 ∨ x = 2 ∧ v = 1) := by
    rcases hd with ⟨d1, _⟩ | ⟨d1, _⟩
    · exact ⟨1, 2, d1, Or.inl ⟨rfl, rfl⟩⟩
    · exact ⟨2, 1, d1, Or.inr ⟨rfl, rfl⟩⟩
  obtain ⟨x, v, hxv, h12⟩ := h12
  obtain ⟨o, p, o1, p1, b1, oa, pd, n0, st, n1, st1, k1, k2, efl⟩ := flip_steps hk h hWn hsq v (by rw [hxv]; rcases h12 with ⟨rfl, rfl⟩ | ⟨rfl, rfl⟩ <;> rfl)
  have HWT : Hid ((n : Int) = W * T) := by show _ = _; rw [hn]; exact v5
  have n36 : n ≤ 36 := by
    have : W * T ≤ 6 * 6 := Int.mul_le_mul v2 v4 (by omega) (by omega)
    have := HWT.out; omega
  have ed : (k : Int) + W + 1 = (k + wn + 1 : Nat) := by rw [hWn]; omega
  rw [← hm] at o1 p1 b1 st st1
  obtain ⟨d, hdd⟩ : ∃ d, d = k + wn + 1 := ⟨_, rfl⟩
  rw [← hdd] at ed b1 pd n1 st1 k1 k2 efl
  have hkn : k < n := by omega
  obtain ⟨L1, hL1⟩ : ∃ L1, L1 = (L.set o 0).set k 0 := ⟨_, rfl⟩
  rw [← hL1] at n1 st1 k1 k2 efl
  obtain ⟨L2, hL2⟩ : ∃ L2, L2 = (L1.set p 0).set d 0 := ⟨_, rfl⟩
  rw [← hL2] at k1 k2 efl
  obtain ⟨L3, hL3⟩ : ∃ L3, L3 = laidL W T xs L2 k v := ⟨_, rfl⟩
  rw [← hL3] at k2 efl
  have HM1 : Hid (n = L1.length) := by show _ = _; rw [hL1, hm]; simp
  have HM2 : Hid (n = L2.length) := by show _ = _; rw [hL2, HM1.out]; simp
  have HM3 : Hid (n = L3.length) := by show _ = _; rw [hL3, HM2.out, laidL_len]
  have HL1 := Lib.hid hL1; have HL2 := Lib.hid hL2; have HL3 := Lib.hid hL3; have EFL := Lib.hid efl; have ED := Lib.hid ed; have OA := Lib.hid oa; have PD := Lib.hid pd
  have HST := Lib.hid st; have HST1 := Lib.hid st1; have HN0 := Lib.hid n0; have HN1 := Lib.hid n1; have K1 := Lib.hid k1; have K2 := Lib.hid k2
  have HXV := Lib.hid hxv; have HF := Lib.hid hF; have SQ := Lib.hid hsq
  have HN := Lib.hid hn; have HM := Lib.hid hm; have HA := Lib.hid ha; have HA0 := Lib.hid ha0; have HO := Lib.hid ho; have HK := Lib.hid hk; have H := Lib.hid h
  clear hL1 hL2 hL3 efl ed oa pd st st1 n0 n1 k1 k2 hxv hF hsq hn hm ha ha0 ho hk h hdd hd hx hbd hw2 hWn v5 hr
  rename_i u1 u2 u3 u4
  clear u1 u2 u3 u4
  have hke : (k : Int) < n := by omega
  have hgl := HO.out.lt
  rcases h12 with ⟨rfl, rfl⟩ | ⟨rfl, rfl⟩
  all_goals
    go_enter Try.func39, Try.ntmps39
    go_wp2_with fail
    refine (twoAround_any _ _ _ _ _ xs _ _ L _ _ HN.out HM.out HK.out hc0 hc1 ((OwnsI.at HO.out).one _)).mono ?_; rintro e w1 ⟨rfl, hb1⟩
    rw [H.out]
    have b1' := below_seq (below1 w _) hb1
    have P1 := heap_later (heap_new w _) hb1
    obtain ⟨c10, c11, c12⟩ := cells3 P1
    go_wp2_with fail
    refine (southWestOf_any _ _ _ _ _ _ _ v1 v2 v3 v4 hc0 hc1).mono ?_; rintro e w2 ⟨rfl, hb2⟩
    rw [HF.out, SQ.out]
    have b2 := below_seq b1' hb2
    have P2 := heap_later P1 hb2
    clear c10 c11 c12 P1
    obtain ⟨c20, c21, c22⟩ := cells3 P2
    go_wp2_with fail
    refine (northEastOf_any _ _ _ _ _ _ _ v1 v2 (by omega) (by omega)).mono ?_; rintro e w3 ⟨rfl, hb3⟩
    rw [ED.out]
    have b3 := below_seq b2 hb3
    have P3 := heap_later P2 hb3
    clear c20 c21 c22 P2
    obtain ⟨c30, c31, c32⟩ := cells3 P3
    have O3 := Lib.hid (HO.out.below b3)
    have qa := O3.out.cell (k := k) (by rw [← HM.out]; exact hkn)
    rw [HXV.out] at qa
    have A3 := Lib.hid (HA.out.below b3)
    have hgne : g ≠ w.heap.size := by omega
    go_wp2_with fail
    refine (liftUp_yes _ _ _ _ _ _ _ _ L k o _ hn' HM.out v1 v2 v3 v4 HWT.out hkn o1 OA.out HN0.out HST.out O3.out).mono ?_; rintro e w4 ⟨rfl, ho4, hg4⟩
    rw [← HL1.out] at ho4
    have O4 := Lib.hid ho4; clear ho4
    have G4 := Lib.hid hg4
    have P4 := heap_grown P3 hg4 (fun e => hgne (by cases e; rfl))
    clear c30 c31 c32 qa hg4
    obtain ⟨c40, c41, c42⟩ := cells3 P4
    go_wp2_with fail
    refine (liftUp_yes _ _ _ _ _ _ _ _ L1 d p _ hn' HM1.out v1 v2 v3 v4 HWT.out b1 p1 PD.out HN1.out HST1.out O4.out).mono ?_; rintro e w5 ⟨rfl, ho5, hg5⟩
    rw [← HL2.out] at ho5
    have O5 := Lib.hid ho5; clear ho5
    have G5 := Lib.hid (grown_seq G4.out hg5)
    have P5 := heap_grown P4 hg5 (fun e => hgne (by cases e; rfl))
    clear c40 c41 c42 hg5 P4
    obtain ⟨c50, c51, c52⟩ := cells3 P5
    have hg0 : ∀ k, some g = some k → w0.heap.size ≤ k := fun k e => by cases e; omega
    have A5 := Lib.hid (BoolsAt.grown A3.out HA0.out G5.out hg0)
    go_wp2_with fail
    refine (layDown_any _ _ _ _ _ xs _ _ _ L2 _ _ _ HN.out hn' HM2.out v1 v2 v3 v4 HWT.out A5.out O5.out).mono ?_; rintro e w6 ⟨rfl, ho6, hg6⟩
    rw [← HL3.out] at ho6
    have O6 := Lib.hid ho6; clear ho6
    have G6 := Lib.hid (grown_seq G5.out hg6)
    have P6 := heap_grown P5 hg6 (fun e => hgne (by cases e; rfl))
    clear c50 c51 c52 hg6 P5
    obtain ⟨c60, c61, c62⟩ := cells3 P6
    have A6 := Lib.hid (BoolsAt.grown A3.out HA0.out G6.out hg0)
    have Q6 : w6.drew.heap[w.heap.size]? = some _ := P6
    rw [K1.out]
    go_wp2_with fail
    go_region_held3 (fun w' => w'.cell? ⟨w.heap.size, 0, none⟩ = some (.int .i64 W) ∧ w'.cell? ⟨w.heap.size, 1, none⟩ = some (.int .i64 T) ∧ w'.cell? ⟨w.heap.size, 2, none⟩ = some (.slice a n cap))
      (go_keep)
      (first
        | (go_at_call 58; refine (opposite_same _ _ (by decide) (by decide)).mono ?_; rintro e w7 ⟨rfl, rfl⟩)
        | (go_at_call 60; refine (layDown_any _ _ _ _ _ xs _ _ _ L3 _ _ _ HN.out hn' HM3.out v1 v2 v3 v4 HWT.out (show BoolsAt w6.drew _ xs from A6.out) (show OwnsI w6.drew _ _ _ from O6.out)).mono ?_; rintro e w7 ⟨rfl, ho7, hg7⟩; have P7 := heap_grown Q6 hg7 (fun e => hgne (by cases e; rfl)); obtain ⟨c70, c71, c72⟩ := cells3 P7))
    rw [EFL.out] at ho7
    go_wp2
    go_ret
    exact ⟨rfl, ho7, grown_seq (grown_of_below b3 _) (grown_seq G6.out (grown_seq (grown_of_below (drew_below _) _) hg7))⟩
end Go.Proofs.Ytjhonkhholehkaa
