/- Contracts of what flips are made of: impl.southWestOf, impl.northEastOf, impl.twoAround, impl.turnTwo, spec.l5Square; of both functions FlipMay. Merged of: Sq, FlipMO, FlipOne. -/
import Derived.Test.YtpcajacekmidbaaGreatKSqM
namespace Go.Proofs.YtpcajacekmidbaaGreat
open Go.RowKit
set_option linter.unusedVariables false
set_option maxRecDepth 100000
set_option linter.unusedSimpArgs false

theorem cxy_bd {W c : Int} (hW : 1 ≤ W) (hW6 : W ≤ 6) (h0 : -9223372036854775808 ≤ c) (h1 : c ≤ 9223372036854775807) :
 -6 ≤ cxI W c ∧ cxI W c ≤ 6 ∧ -4611686018427387904 ≤ cyI W c ∧ cyI W c ≤ 4611686018427387904 := by
 unfold cxI cyI
 by_cases hc : 0 ≤ c
 · rw [Int.tmod_eq_emod_of_nonneg hc, Int.tdiv_eq_ediv_of_nonneg hc]
   have a := Int.emod_nonneg c (show W + 1 ≠ 0 by omega)
   have b := Int.emod_lt_of_pos c (show 0 < W + 1 by omega)
   have d := Int.ediv_nonneg hc (show 0 ≤ W + 1 by omega)
   have e : c / (W + 1) ≤ 4611686018427387904 := Int.ediv_le_of_le_mul (by omega) (by have : 4611686018427387904 * 2 ≤ 4611686018427387904 * (W + 1) := Int.mul_le_mul_of_nonneg_left (by omega) (by omega); omega)
   omega
 · obtain ⟨m, rfl⟩ : ∃ m : Int, c = -m := ⟨-c, by omega⟩
   rw [Int.neg_tmod, Int.neg_tdiv, Int.tmod_eq_emod_of_nonneg (by omega), Int.tdiv_eq_ediv_of_nonneg (by omega)]
   have a := Int.emod_nonneg m (show W + 1 ≠ 0 by omega)
   have b := Int.emod_lt_of_pos m (show 0 < W + 1 by omega)
   have d := Int.ediv_nonneg (show 0 ≤ m by omega) (show 0 ≤ W + 1 by omega)
   have e : m / (W + 1) ≤ 4611686018427387904 := Int.ediv_le_of_le_mul (by omega) (by have : 4611686018427387904 * 2 ≤ 4611686018427387904 * (W + 1) := Int.mul_le_mul_of_nonneg_left (by omega) (by omega); omega)
   omega
theorem ret_ib {a a' : Int} {b b' : Bool} (h : a = a') (hb : b = b') : Ending.returned (.tuple #[.int .i64 a, .bool b]) = .returned (.tuple #[.int .i64 a', .bool b']) := by rw [h, hb]

set_option maxHeartbeats 1000000 in
theorem southWestOf_any (W T : Int) (a : Option Addr) (n cap : Nat) (c : Int) (w : World) (hW0 : 1 ≤ W) (hW1 : W ≤ 6) (hT0 : 1 ≤ T) (hT1 : T ≤ 6) (hc0 : -9223372036854775808 ≤ c) (hc1 : c ≤ 9223372036854775807) :
 Calls Tryz.prog 74 #[.agg #[.int .i64 W, .int .i64 T, .slice a n cap], .int .i64 c] w fun e w' => e = .returned (.tuple #[.int .i64 (sqI W T c), .bool (sqF W T c)]) ∧ Below w.heap.size w w' := by
 obtain ⟨x0, x1, y0, y1⟩ := cxy_bd hW0 hW1 hc0 hc1
 have hF : sqF W T c = (inF W T (cxI W c - 1) (cyI W c - 1) && inF W T (cxI W c) (cyI W c)) := rfl
 have hI : sqI W T c = if sqF W T c then (cyI W c - 1) * W + (cxI W c - 1) else -1 := rfl
 obtain ⟨x, hx⟩ : ∃ x, cxI W c = x := ⟨_, rfl⟩
 obtain ⟨y, hy⟩ : ∃ y, cyI W c = y := ⟨_, rfl⟩
 rw [hx, hy] at hF hI
 rw [hx] at x0 x1; rw [hy] at y0 y1
 have r1 : c.tmod (W + 1) = x := hx
 have r2 : c.tdiv (W + 1) = y := hy
 have r6 : IntKind.i64.wrap x = x := by rw [IntKind.wrap_i64]; omega
 have r7 : IntKind.i64.wrap y = y := by rw [IntKind.wrap_i64]; omega
 have r3 : IntKind.i64.wrap (W + 1) = W + 1 := by rw [IntKind.wrap_i64]; omega
 have r4 : W + 1 ≠ 0 := by omega
 have r5 : ((W + 1 : Int) == 0) = false := by simpa using r4
 clear hx hy
 obtain ⟨wA, hwA⟩ : ∃ wA, wA = w.alloc (.cells #[.int .i64 W, .int .i64 T, .slice a n cap] 25) := ⟨_, rfl⟩
 have pA : wA.heap[w.heap.size]? = some (.cells #[.int .i64 W, .int .i64 T, .slice a n cap] 25 (0, 0)) := by rw [hwA]; exact heap_new _ _
 have bA : Below w.heap.size w wA := by rw [hwA]; exact below1 _ _
 obtain ⟨d0, d1, d2⟩ := cells3 pA
 have lA := heap_lt pA
 cases h1 : inF W T (x - 1) (y - 1)
 · have HF : Hid (sqF W T c = false) := by show _ = _; rw [hF, h1]; rfl
   have HI : Hid (sqI W T c = -1) := by show _ = _; rw [hI, HF.out]; rfl
   have H1 := Lib.hid h1; clear h1 hF hI
   go_enter Tryz.func74, Tryz.ntmps74
   go_wp2_with fail
   rw [← hwA]; clear hwA
   go_quiet (fail)
   have pq : (wA.drewN nq).heap[w.heap.size]? = some _ := pA
   obtain ⟨q0, q1, q2⟩ := cells3 pq
   clear r1 r2 r3 r4 r5 r6 r7
   go_wp2_with fail
   refine (inField_is _ _ _ _ _ _ H1.out).mono ?_; rintro e w2 ⟨rfl, hb2⟩
   go_wp2
   go_ret2
   exact ⟨ret_ib HI.out.symm HF.out.symm, below_seq bA (below_seq (drewN_below _ _) hb2)⟩
 · cases h2 : inF W T x y
   · have HF : Hid (sqF W T c = false) := by show _ = _; rw [hF, h1, h2]; rfl
     have HI : Hid (sqI W T c = -1) := by show _ = _; rw [hI, HF.out]; rfl
     have H1 := Lib.hid h1; have H2 := Lib.hid h2; clear h1 h2 hF hI
     go_enter Tryz.func74, Tryz.ntmps74
     go_wp2_with fail
     rw [← hwA]; clear hwA
     go_quiet (fail)
     have pq : (wA.drewN nq).heap[w.heap.size]? = some _ := pA
     obtain ⟨q0, q1, q2⟩ := cells3 pq
     clear r1 r2 r3 r4 r5 r6 r7
     go_wp2_with fail
     refine (inField_is _ _ _ _ _ _ H1.out).mono ?_; rintro e w2 ⟨rfl, hb2⟩
     have p2 := heap_later pq hb2
     obtain ⟨c0, c1, c2⟩ := cells3 p2
     go_wp2_with fail
     refine (inField_is _ _ _ _ _ _ H2.out).mono ?_; rintro e w3 ⟨rfl, hb3⟩
     go_wp2
     go_ret2
     exact ⟨ret_ib HI.out.symm HF.out.symm, below_seq bA (below_seq (drewN_below _ _) (below_seq hb2 hb3))⟩
   · have HF : Hid (sqF W T c = true) := by show _ = _; rw [hF, h1, h2]; rfl
     have HI : Hid (sqI W T c = (y - 1) * W + (x - 1)) := by show _ = _; rw [hI, HF.out]; rfl
     have ⟨g1, g2, g3, g4⟩ : 0 ≤ x - 1 ∧ x - 1 < W ∧ 0 ≤ y - 1 ∧ y - 1 < T := by simpa [inF] using h1
     obtain ⟨i0, i1, i2⟩ := idx_bd (W := W) (T := T) g1 g2 g3 g4
     have pb := (prod_bd (W := W) (T := T) (by omega) (by omega) (by omega) (by omega)).2
     have i3 : (y - 1) * W ≤ 100000 := by omega
     have H1 := Lib.hid h1; have H2 := Lib.hid h2; clear h1 h2 hF hI
     go_enter Tryz.func74, Tryz.ntmps74
     go_wp2_with fail
     rw [← hwA]; clear hwA
     go_quiet (fail)
     have pq : (wA.drewN nq).heap[w.heap.size]? = some _ := pA
     obtain ⟨q0, q1, q2⟩ := cells3 pq
     clear r1 r2 r3 r4 r5 r6 r7
     go_wp2_with fail
     refine (inField_is _ _ _ _ _ _ H1.out).mono ?_; rintro e w2 ⟨rfl, hb2⟩
     have p2 := heap_later pq hb2
     obtain ⟨c0, c1, c2⟩ := cells3 p2
     go_wp2_with fail
     refine (inField_is _ _ _ _ _ _ H2.out).mono ?_; rintro e w3 ⟨rfl, hb3⟩
     have p3 := heap_later p2 hb3
     obtain ⟨e0, e1, e2⟩ := cells3 p3
     go_wp2_with fail
     refine (cellAt_any _ _ _ _ (.bool false) _ _ _ _ g1 (by omega) i0 i3).mono ?_; rintro e w4 ⟨rfl, hb4⟩
     go_wp2
     go_ret2
     exact ⟨ret_ib HI.out.symm HF.out.symm, below_seq bA (below_seq (drewN_below _ _) (below_seq hb2 (below_seq hb3 hb4)))⟩

theorem northEastOf_any (W T : Int) (a : Option Addr) (n cap : Nat) (k : Int) (w : World) (hW0 : 1 ≤ W) (hW1 : W ≤ 6) (hk0 : 0 ≤ k) (hk1 : k ≤ 10000) :
 Calls Tryz.prog 75 #[.agg #[.int .i64 W, .int .i64 T, .slice a n cap], .int .i64 k] w fun e w' => e = .returned (.int .i64 (k + W + 1)) ∧ Below w.heap.size w w' := by
 go_enter Tryz.func75, Tryz.ntmps75
 go_wp2
 go_ret
 exact ⟨rfl, below1 _ _⟩

theorem sq_small {W T c : Int} {n : Nat} (hW : 1 ≤ W) (hW6 : W ≤ 6) (hT : 1 ≤ T) (hT6 : T ≤ 6) (hWT : (n : Int) = W * T) (h : sqF W T c = true) :
 ∃ a d : Nat, sqI W T c = a ∧ (a : Int) + W + 1 = d ∧ a < n ∧ d < n ∧ n ≤ 36 := by
 obtain ⟨a, wn, rfl, hw, ha, hb, _⟩ := sq_at hW hW6 hT hT6 h
 rw [← hWT] at hb
 have : (wn : Int) * T ≤ 6 * 6 := Int.mul_le_mul (by omega) hT6 (by omega) (by omega)
 exact ⟨a, a + wn + 1, ha, by omega, by omega, by omega, by omega⟩

set_option maxHeartbeats 2000000 in
theorem twoAround_any (W T : Int) (a : Option Addr) (n cap : Nat) (xs : List Bool) (la : Option Addr) (lcap : Nat) (L : List Int) (c : Int) (w : World) (hn : n = xs.length) (hm : n = L.length) (hk : lok W T xs L = true) (hc0 : -9223372036854775808 ≤ c) (hc1 : c ≤ 9223372036854775807) (hl : IntsAt w la L) :
 Calls Tryz.prog 73 #[.agg #[.int .i64 W, .int .i64 T, .slice a n cap], .slice la n lcap, .int .i64 c] w fun e w' => e = .returned (.bool (mayB W T L c)) ∧ Below w.heap.size w w' := by
 obtain ⟨hr, _, _⟩ := lok_rv hk
 obtain ⟨v1, v2, v3, v4, v5, _⟩ := rv_true hr
 have HM := Lib.hid hm; clear hm
 have HL := Lib.hid hl; clear hl
 have HWT : Hid ((n : Int) = W * T) := by show _ = _; rw [hn]; exact v5
 clear v5 hn
 cases h : sqF W T c
 · have HE : Hid (mayB W T L c = false) := by show _ = _; unfold mayB; rw [h]; rfl
   rw [HE.out]
   have H := Lib.hid h; clear h hk hr
   go_enter Tryz.func73, Tryz.ntmps73
   go_wp2_with fail
   refine (southWestOf_any _ _ _ _ _ _ _ v1 v2 v3 v4 hc0 hc1).mono ?_; rintro e w1 ⟨rfl, hb1⟩
   rw [H.out]
   go_wp2
   go_ret
   exact ⟨rfl, below_seq (below1 _ _) hb1⟩
 · obtain ⟨k, d, ek, ed, k1, d1, n36⟩ := sq_small v1 v2 v3 v4 HWT.out h
   have hway : 0 ≤ L.getD k 0 ∧ L.getD k 0 ≤ 4 := lok_way hk (by rw [← HM.out]; exact k1)
   obtain ⟨x, hx⟩ : ∃ x, x = L.getD k 0 := ⟨_, rfl⟩
   obtain ⟨y, hy⟩ : ∃ y, y = L.getD d 0 := ⟨_, rfl⟩
   have hE : mayB W T L c = ((x == 1 || x == 2) && (y == backI x)) := by
    unfold mayB; rw [h, ek, ed, hx, hy]; simp
   obtain ⟨lb, lo, rfl, -⟩ := HL.out 0 (by rw [← HM.out]; omega)
   rw [← hx] at hway
   have HX : Hid (x = L.getD k 0) := hx
   have HY : Hid (y = L.getD d 0) := hy
   have ke : (k : Int) < n := by omega
   have de : (d : Int) < n := by omega
   have H := Lib.hid h; have EK := Lib.hid ek; have ED := Lib.hid ed; clear h hk hr ek ed hx hy
   obtain ⟨wA, hwA⟩ : ∃ wA, wA = w.alloc (.cells #[.int .i64 W, .int .i64 T, .slice a n cap] 25) := ⟨_, rfl⟩
   have pA : wA.heap[w.heap.size]? = some (.cells #[.int .i64 W, .int .i64 T, .slice a n cap] 25 (0, 0)) := by rw [hwA]; exact heap_new _ _
   have bA : Below w.heap.size w wA := by rw [hwA]; exact below1 _ _
   obtain ⟨d0, d1', d2⟩ := cells3 pA
   by_cases h12 : x = 1 ∨ x = 2
   · have HE : Hid (mayB W T L c = (y == backI x)) := by
      show _ = _; rw [hE]; rcases h12 with rfl | rfl <;> simp
     rw [HE.out]
     clear hE
     have e1 : (x != 1 && x != 2) = false := by rcases h12 with rfl | rfl <;> decide
     have hx1 : x = 1 ∨ (x = 2) := h12
     clear h12
     have hw1 : x ≤ 1000 := by omega
     have hw0 : 0 ≤ x := by omega
     clear hway
     rcases hx1 with rfl | rfl
     · go_enter Tryz.func73, Tryz.ntmps73
       go_wp2_with fail
       rw [← hwA]; clear hwA
       refine (southWestOf_any _ _ _ _ _ _ _ v1 v2 v3 v4 hc0 hc1).mono ?_; rintro e w1 ⟨rfl, hb1⟩
       rw [H.out, EK.out]
       have p1 := heap_later pA hb1
       have b1 := below_seq bA hb1
       obtain ⟨c0, c1, c2⟩ := cells3 p1
       have qk := (HL.out.below b1).cellAt (i := k) (by rw [← HM.out]; exact k1)
       have qd := (HL.out.below b1).cellAt (i := d) (by rw [← HM.out]; exact d1)
       rw [← HX.out] at qk; rw [← HY.out] at qd
       have P1 : w1.drew.heap[w.heap.size]? = some _ := p1
       go_wp2_with fail
       go_region_held3 (fun w' => w'.cell? ⟨w.heap.size, 0, none⟩ = some (.int .i64 W) ∧ w'.cell? ⟨w.heap.size, 1, none⟩ = some (.int .i64 T) ∧ w'.cell? ⟨w.heap.size, 2, none⟩ = some (.slice a n cap) ∧ w'.cell? ⟨lb, lo + k, none⟩ = some (.int .i64 1) ∧ w'.cell? ⟨lb, lo + d, none⟩ = some (.int .i64 y))
        (go_keep)
        (first
          | (go_at_call 75; refine (northEastOf_any _ _ _ _ _ _ _ v1 v2 (by omega) (by omega)).mono ?_; rintro e w2 ⟨rfl, hb2⟩; rw [ED.out]; have p2 := heap_later P1 hb2; obtain ⟨c20, c21, c22⟩ := cells3 p2; have qk2 := cell_later hb2 (show (World.drew w1).cell? _ = some _ from qk); have qd2 := cell_later hb2 (show (World.drew w1).cell? _ = some _ from qd))
          | (go_at_call 78; refine (opposite_same _ _ hw0 hw1).mono ?_; rintro e w3 ⟨rfl, rfl⟩))
       go_wp2
       go_ret
       exact ⟨rfl, below_seq b1 (below_seq (drew_below _) hb2)⟩
     · go_enter Tryz.func73, Tryz.ntmps73
       go_wp2_with fail
       rw [← hwA]; clear hwA
       refine (southWestOf_any _ _ _ _ _ _ _ v1 v2 v3 v4 hc0 hc1).mono ?_; rintro e w1 ⟨rfl, hb1⟩
       rw [H.out, EK.out]
       have p1 := heap_later pA hb1
       have b1 := below_seq bA hb1
       obtain ⟨c0, c1, c2⟩ := cells3 p1
       have qk := (HL.out.below b1).cellAt (i := k) (by rw [← HM.out]; exact k1)
       have qd := (HL.out.below b1).cellAt (i := d) (by rw [← HM.out]; exact d1)
       rw [← HX.out] at qk; rw [← HY.out] at qd
       have P1 : w1.drew.heap[w.heap.size]? = some _ := p1
       go_wp2_with fail
       go_region_held3 (fun w' => w'.cell? ⟨w.heap.size, 0, none⟩ = some (.int .i64 W) ∧ w'.cell? ⟨w.heap.size, 1, none⟩ = some (.int .i64 T) ∧ w'.cell? ⟨w.heap.size, 2, none⟩ = some (.slice a n cap) ∧ w'.cell? ⟨lb, lo + k, none⟩ = some (.int .i64 2) ∧ w'.cell? ⟨lb, lo + d, none⟩ = some (.int .i64 y))
        (go_keep)
        (first
          | (go_at_call 75; refine (northEastOf_any _ _ _ _ _ _ _ v1 v2 (by omega) (by omega)).mono ?_; rintro e w2 ⟨rfl, hb2⟩; rw [ED.out]; have p2 := heap_later P1 hb2; obtain ⟨c20, c21, c22⟩ := cells3 p2; have qk2 := cell_later hb2 (show (World.drew w1).cell? _ = some _ from qk); have qd2 := cell_later hb2 (show (World.drew w1).cell? _ = some _ from qd))
          | (go_at_call 78; refine (opposite_same _ _ hw0 hw1).mono ?_; rintro e w3 ⟨rfl, rfl⟩))
       go_wp2
       go_ret
       exact ⟨rfl, below_seq b1 (below_seq (drew_below _) hb2)⟩
   · have HE : Hid (mayB W T L c = false) := by
      show _ = _; rw [hE]
      rw [show (x == 1) = false by simp; omega, show (x == 2) = false by simp; omega]; rfl
     rw [HE.out]
     clear hE
     have t1 : (x != 1) = true := by simp; omega
     have t2 : (x != 2) = true := by simp; omega
     clear h12
     go_enter Tryz.func73, Tryz.ntmps73
     go_wp2_with fail
     rw [← hwA]; clear hwA
     refine (southWestOf_any _ _ _ _ _ _ _ v1 v2 v3 v4 hc0 hc1).mono ?_; rintro e w1 ⟨rfl, hb1⟩
     rw [H.out, EK.out]
     have b1 := below_seq bA hb1
     have qk := (HL.out.below b1).cellAt (i := k) (by rw [← HM.out]; exact k1)
     rw [← HX.out] at qk
     go_wp2
     go_ret
     exact ⟨rfl, b1⟩

end Go.Proofs.YtpcajacekmidbaaGreat

namespace Go.Proofs.YtpcajacekmidbaaGreat
open Go.RowKit
set_option linter.unusedVariables false
set_option maxRecDepth 100000
set_option linter.unusedSimpArgs false

theorem l1At_is (W T x y : Int) (a : Option Addr) (n cap : Nat) (xs : List Bool) (w : World) {v : Bool} (hn : n = xs.length) (hW0 : 0 ≤ W) (hW1 : W ≤ 100) (hT0 : 0 ≤ T) (hT1 : T ≤ 100) (hWT : (n : Int) = W * T) (ha : BoolsAt w a xs) (h : atB W T xs x y = v) :
 Calls Tryz.prog 64 #[.agg #[.int .i64 W, .int .i64 T, .slice a n cap], .int .i64 x, .int .i64 y] w fun e w' => e = .returned (.bool v) ∧ Below w.heap.size w w' := by
 subst h; exact l1At_any W T x y a n cap xs w hn hW0 hW1 hT0 hT1 hWT ha
def sq5 (k : Int) (W : Int) (b : Bool) : Value := if b then .tuple #[.int .i64 k, .int .i64 (k + 1), .int .i64 (k + W), .int .i64 (k + W + 1), .bool true] else .tuple #[.int .i64 0, .int .i64 0, .int .i64 0, .int .i64 0, .bool false]

set_option maxHeartbeats 2000000 in
theorem l5Square_any (W T : Int) (a : Option Addr) (n cap : Nat) (xs : List Bool) (c : Int) (w : World) (hn : n = xs.length) (hW0 : 1 ≤ W) (hW1 : W ≤ 6) (hT0 : 1 ≤ T) (hT1 : T ≤ 6) (hWT : (n : Int) = W * T) (hc0 : 0 ≤ c) (hc1 : c ≤ 10000) (ha : BoolsAt w a xs) :
 Calls Tryz.prog 97 #[.agg #[.int .i64 W, .int .i64 T, .slice a n cap], .int .i64 c] w fun e w' => e = .returned (sq5 (sqI W T c) W (sqB W T xs c)) ∧ Below w.heap.size w w' := by
 have HN := Lib.hid hn; clear hn
 have HA := Lib.hid ha; clear ha
 have HWT := Lib.hid hWT; clear hWT
 obtain ⟨x0, x1, y0, y1⟩ := cxy_bd hW0 hW1 (by omega) (show c ≤ 9223372036854775807 by omega)
 obtain ⟨e1, e2, _, _, ey0, ey1⟩ := cxy_pos hW0 hc0
 have hI : sqF W T c = true → sqI W T c = (cyI W c - 1) * W + (cxI W c - 1) := fun h => by unfold sqI; rw [if_pos h]
 have hFF := fun h => @sqB_F W T xs c h
 have hB : sqB W T xs c = (atB W T xs (cxI W c - 1) (cyI W c - 1) && atB W T xs (cxI W c) (cyI W c - 1) && atB W T xs (cxI W c - 1) (cyI W c) && atB W T xs (cxI W c) (cyI W c)) := rfl
 rw [← e2] at ey0 ey1
 obtain ⟨x, hx⟩ : ∃ x, cxI W c = x := ⟨_, rfl⟩
 obtain ⟨y, hy⟩ : ∃ y, cyI W c = y := ⟨_, rfl⟩
 rw [hx] at e1; rw [hy] at e2
 rw [hx, hy] at hI hB; rw [hx] at x0 x1; rw [hy] at ey0 ey1 y0 y1
 have r1 : c.tmod (W + 1) = x := hx
 have r2 : c.tdiv (W + 1) = y := hy
 have r1' : c % (W + 1) = x := e1.symm
 have r2' : c / (W + 1) = y := e2.symm
 have r3 : W + 1 ≠ 0 := by omega
 have r4 : ((W + 1 : Int) == 0) = false := by simpa using r3
 have hy2 : y ≤ 10000 := by omega
 clear hx hy e1 e2
 obtain ⟨wA, hwA⟩ : ∃ wA, wA = w.alloc (.cells #[.int .i64 W, .int .i64 T, .slice a n cap] 25) := ⟨_, rfl⟩
 have pA : wA.heap[w.heap.size]? = some (.cells #[.int .i64 W, .int .i64 T, .slice a n cap] 25 (0, 0)) := by rw [hwA]; exact heap_new _ _
 have bA : Below w.heap.size w wA := by rw [hwA]; exact below1 _ _
 obtain ⟨d0, d1, d2⟩ := cells3 pA
 cases h1 : atB W T xs (x - 1) (y - 1)
 · have HB : Hid (sqB W T xs c = false) := by show _ = _; rw [hB, h1]; simp
   rw [HB.out]
   have H1 := Lib.hid h1
   clear hB hI hFF h1
   go_enter Tryz.func97, Tryz.ntmps97
   go_wp2_with fail
   rw [← hwA]; clear hwA
   have p0 := pA; have b0 := bA
   refine (l1At_is _ _ _ _ _ _ _ xs _ HN.out (by omega) (by omega) (by omega) (by omega) HWT.out (HA.out.below b0) H1.out).mono ?_; rintro e w1 ⟨rfl, hb1⟩
   have p1 := heap_later p0 hb1; have b1 := below_seq b0 hb1
   go_wp2
   exact bodyPost_ret (v := .tuple #[.int .i64 0, .int .i64 0, .int .i64 0, .int .i64 0, .bool false]) (by simp [results, Tryz.results97, go_sem]) rfl ⟨rfl, b1⟩
 ·
  cases h2 : atB W T xs (x) (y - 1)
  · have HB : Hid (sqB W T xs c = false) := by show _ = _; rw [hB, h1, h2]; simp
    rw [HB.out]
    have H1 := Lib.hid h1
    have H2 := Lib.hid h2
    clear hB hI hFF h1 h2
    go_enter Tryz.func97, Tryz.ntmps97
    go_wp2_with fail
    rw [← hwA]; clear hwA
    have p0 := pA; have b0 := bA
    refine (l1At_is _ _ _ _ _ _ _ xs _ HN.out (by omega) (by omega) (by omega) (by omega) HWT.out (HA.out.below b0) H1.out).mono ?_; rintro e w1 ⟨rfl, hb1⟩
    have p1 := heap_later p0 hb1; have b1 := below_seq b0 hb1
    obtain ⟨c10, c11, c12⟩ := cells3 p1
    go_wp2_with fail
    refine (l1At_is _ _ _ _ _ _ _ xs _ HN.out (by omega) (by omega) (by omega) (by omega) HWT.out (HA.out.below b1) H2.out).mono ?_; rintro e w2 ⟨rfl, hb2⟩
    have p2 := heap_later p1 hb2; have b2 := below_seq b1 hb2
    go_wp2
    exact bodyPost_ret (v := .tuple #[.int .i64 0, .int .i64 0, .int .i64 0, .int .i64 0, .bool false]) (by simp [results, Tryz.results97, go_sem]) rfl ⟨rfl, b2⟩
  ·
   cases h3 : atB W T xs (x - 1) (y)
   · have HB : Hid (sqB W T xs c = false) := by show _ = _; rw [hB, h1, h2, h3]; simp
     rw [HB.out]
     have H1 := Lib.hid h1
     have H2 := Lib.hid h2
     have H3 := Lib.hid h3
     clear hB hI hFF h1 h2 h3
     go_enter Tryz.func97, Tryz.ntmps97
     go_wp2_with fail
     rw [← hwA]; clear hwA
     have p0 := pA; have b0 := bA
     refine (l1At_is _ _ _ _ _ _ _ xs _ HN.out (by omega) (by omega) (by omega) (by omega) HWT.out (HA.out.below b0) H1.out).mono ?_; rintro e w1 ⟨rfl, hb1⟩
     have p1 := heap_later p0 hb1; have b1 := below_seq b0 hb1
     obtain ⟨c10, c11, c12⟩ := cells3 p1
     go_wp2_with fail
     refine (l1At_is _ _ _ _ _ _ _ xs _ HN.out (by omega) (by omega) (by omega) (by omega) HWT.out (HA.out.below b1) H2.out).mono ?_; rintro e w2 ⟨rfl, hb2⟩
     have p2 := heap_later p1 hb2; have b2 := below_seq b1 hb2
     obtain ⟨c20, c21, c22⟩ := cells3 p2
     go_wp2_with fail
     refine (l1At_is _ _ _ _ _ _ _ xs _ HN.out (by omega) (by omega) (by omega) (by omega) HWT.out (HA.out.below b2) H3.out).mono ?_; rintro e w3 ⟨rfl, hb3⟩
     have p3 := heap_later p2 hb3; have b3 := below_seq b2 hb3
     go_wp2
     exact bodyPost_ret (v := .tuple #[.int .i64 0, .int .i64 0, .int .i64 0, .int .i64 0, .bool false]) (by simp [results, Tryz.results97, go_sem]) rfl ⟨rfl, b3⟩
   ·
    cases h4 : atB W T xs (x) (y)
    · have HB : Hid (sqB W T xs c = false) := by show _ = _; rw [hB, h1, h2, h3, h4]; simp
      rw [HB.out]
      have H1 := Lib.hid h1
      have H2 := Lib.hid h2
      have H3 := Lib.hid h3
      have H4 := Lib.hid h4
      clear hB hI hFF h1 h2 h3 h4
      go_enter Tryz.func97, Tryz.ntmps97
      go_wp2_with fail
      rw [← hwA]; clear hwA
      have p0 := pA; have b0 := bA
      refine (l1At_is _ _ _ _ _ _ _ xs _ HN.out (by omega) (by omega) (by omega) (by omega) HWT.out (HA.out.below b0) H1.out).mono ?_; rintro e w1 ⟨rfl, hb1⟩
      have p1 := heap_later p0 hb1; have b1 := below_seq b0 hb1
      obtain ⟨c10, c11, c12⟩ := cells3 p1
      go_wp2_with fail
      refine (l1At_is _ _ _ _ _ _ _ xs _ HN.out (by omega) (by omega) (by omega) (by omega) HWT.out (HA.out.below b1) H2.out).mono ?_; rintro e w2 ⟨rfl, hb2⟩
      have p2 := heap_later p1 hb2; have b2 := below_seq b1 hb2
      obtain ⟨c20, c21, c22⟩ := cells3 p2
      go_wp2_with fail
      refine (l1At_is _ _ _ _ _ _ _ xs _ HN.out (by omega) (by omega) (by omega) (by omega) HWT.out (HA.out.below b2) H3.out).mono ?_; rintro e w3 ⟨rfl, hb3⟩
      have p3 := heap_later p2 hb3; have b3 := below_seq b2 hb3
      obtain ⟨c30, c31, c32⟩ := cells3 p3
      go_wp2_with fail
      refine (l1At_is _ _ _ _ _ _ _ xs _ HN.out (by omega) (by omega) (by omega) (by omega) HWT.out (HA.out.below b3) H4.out).mono ?_; rintro e w4 ⟨rfl, hb4⟩
      have p4 := heap_later p3 hb4; have b4 := below_seq b3 hb4
      go_wp2
      exact bodyPost_ret (v := .tuple #[.int .i64 0, .int .i64 0, .int .i64 0, .int .i64 0, .bool false]) (by simp [results, Tryz.results97, go_sem]) rfl ⟨rfl, b4⟩
    · have HB : Hid (sqB W T xs c = true) := by show _ = _; rw [hB, h1, h2, h3, h4]; rfl
      have HI : Hid (sqI W T c = (y - 1) * W + (x - 1)) := hI (hFF HB.out)
      have hin : inF W T (x - 1) (y - 1) = true := by unfold atB at h1; rw [Bool.and_eq_true] at h1; exact h1.1
      have ⟨g1, g2, g3, g4⟩ : 0 ≤ x - 1 ∧ x - 1 < W ∧ 0 ≤ y - 1 ∧ y - 1 < T := by simpa [inF] using hin
      obtain ⟨i0, i1, i2⟩ := idx_bd (W := W) (T := T) g1 g2 g3 g4
      have pb := (prod_bd (W := W) (T := T) (by omega) (by omega) (by omega) (by omega)).2
      have i3 : (y - 1) * W ≤ 10000 := by omega
      clear hin
      rw [HB.out]
      have EE : Hid (sqI W T c = (y - 1) * W + x - 1) := by show _ = _; rw [HI.out]; omega
      have H1 := Lib.hid h1
      have H2 := Lib.hid h2
      have H3 := Lib.hid h3
      have H4 := Lib.hid h4
      clear hB hI hFF h1 h2 h3 h4
      go_enter Tryz.func97, Tryz.ntmps97
      go_wp2_with fail
      rw [← hwA]; clear hwA
      have p0 := pA; have b0 := bA
      refine (l1At_is _ _ _ _ _ _ _ xs _ HN.out (by omega) (by omega) (by omega) (by omega) HWT.out (HA.out.below b0) H1.out).mono ?_; rintro e w1 ⟨rfl, hb1⟩
      have p1 := heap_later p0 hb1; have b1 := below_seq b0 hb1
      obtain ⟨c10, c11, c12⟩ := cells3 p1
      go_wp2_with fail
      refine (l1At_is _ _ _ _ _ _ _ xs _ HN.out (by omega) (by omega) (by omega) (by omega) HWT.out (HA.out.below b1) H2.out).mono ?_; rintro e w2 ⟨rfl, hb2⟩
      have p2 := heap_later p1 hb2; have b2 := below_seq b1 hb2
      obtain ⟨c20, c21, c22⟩ := cells3 p2
      go_wp2_with fail
      refine (l1At_is _ _ _ _ _ _ _ xs _ HN.out (by omega) (by omega) (by omega) (by omega) HWT.out (HA.out.below b2) H3.out).mono ?_; rintro e w3 ⟨rfl, hb3⟩
      have p3 := heap_later p2 hb3; have b3 := below_seq b2 hb3
      obtain ⟨c30, c31, c32⟩ := cells3 p3
      go_wp2_with fail
      refine (l1At_is _ _ _ _ _ _ _ xs _ HN.out (by omega) (by omega) (by omega) (by omega) HWT.out (HA.out.below b3) H4.out).mono ?_; rintro e w4 ⟨rfl, hb4⟩
      have p4 := heap_later p3 hb4; have b4 := below_seq b3 hb4
      obtain ⟨c40, c41, c42⟩ := cells3 p4
      clear r1 r2 r1' r2' r3 r4
      go_wp2
      go_quiet (fail)
      go_wp2_with fail
      exact bodyPost_ret (v := .tuple #[.int .i64 ((y - 1) * W + x - 1), .int .i64 ((y - 1) * W + x - 1 + 1), .int .i64 ((y - 1) * W + x - 1 + W), .int .i64 ((y - 1) * W + x - 1 + W + 1), .bool true]) (by simp [results, Tryz.results97, go_sem]) rfl ⟨by rw [EE.out]; rfl, below_seq b4 (drewN_below _ _)⟩

theorem mayS_at {W T : Int} {xs : List Bool} {L : List Int} {c : Int} {n : Nat} (hk : lok W T xs L = true) (hn : n = xs.length) (h : sqB W T xs c = true) :
 ∃ k wn : Nat, W = wn ∧ sqI W T c = k ∧ k + wn + 1 < n ∧ n ≤ 36 ∧ mayB W T L c = ((L.getD k 0 == 1 && L.getD (k + wn) 0 == 1) || (L.getD k 0 == 2 && L.getD (k + 1) 0 == 2)) := by
 obtain ⟨hr, hl, _⟩ := lok_rv hk
 obtain ⟨v1, v2, v3, v4, v5, _⟩ := rv_true hr
 obtain ⟨k, wn, rfl, hw, hs, hb, _⟩ := sq_at v1 v2 v3 v4 (sqB_F h)
 have h36 : (wn : Int) * T ≤ 6 * 6 := Int.mul_le_mul v2 v4 (by omega) (by omega)
 rw [← v5] at hb h36
 refine ⟨k, wn, rfl, hs, by omega, by omega, ?_⟩
 rw [← may_eq hk]
 unfold mayS
 rw [h, hs]
 simp
theorem may_none {W T : Int} {xs : List Bool} {L : List Int} {c : Int} (hk : lok W T xs L = true) (h : sqB W T xs c = false) : mayB W T L c = false := by
 rw [← may_eq hk]; unfold mayS; rw [h]; rfl
theorem may_out {W T : Int} {L : List Int} {c : Int} (hW : 1 ≤ W) (h : inB c 0 ((W + 1) * (T + 1) - 1) = false) : mayB W T L c = false := by
 unfold mayB
 cases hF : sqF W T c
 · rfl
 · have := sq_rng hW hF
   simp [inB] at h
   omega

set_option maxHeartbeats 2000000 in
theorem sFlipMay_any (W T : Int) (a : Option Addr) (n cap : Nat) (xs : List Bool) (la : Option Addr) (m lcap : Nat) (L : List Int) (c : Int) (w : World) (hn : n = xs.length) (hn' : n ≤ 1048576) (hm : m = L.length) (hm' : m ≤ 1048576) (ha : BoolsAt w a xs) (hl : IntsAt w la L) :
 Calls Tryz.prog 59 #[.agg #[.int .i64 W, .int .i64 T, .slice a n cap], .slice la m lcap, .int .i64 c] w fun e w' => e = .returned (.bool (fmayB W T xs L c)) ∧ Below w.heap.size w w' := by
 have HN := Lib.hid hn; clear hn
 have HM := Lib.hid hm; clear hm
 have HA := Lib.hid ha; clear ha
 have HL := Lib.hid hl; clear hl
 cases h : lok W T xs L
 · have e : fmayB W T xs L c = false := by unfold fmayB; rw [h]; rfl
   rw [e]
   have H := Lib.hid h; clear h e
   go_enter Tryz.func59, Tryz.ntmps59
   go_wp2_with fail
   refine (sLaidOk_any _ _ _ _ _ xs _ _ _ L _ HN.out hn' HM.out hm' (HA.out.one _) (HL.out.one _)).mono ?_; rintro e w1 ⟨rfl, hb1⟩
   rw [H.out]
   go_wp2
   go_ret
   exact ⟨rfl, below_seq (below1 _ _) hb1⟩
 · have e : fmayB W T xs L c = mayB W T L c := by unfold fmayB; rw [h]; rfl
   rw [e]
   have hle : m = n := by rw [HM.out, HN.out]; exact lok_len' h
   subst hle
   obtain ⟨hr, _, _⟩ := lok_rv h
   obtain ⟨v1, v2, v3, v4, v5, _⟩ := rv_true hr
   have HV : Hid ((m : Int) = W * T) := by show (m : Int) = W * T; rw [HN.out]; exact v5
   have HC : Hid (cornN W T xs = (W + 1) * (T + 1)) := by show _ = _; unfold cornN; rw [hr, if_pos rfl]
   have hb := corn_bd v1 v2 v3 v4
   clear v5 hr
   have H := Lib.hid h; clear h e
   obtain ⟨N, hNN⟩ : ∃ N, (W + 1) * (T + 1) = N := ⟨_, rfl⟩
   have hout : inB c 0 (N - 1) = false → mayB W T L c = false := fun h => may_out v1 (by rw [hNN]; exact h)
   rw [hNN] at hb
   have HNN := Lib.hid hNN; clear hNN
   cases hin : inB c 0 (N - 1)
   · have HE := Lib.hid (hout hin); clear hout
     rw [HE.out]
     have HIN := Lib.hid hin; clear hin
     go_enter Tryz.func59, Tryz.ntmps59
     go_wp2_with fail
     refine (sLaidOk_any _ _ _ _ _ xs _ _ _ L _ HN.out hn' HM.out hm' (HA.out.one _) (HL.out.one _)).mono ?_; rintro e w1 ⟨rfl, hb1⟩
     rw [H.out]
     have b1 := below_seq (below1 w (.cells #[.int .i64 W, .int .i64 T, .slice a m cap] 25)) hb1
     have p1 := heap_later (heap_new w (.cells #[.int .i64 W, .int .i64 T, .slice a m cap] 25)) hb1
     obtain ⟨c0, c1, c2⟩ := cells3 p1
     go_wp2_with fail
     refine (sCornerMany_any _ _ _ _ _ xs _ HN.out hn' (HA.out.below b1)).mono ?_; rintro e w2 ⟨rfl, hb2⟩
     rw [HC.out, HNN.out]
     go_wp2_with fail
     refine (l1In_any _ _ _ _).mono ?_; rintro e w3 ⟨rfl, rfl⟩
     rw [HIN.out]
     go_wp2
     go_ret
     exact ⟨rfl, below_seq b1 hb2⟩
   · clear hout
     have hcb : 0 ≤ c ∧ c ≤ 10000 := by simp only [inB, decide_eq_true_eq] at hin; omega
     obtain ⟨hc0, hc1⟩ := hcb
     have HIN := Lib.hid hin; clear hin
     cases hs : sqB W T xs c
     · have HE := Lib.hid (may_none H.out hs)
       rw [HE.out]
       have HS := Lib.hid hs; clear hs
       go_enter Tryz.func59, Tryz.ntmps59
       go_wp2_with fail
       refine (sLaidOk_any _ _ _ _ _ xs _ _ _ L _ HN.out hn' HM.out hm' (HA.out.one _) (HL.out.one _)).mono ?_; rintro e w1 ⟨rfl, hb1⟩
       rw [H.out]
       have b1 := below_seq (below1 w (.cells #[.int .i64 W, .int .i64 T, .slice a m cap] 25)) hb1
       have p1 := heap_later (heap_new w (.cells #[.int .i64 W, .int .i64 T, .slice a m cap] 25)) hb1
       obtain ⟨c0, c1, c2⟩ := cells3 p1
       go_wp2_with fail
       refine (sCornerMany_any _ _ _ _ _ xs _ HN.out hn' (HA.out.below b1)).mono ?_; rintro e w2 ⟨rfl, hb2⟩
       rw [HC.out, HNN.out]
       have p2 := heap_later p1 hb2
       have b2 := below_seq b1 hb2
       clear c0 c1 c2
       obtain ⟨c0, c1, c2⟩ := cells3 p2
       go_wp2_with fail
       refine (l1In_any _ _ _ _).mono ?_; rintro e w3 ⟨rfl, rfl⟩
       rw [HIN.out]
       go_wp2_with fail
       refine (l5Square_any _ _ _ _ _ xs _ _ HN.out v1 v2 v3 v4 HV.out hc0 hc1 (HA.out.below b2)).mono ?_; rintro e w3 ⟨rfl, hb3⟩
       rw [HS.out]
       simp only [sq5]
       go_wp2
       go_ret
       exact ⟨rfl, below_seq b2 hb3⟩
     · obtain ⟨k, wn, hWn, hsq, hbd, n36, hme⟩ := mayS_at H.out HN.out hs
       rw [hme]
       clear hme
       obtain ⟨x, hx⟩ : ∃ x, x = L.getD k 0 := ⟨_, rfl⟩
       obtain ⟨y, hy⟩ : ∃ y, y = L.getD (k + 1) 0 := ⟨_, rfl⟩
       obtain ⟨z, hz⟩ : ∃ z, z = L.getD (k + wn) 0 := ⟨_, rfl⟩
       rw [← hx, ← hy, ← hz]
       obtain ⟨lb, lo, rfl, -⟩ := HL.out 0 (by rw [← HM.out]; omega)
       have HS := Lib.hid hs; have SQ := Lib.hid hsq; have HX := Lib.hid hx; have HY := Lib.hid hy; have HZ := Lib.hid hz; clear hs hsq hx hy hz
       have k0 : (k : Int) < m := by omega
       have k1 : (k : Int) + 1 < m := by omega
       have k2 : (k : Int) + W < m := by omega
       have k3 : 0 ≤ (k : Int) + W := by omega
       have t1 : ((k : Int) + 1).toNat = k + 1 := by omega
       have t2 : ((k : Int) + W).toNat = k + wn := by omega
       clear hWn
       obtain ⟨wA, hwA⟩ : ∃ wA, wA = w.alloc (.cells #[.int .i64 W, .int .i64 T, .slice a m cap] 25) := ⟨_, rfl⟩
       have pA : wA.heap[w.heap.size]? = some (.cells #[.int .i64 W, .int .i64 T, .slice a m cap] 25 (0, 0)) := by rw [hwA]; exact heap_new _ _
       have bA : Below w.heap.size w wA := by rw [hwA]; exact below1 _ _
       obtain ⟨d0, d1, d2⟩ := cells3 pA
       have step : ∀ (v : Bool), (((x == 1) && (z == 1)) || ((x == 2) && (y == 2))) = v → (x == 1) = (x == 1) := fun _ _ => rfl
       clear step
       by_cases q1 : x = 1
       · subst q1
         have u1 : ((1 : Int) == 2) = false := by decide
         by_cases q2 : z = 1
         · subst q2
           go_enter Tryz.func59, Tryz.ntmps59
           go_wp2_with fail
           rw [← hwA]; clear hwA
           refine (sLaidOk_any _ _ _ _ _ xs _ _ _ L _ HN.out hn' HM.out hm' (HA.out.below bA) (HL.out.below bA)).mono ?_; rintro e w1 ⟨rfl, hb1⟩
           rw [H.out]
           have b1 := below_seq bA hb1
           have p1 := heap_later pA hb1
           obtain ⟨c0, c1, c2⟩ := cells3 p1
           go_wp2_with fail
           refine (sCornerMany_any _ _ _ _ _ xs _ HN.out hn' (HA.out.below b1)).mono ?_; rintro e w2 ⟨rfl, hb2⟩
           rw [HC.out, HNN.out]
           have p2 := heap_later p1 hb2
           have b2 := below_seq b1 hb2
           clear c0 c1 c2
           obtain ⟨c0, c1, c2⟩ := cells3 p2
           go_wp2_with fail
           refine (l1In_any _ _ _ _).mono ?_; rintro e w3 ⟨rfl, rfl⟩
           rw [HIN.out]
           go_wp2_with fail
           refine (l5Square_any _ _ _ _ _ xs _ _ HN.out v1 v2 v3 v4 HV.out hc0 hc1 (HA.out.below b2)).mono ?_; rintro e w3 ⟨rfl, hb3⟩
           rw [HS.out, SQ.out]
           simp only [sq5]
           have b3 := below_seq b2 hb3
           have g0 := (HL.out.below b3).cellAt (i := k) (by rw [← HM.out]; omega)
           have g1 := (HL.out.below b3).cellAt (i := k + 1) (by rw [← HM.out]; omega)
           have g2 := (HL.out.below b3).cellAt (i := k + wn) (by rw [← HM.out]; omega)
           rw [← HX.out] at g0; rw [← HY.out] at g1; rw [← HZ.out] at g2
           go_wp2
           go_ret
           exact ⟨ret_bool (by simp [*]), b3⟩
         · have u2 : (z == 1) = false := by simpa using q2
           clear q2
           go_enter Tryz.func59, Tryz.ntmps59
           go_wp2_with fail
           rw [← hwA]; clear hwA
           refine (sLaidOk_any _ _ _ _ _ xs _ _ _ L _ HN.out hn' HM.out hm' (HA.out.below bA) (HL.out.below bA)).mono ?_; rintro e w1 ⟨rfl, hb1⟩
           rw [H.out]
           have b1 := below_seq bA hb1
           have p1 := heap_later pA hb1
           obtain ⟨c0, c1, c2⟩ := cells3 p1
           go_wp2_with fail
           refine (sCornerMany_any _ _ _ _ _ xs _ HN.out hn' (HA.out.below b1)).mono ?_; rintro e w2 ⟨rfl, hb2⟩
           rw [HC.out, HNN.out]
           have p2 := heap_later p1 hb2
           have b2 := below_seq b1 hb2
           clear c0 c1 c2
           obtain ⟨c0, c1, c2⟩ := cells3 p2
           go_wp2_with fail
           refine (l1In_any _ _ _ _).mono ?_; rintro e w3 ⟨rfl, rfl⟩
           rw [HIN.out]
           go_wp2_with fail
           refine (l5Square_any _ _ _ _ _ xs _ _ HN.out v1 v2 v3 v4 HV.out hc0 hc1 (HA.out.below b2)).mono ?_; rintro e w3 ⟨rfl, hb3⟩
           rw [HS.out, SQ.out]
           simp only [sq5]
           have b3 := below_seq b2 hb3
           have g0 := (HL.out.below b3).cellAt (i := k) (by rw [← HM.out]; omega)
           have g1 := (HL.out.below b3).cellAt (i := k + 1) (by rw [← HM.out]; omega)
           have g2 := (HL.out.below b3).cellAt (i := k + wn) (by rw [← HM.out]; omega)
           rw [← HX.out] at g0; rw [← HY.out] at g1; rw [← HZ.out] at g2
           go_wp2
           go_ret
           exact ⟨ret_bool (by simp [*]), b3⟩
       · have u1 : (x == 1) = false := by simpa using q1
         clear q1
         by_cases q3 : x = 2
         · subst q3
           by_cases q4 : y = 2
           · subst q4
             go_enter Tryz.func59, Tryz.ntmps59
             go_wp2_with fail
             rw [← hwA]; clear hwA
             refine (sLaidOk_any _ _ _ _ _ xs _ _ _ L _ HN.out hn' HM.out hm' (HA.out.below bA) (HL.out.below bA)).mono ?_; rintro e w1 ⟨rfl, hb1⟩
             rw [H.out]
             have b1 := below_seq bA hb1
             have p1 := heap_later pA hb1
             obtain ⟨c0, c1, c2⟩ := cells3 p1
             go_wp2_with fail
             refine (sCornerMany_any _ _ _ _ _ xs _ HN.out hn' (HA.out.below b1)).mono ?_; rintro e w2 ⟨rfl, hb2⟩
             rw [HC.out, HNN.out]
             have p2 := heap_later p1 hb2
             have b2 := below_seq b1 hb2
             clear c0 c1 c2
             obtain ⟨c0, c1, c2⟩ := cells3 p2
             go_wp2_with fail
             refine (l1In_any _ _ _ _).mono ?_; rintro e w3 ⟨rfl, rfl⟩
             rw [HIN.out]
             go_wp2_with fail
             refine (l5Square_any _ _ _ _ _ xs _ _ HN.out v1 v2 v3 v4 HV.out hc0 hc1 (HA.out.below b2)).mono ?_; rintro e w3 ⟨rfl, hb3⟩
             rw [HS.out, SQ.out]
             simp only [sq5]
             have b3 := below_seq b2 hb3
             have g0 := (HL.out.below b3).cellAt (i := k) (by rw [← HM.out]; omega)
             have g1 := (HL.out.below b3).cellAt (i := k + 1) (by rw [← HM.out]; omega)
             have g2 := (HL.out.below b3).cellAt (i := k + wn) (by rw [← HM.out]; omega)
             rw [← HX.out] at g0; rw [← HY.out] at g1; rw [← HZ.out] at g2
             go_wp2
             go_ret
             exact ⟨ret_bool (by simp [*]), b3⟩
           · have u2 : (y == 2) = false := by simpa using q4
             clear q4
             go_enter Tryz.func59, Tryz.ntmps59
             go_wp2_with fail
             rw [← hwA]; clear hwA
             refine (sLaidOk_any _ _ _ _ _ xs _ _ _ L _ HN.out hn' HM.out hm' (HA.out.below bA) (HL.out.below bA)).mono ?_; rintro e w1 ⟨rfl, hb1⟩
             rw [H.out]
             have b1 := below_seq bA hb1
             have p1 := heap_later pA hb1
             obtain ⟨c0, c1, c2⟩ := cells3 p1
             go_wp2_with fail
             refine (sCornerMany_any _ _ _ _ _ xs _ HN.out hn' (HA.out.below b1)).mono ?_; rintro e w2 ⟨rfl, hb2⟩
             rw [HC.out, HNN.out]
             have p2 := heap_later p1 hb2
             have b2 := below_seq b1 hb2
             clear c0 c1 c2
             obtain ⟨c0, c1, c2⟩ := cells3 p2
             go_wp2_with fail
             refine (l1In_any _ _ _ _).mono ?_; rintro e w3 ⟨rfl, rfl⟩
             rw [HIN.out]
             go_wp2_with fail
             refine (l5Square_any _ _ _ _ _ xs _ _ HN.out v1 v2 v3 v4 HV.out hc0 hc1 (HA.out.below b2)).mono ?_; rintro e w3 ⟨rfl, hb3⟩
             rw [HS.out, SQ.out]
             simp only [sq5]
             have b3 := below_seq b2 hb3
             have g0 := (HL.out.below b3).cellAt (i := k) (by rw [← HM.out]; omega)
             have g1 := (HL.out.below b3).cellAt (i := k + 1) (by rw [← HM.out]; omega)
             have g2 := (HL.out.below b3).cellAt (i := k + wn) (by rw [← HM.out]; omega)
             rw [← HX.out] at g0; rw [← HY.out] at g1; rw [← HZ.out] at g2
             go_wp2
             go_ret
             exact ⟨ret_bool (by simp [*]), b3⟩
         · have u3 : (x == 2) = false := by simpa using q3
           clear q3
           go_enter Tryz.func59, Tryz.ntmps59
           go_wp2_with fail
           rw [← hwA]; clear hwA
           refine (sLaidOk_any _ _ _ _ _ xs _ _ _ L _ HN.out hn' HM.out hm' (HA.out.below bA) (HL.out.below bA)).mono ?_; rintro e w1 ⟨rfl, hb1⟩
           rw [H.out]
           have b1 := below_seq bA hb1
           have p1 := heap_later pA hb1
           obtain ⟨c0, c1, c2⟩ := cells3 p1
           go_wp2_with fail
           refine (sCornerMany_any _ _ _ _ _ xs _ HN.out hn' (HA.out.below b1)).mono ?_; rintro e w2 ⟨rfl, hb2⟩
           rw [HC.out, HNN.out]
           have p2 := heap_later p1 hb2
           have b2 := below_seq b1 hb2
           clear c0 c1 c2
           obtain ⟨c0, c1, c2⟩ := cells3 p2
           go_wp2_with fail
           refine (l1In_any _ _ _ _).mono ?_; rintro e w3 ⟨rfl, rfl⟩
           rw [HIN.out]
           go_wp2_with fail
           refine (l5Square_any _ _ _ _ _ xs _ _ HN.out v1 v2 v3 v4 HV.out hc0 hc1 (HA.out.below b2)).mono ?_; rintro e w3 ⟨rfl, hb3⟩
           rw [HS.out, SQ.out]
           simp only [sq5]
           have b3 := below_seq b2 hb3
           have g0 := (HL.out.below b3).cellAt (i := k) (by rw [← HM.out]; omega)
           have g1 := (HL.out.below b3).cellAt (i := k + 1) (by rw [← HM.out]; omega)
           have g2 := (HL.out.below b3).cellAt (i := k + wn) (by rw [← HM.out]; omega)
           rw [← HX.out] at g0; rw [← HY.out] at g1; rw [← HZ.out] at g2
           go_wp2
           go_ret
           exact ⟨ret_bool (by simp [*]), b3⟩
end Go.Proofs.YtpcajacekmidbaaGreat

namespace Go.Proofs.YtpcajacekmidbaaGreat
open Go.RowKit
set_option linter.unusedVariables false
set_option maxRecDepth 100000
set_option linter.unusedSimpArgs false

theorem flip_at {W T : Int} {xs : List Bool} {L : List Int} {c : Int} (h : lok W T xs L = true) (hm : mayB W T L c = true) :
 ∃ k wn : Nat, W = wn ∧ 2 ≤ wn ∧ sqI W T c = k ∧ k + wn + 1 < L.length ∧ sqB W T xs c = true ∧ (L.getD k 0 = 1 ∧ flipL W T L c = (((L.set k 2).set (k + 1) 2).set (k + wn) 4).set (k + wn + 1) 4 ∨ L.getD k 0 = 2 ∧ flipL W T L c = (((L.set k 1).set (k + wn) 1).set (k + 1) 3).set (k + wn + 1) 3) := by
 obtain ⟨k, wn, rfl, hw, hs, hb, hF, hx, hd, _⟩ := may_at h hm
 have hB : sqB (wn : Int) T xs c = true := by
  rw [sqB_idx hF rfl hs, hx k (by simp), hx (k + 1) (by simp), hx (k + wn) (by simp), hx (k + wn + 1) (by simp)]; rfl
 have e : flipL (wn : Int) T L c = flipA wn k L := by unfold flipL; rw [if_pos hm, hs, Int.toNat_natCast]
 refine ⟨k, wn, rfl, hw, hs, by rw [lok_len' h]; exact hb, hB, ?_⟩
 rw [e]
 unfold flipA
 rw [Int.toNat_natCast]
 rcases hd with ⟨d1, _⟩ | ⟨d1, _⟩
 · left; rw [if_pos d1]; exact ⟨d1, rfl⟩
 · right; rw [if_neg (by omega)]; exact ⟨d1, rfl⟩
theorem may_rng {W T : Int} {L : List Int} {c : Int} (hW : 1 ≤ W) (hW6 : W ≤ 6) (hT : 1 ≤ T) (hT6 : T ≤ 6) (h : mayB W T L c = true) : 0 ≤ c ∧ c ≤ 10000 := by
 unfold mayB at h
 simp only [Bool.and_eq_true] at h
 have := sq_rng hW h.1.1
 have := corn_bd hW hW6 hT hT6
 omega

set_option maxHeartbeats 4000000 in
theorem sFlipOne_ret (W T : Int) (a : Option Addr) (n cap : Nat) (xs : List Bool) (la : Option Addr) (m lcap : Nat) (L : List Int) (c : Int) (w : World) (hn : n = xs.length) (hn' : n ≤ 1048576) (hm : m = L.length) (hm' : m ≤ 1048576) (ha : BoolsAt w a xs) (hl : IntsAt w la L) :
 Calls Tryz.prog 48 #[.agg #[.int .i64 W, .int .i64 T, .slice a n cap], .slice la m lcap, .int .i64 c] w (RetLT w (flpF W T xs L c).1.length (flpF W T xs L c).1 (flpF W T xs L c).2) := by
 have HN := Lib.hid hn; clear hn
 have HM := Lib.hid hm; clear hm
 have HA := Lib.hid ha; clear ha
 have HL := Lib.hid hl; clear hl
 cases h : lok W T xs L
 · have e : flpF W T xs L c = ([], false) := by unfold flpF; rw [h]; rfl
   rw [e]
   have H := Lib.hid h; clear h e
   go_enter Tryz.func48, Tryz.ntmps48
   go_wp2_with fail
   refine (sLaidOk_any _ _ _ _ _ xs _ _ _ L _ HN.out hn' HM.out hm' (HA.out.one _) (HL.out.one _)).mono ?_; rintro e w1 ⟨rfl, hb1⟩
   have b1 := below_seq (below1 w _) hb1
   rw [H.out]
   go_wp2
   go_ret2
   exact ⟨some ⟨w1.heap.size, 0, none⟩, 0, rfl, World.ownsRow_made w1 #[] 0 b1.size (Nat.zero_le _) rfl, below_seq b1 (below1 _ _)⟩
 · obtain ⟨h1, h2, h3⟩ := lok_rv h
   have hle : m = n := by rw [HM.out, HN.out]; exact h2
   subst hle
   obtain ⟨v1, v2, v3, v4, v5, _⟩ := rv_true h1
   have HV : Hid ((m : Int) = W * T) := by show (m : Int) = W * T; rw [HN.out]; exact v5
   have hpos := rv_pos v1 v3 HV.out
   have e : flpF W T xs L c = (flipL W T L c, mayB W T L c) := by unfold flpF; rw [h]; rfl
   rw [e]
   have HE : Hid ((flipL W T L c).length = m) := by show _ = m; rw [flipL_len, HM.out]
   have HFM : Hid (fmayB W T xs L c = mayB W T L c) := by show _ = _; unfold fmayB; rw [h]; rfl
   clear h2 h3 v5 e
   have HR := Lib.hid h1; clear h1
   have H := Lib.hid h; clear h
   obtain ⟨i0, hi, hz0, hz1, hz2⟩ := info_parts infoInt
   obtain ⟨lb, lo, rfl, hlc⟩ := HL.out 0 (by rw [← HM.out]; exact hpos)
   have HLB : Hid (lb < w.heap.size) := World.block_lt_of_cell? w _ hlc
   clear hlc
   go_enter Tryz.func48, Tryz.ntmps48
   go_wp2_with fail
   refine (sLaidOk_any _ _ _ _ _ xs _ _ _ L _ HN.out hn' HM.out hm' (HA.out.one _) (HL.out.one _)).mono ?_; rintro e w1 ⟨rfl, hb1⟩
   have p1 := heap_later (heap_new w _) hb1
   have b1 := below_seq (below1 w _) hb1
   have z1 := b1.size
   rw [H.out]
   clear hb1
   have HL1 := Lib.hid ((HL.out.below b1).one (.cells #[] 3 (0, 0)))
   have p1' := heap_later p1 (below1 w1 (.cells #[] 3 (0, 0)))
   obtain ⟨c0, c1, c2⟩ := cells3 p1'
   go_wp2_with (at_builtin; refine wpList_append_own _ rfl _ _ 26 rfl w1.heap.size 3 i0 (.int .i64 0) 1 8 Tryz.underlying26 hi hz0 hz1 hz2 rfl (by decide) _ _ _ rfl (World.ownsRow_made w1 #[] 0 (Nat.le_refl _) (Nat.zero_le _) rfl) ⟨lb, lo, none⟩ m lcap (L.map (Value.int .i64)) rfl (by rw [List.length_map, ← HM.out]; omega) (ints_news HL1.out) (ints_one L) (by unfold maxLen; omega) (by omega) (by simp) ?_; intro v' w2 hown hgrow hnil; clear hnil; rw [Nat.zero_add, List.nil_append] at hown; obtain ⟨g, gc, rfl, ho2⟩ := own_of_row (L := L) hown rfl HM.out.symm hpos; clear hown; have hgw : w.heap.size < g := Nat.lt_of_lt_of_le (heap_lt p1) ho2.lt.1; have hg2 : (w1.alloc (.cells #[] 3 (0, 0))).grownBy w2 (some w1.heap.size) := hgrow; clear hgrow; have b2 := below_grown (below_seq b1 (below1 _ _)) hg2 (Nat.le_refl _) (fun k e => by cases e; exact z1); have p2 := heap_grown p1' hg2 (by simp; have := heap_lt p1; omega); clear c0 c1 c2; obtain ⟨c0, c1, c2⟩ := cells3 p2; have HB2 := Lib.hid b2; clear hg2)
   have O2 := Lib.hid (ho2.lower z1); clear ho2
   refine (sFlipMay_any _ _ _ _ _ xs _ _ _ L _ _ HN.out hn' HM.out hm' (HA.out.below HB2.out) (HL.out.below HB2.out)).mono ?_; rintro e w3 ⟨rfl, hb3⟩
   rw [HFM.out]
   have b3 := Lib.hid (below_seq HB2.out hb3)
   have O3 := Lib.hid (O2.out.below hb3)
   have p3 := heap_later p2 hb3
   clear c0 c1 c2
   obtain ⟨c0, c1, c2⟩ := cells3 p3
   clear O2 p1 p1' HL1 b2 b1 hb3 p2
   cases hmay : mayB W T L c
   · have HLL : Hid (flipL W T L c = L) := by show _ = _; unfold flipL; rw [hmay]; rfl
     have HC := Lib.hid hmay; clear hmay
     go_wp2
     go_ret2
     exact ⟨some ⟨g, 0, none⟩, gc, ret_slB HE.out.symm HC.out.symm, by rw [HE.out, HLL.out]; exact O3.out, b3.out⟩
   · obtain ⟨hc0, hc1⟩ := may_rng v1 v2 v3 v4 hmay
     obtain ⟨k, wn, hWn, hw2, hsq, hbd, hsb, hfl⟩ := flip_at H.out hmay
     rw [← HM.out] at hbd
     have HSQ := Lib.hid hsq; have HSB := Lib.hid hsb; have HC := Lib.hid hmay; clear hsq hsb hmay
     have k0 : (k : Int) < m := by omega
     have k1 : (k : Int) + 1 < m := by omega
     have k2 : (k : Int) + W < m := by omega
     have k3 : 0 ≤ (k : Int) + W := by omega
     have k4 : (k : Int) + W + 1 < m := by omega
     have k5 : 0 ≤ (k : Int) + W + 1 := by omega
     have t1 : ((k : Int) + 1).toNat = k + 1 := by omega
     have t2 : ((k : Int) + W).toNat = k + wn := by omega
     have t3 : ((k : Int) + W + 1).toNat = k + wn + 1 := by omega
     clear hWn
     go_wp2_with fail
     refine (l5Square_any _ _ _ _ _ xs _ _ HN.out v1 v2 v3 v4 HV.out hc0 hc1 (HA.out.below b3.out)).mono ?_; rintro e w4 ⟨rfl, hb4⟩
     rw [HSB.out, HSQ.out]
     simp only [sq5]
     have b4 := Lib.hid (below_seq b3.out hb4)
     have O4 := Lib.hid (O3.out.below hb4)
     have rk := (HL.out.below b4.out).cellAt (i := k) (by rw [← HM.out]; omega)
     have hlb := HLB.out
     have hgl := O4.out.lt
     have hw0 : ¬ wn = 0 := by omega
     have hw1 : ¬ wn = 1 := by omega
     have hw3 : ¬ 1 = wn := by omega
     have hw4 : ¬ 0 = wn := by omega
     rcases hfl with ⟨hx, hf⟩ | ⟨hx, hf⟩
     · rw [hx] at rk
       have HF := Lib.hid hf; clear hf hx
       have s1 := OwnsI.set O4.out k 2
       have s2 := OwnsI.set s1.1 (k + 1) 2
       have s3 := OwnsI.set s2.1 (k + wn) 4
       have s4 := OwnsI.set s3.1 (k + wn + 1) 4
       have y0 := O4.out.cell (k := k) (by rw [← HM.out]; omega)
       have y1 := O4.out.cell (k := k + 1) (by rw [← HM.out]; omega)
       have y2 := O4.out.cell (k := k + wn) (by rw [← HM.out]; omega)
       have y3 := O4.out.cell (k := k + wn + 1) (by rw [← HM.out]; omega)
       have f0 := O4.out.free k
       have f1 := O4.out.free (k + 1)
       have f2 := O4.out.free (k + wn)
       have f3 := O4.out.free (k + wn + 1)
       have HS := Lib.hid s4.1
       have HG := Lib.hid (grown_seq s1.2 (grown_seq s2.2 (grown_seq s3.2 s4.2)))
       clear s1 s2 s3 s4
       go_wp2
       go_ret2
       exact ⟨some ⟨g, 0, none⟩, gc, ret_slB HE.out.symm HC.out.symm, by rw [HE.out, HF.out]; exact HS.out, below_grown b4.out HG.out (Nat.le_refl _) (fun k e => by cases e; exact O4.out.lt.1)⟩
     · rw [hx] at rk
       have HF := Lib.hid hf; clear hf hx
       have u1 : ((2 : Int) == 1) = false := by decide
       have s1 := OwnsI.set O4.out k 1
       have s2 := OwnsI.set s1.1 (k + wn) 1
       have s3 := OwnsI.set s2.1 (k + 1) 3
       have s4 := OwnsI.set s3.1 (k + wn + 1) 3
       have y0 := O4.out.cell (k := k) (by rw [← HM.out]; omega)
       have y1 := O4.out.cell (k := k + 1) (by rw [← HM.out]; omega)
       have y2 := O4.out.cell (k := k + wn) (by rw [← HM.out]; omega)
       have y3 := O4.out.cell (k := k + wn + 1) (by rw [← HM.out]; omega)
       have f0 := O4.out.free k
       have f1 := O4.out.free (k + 1)
       have f2 := O4.out.free (k + wn)
       have f3 := O4.out.free (k + wn + 1)
       have HS := Lib.hid s4.1
       have HG := Lib.hid (grown_seq s1.2 (grown_seq s2.2 (grown_seq s3.2 s4.2)))
       clear s1 s2 s3 s4
       go_wp2
       go_ret2
       exact ⟨some ⟨g, 0, none⟩, gc, ret_slB HE.out.symm HC.out.symm, by rw [HE.out, HF.out]; exact HS.out, below_grown b4.out HG.out (Nat.le_refl _) (fun k e => by cases e; exact O4.out.lt.1)⟩
end Go.Proofs.YtpcajacekmidbaaGreat
