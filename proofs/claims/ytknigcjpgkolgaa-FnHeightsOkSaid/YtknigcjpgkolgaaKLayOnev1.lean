/- Plain facts on laying and lifting one domino. Merged of: LayM, Lok, Lay, LayOne, LayOneS. -/
import Derived.Test.YtknigcjpgkolgaaKSetS
namespace Go.Proofs.Ytknigcjpgkolgaa
open Go.RowKit
set_option linter.unusedVariables false
set_option maxRecDepth 100000
set_option linter.unusedSimpArgs false

end Go.Proofs.Ytknigcjpgkolgaa

namespace Go.Proofs.Ytknigcjpgkolgaa
open Go.RowKit
set_option linter.unusedVariables false
set_option maxRecDepth 100000
set_option linter.unusedSimpArgs false

end Go.Proofs.Ytknigcjpgkolgaa

namespace Go.Proofs.Ytknigcjpgkolgaa
open Go.RowKit
set_option linter.unusedVariables false
set_option maxRecDepth 100000
set_option linter.unusedSimpArgs false

end Go.Proofs.Ytknigcjpgkolgaa

namespace Go.Proofs.Ytknigcjpgkolgaa
open Go.RowKit
set_option linter.unusedVariables false
set_option maxRecDepth 100000
set_option linter.unusedSimpArgs false

theorem grownBy_trans {a b c : World} {row : Option Nat} (h : a.grownBy b row) (h2 : b.grownBy c row) : a.grownBy c row :=
  ⟨h2.os.trans h.os, h2.tape.trans h.tape, h2.output.trans h.output, Nat.le_trans h.size h2.size, fun k hk hr => (h2.block k (Nat.lt_of_lt_of_le hk h.size) hr).trans (h.block k hk hr)⟩

end Go.Proofs.Ytknigcjpgkolgaa

namespace Go.Proofs.Ytknigcjpgkolgaa
open Go.RowKit
set_option linter.unusedVariables false
set_option maxRecDepth 100000
set_option linter.unusedSimpArgs false

end Go.Proofs.Ytknigcjpgkolgaa

namespace Go.Proofs.Ytknigcjpgkolgaa
open Go.RowKit
set_option linter.unusedVariables false
set_option maxRecDepth 100000

end Go.Proofs.Ytknigcjpgkolgaa

namespace Go.Proofs.Ytknigcjpgkolgaa
open Go.RowKit
set_option linter.unusedVariables false
set_option maxRecDepth 100000
set_option linter.unusedSimpArgs false

theorem dx_bd (way : Int) : -1 ≤ dxOf way ∧ dxOf way ≤ 1 := by unfold dxOf; split <;> (try split) <;> omega
theorem dy_bd (way : Int) : -1 ≤ dyOf way ∧ dyOf way ≤ 1 := by unfold dyOf; split <;> (try split) <;> omega

theorem step_in {W T k way : Int} (hW : 1 ≤ W) (hk : 0 ≤ k) (hk1 : k < W * T) (ho : okOf way = true) (h : inF W T (k % W + dxOf way) (k / W + dyOf way) = true) :
    (k / W + dyOf way) * W + (k % W + dxOf way) = stepI W T k way := by
  obtain ⟨m1, m2, m3, m4, m5⟩ := cell_split hW hk hk1
  simp only [okOf, decide_eq_true_eq] at ho
  simp only [inF, decide_eq_true_eq] at h
  have : way = 1 ∨ way = 2 ∨ way = 3 ∨ way = 4 := by omega
  rcases this with rfl | rfl | rfl | rfl
  all_goals simp [dxOf, dyOf] at h
  all_goals simp [dxOf, dyOf, stepI, Int.add_mul]
  · rw [if_pos (by omega)]; omega
  · rw [if_pos (by omega)]; omega
  · rw [if_pos (by omega)]; omega
  · rw [if_pos (by omega)]; omega

theorem step_out {W T k way : Int} (hW : 1 ≤ W) (hk : 0 ≤ k) (hk1 : k < W * T) (ho : okOf way = true) (h : inF W T (k % W + dxOf way) (k / W + dyOf way) = false) :
    stepI W T k way = -1 := by
  obtain ⟨m1, m2, m3, m4, m5⟩ := cell_split hW hk hk1
  simp only [okOf, decide_eq_true_eq] at ho
  simp only [inF, decide_eq_false_iff_not] at h
  have : way = 1 ∨ way = 2 ∨ way = 3 ∨ way = 4 := by omega
  rcases this with rfl | rfl | rfl | rfl
  all_goals simp [dxOf, dyOf] at h
  all_goals simp [stepI]
  all_goals omega

end Go.Proofs.Ytknigcjpgkolgaa

namespace Go.Proofs.Ytknigcjpgkolgaa
open Go.RowKit
set_option linter.unusedVariables false
set_option maxRecDepth 100000
set_option linter.unusedSimpArgs false

set_option maxHeartbeats 1000000 in
theorem cellBeside_any (W T : Int) (a : Option Addr) (n cap : Nat) (k way : Int) (w : World) (hW0 : 1 ≤ W) (hW1 : W ≤ 6) (hT0 : 1 ≤ T) (hT1 : T ≤ 6) (hWT : (n : Int) = W * T) :
    Calls Try.prog 124 #[.agg #[.int .i64 W, .int .i64 T, .slice a n cap], .int .i64 k, .int .i64 way] w fun e w' => e = .returned (.int .i64 (cellB W T n k way)) ∧ Below w.heap.size w w' := by
  have HWT := Lib.hid hWT; clear hWT
  obtain ⟨dx0, dx1⟩ := dx_bd way
  obtain ⟨dy0, dy1⟩ := dy_bd way
  have pb := (prod_bd (W := W) (T := T) (by omega) (by omega) (by omega) (by omega)).2
  have hn36 : n ≤ 10000 := by have := HWT.out; omega
  by_cases hg : okOf way = true ∧ 0 ≤ k ∧ k < n
  · obtain ⟨ho, h0, h1⟩ := hg
    obtain ⟨m1, m2, m3, m4, m5⟩ := cell_split (W := W) (T := T) hW0 h0 (by rw [← HWT.out]; exact h1)
    have hr : cellB W T n k way = stepI W T k way := by unfold cellB; rw [if_pos ⟨h0, h1⟩]
    rw [hr]
    clear hr
    have hW0' : W ≠ 0 := by omega
    have M5 := Lib.hid m5; clear m5
    obtain ⟨wA, hwA⟩ : ∃ wA, wA = w.alloc (.cells #[.int .i64 W, .int .i64 T, .slice a n cap] 25) := ⟨_, rfl⟩
    have pA : wA.heap[w.heap.size]? = some (.cells #[.int .i64 W, .int .i64 T, .slice a n cap] 25 (0, 0)) := by rw [hwA]; exact heap_new _ _
    have bA : Below w.heap.size w wA := by rw [hwA]; exact below1 _ _
    obtain ⟨d0, d1, d2⟩ := cells3 pA
    have lA := heap_lt pA
    cases hin : inF W T (k % W + dxOf way) (k / W + dyOf way)
    · have HE := Lib.hid (step_out hW0 h0 (by rw [← HWT.out]; exact h1) ho hin)
      have HIN := Lib.hid hin; clear hin
      go_enter Try.func124, Try.ntmps124
      go_wp2_with fail
      refine (stepOf_any _ _).mono ?_; rintro e w1 ⟨rfl, rfl⟩
      rw [ho, ← hwA]
      clear hwA
      go_wp2
      go_quiet (fail)
      have pq : (wA.drewN nq).heap[w.heap.size]? = some _ := pA
      obtain ⟨q0, q1, q2⟩ := cells3 pq
      go_wp2_with fail
      refine (inField_is _ _ _ _ _ _ HIN.out).mono ?_; rintro e w2 ⟨rfl, hb2⟩
      go_wp2
      go_ret
      exact ⟨ret_int HE.out.symm, below_seq bA (below_seq (drewN_below _ _) hb2)⟩
    · have HE := Lib.hid (step_in hW0 h0 (by rw [← HWT.out]; exact h1) ho hin)
      have ⟨g1, g2, g3, g4⟩ : 0 ≤ k % W + dxOf way ∧ k % W + dxOf way < W ∧ 0 ≤ k / W + dyOf way ∧ k / W + dyOf way < T := by simpa [inF] using hin
      obtain ⟨i0, i1, i2⟩ := idx_bd (W := W) (T := T) g1 g2 g3 g4
      have i3 : (k / W + dyOf way) * W ≤ 100000 := by omega
      have HIN := Lib.hid hin; clear hin
      go_enter Try.func124, Try.ntmps124
      go_wp2_with fail
      refine (stepOf_any _ _).mono ?_; rintro e w1 ⟨rfl, rfl⟩
      rw [ho, ← hwA]
      clear hwA
      go_wp2
      go_quiet (fail)
      have pq : (wA.drewN nq).heap[w.heap.size]? = some _ := pA
      obtain ⟨q0, q1, q2⟩ := cells3 pq
      go_wp2_with fail
      refine (inField_is _ _ _ _ _ _ HIN.out).mono ?_; rintro e w2 ⟨rfl, hb2⟩
      have p2 := heap_later pq hb2
      obtain ⟨c0, c1, c2⟩ := cells3 p2
      go_wp2_with fail
      refine (cellAt_any _ _ _ _ (.bool false) _ _ _ _ g1 (by omega) i0 i3).mono ?_; rintro e w3 ⟨rfl, hb3⟩
      go_wp2
      go_ret
      exact ⟨ret_int HE.out, below_seq bA (below_seq (drewN_below _ _) (below_seq hb2 hb3))⟩
  · have hr : cellB W T n k way = -1 := by
      unfold cellB
      by_cases hk : 0 ≤ k ∧ k < n
      · rw [if_pos hk]
        cases ho : okOf way
        · exact step_bad ho
        · exact absurd ⟨ho, hk⟩ hg
      · rw [if_neg hk]
    rw [hr]
    clear hr
    cases ho : okOf way
    · go_enter Try.func124, Try.ntmps124
      go_wp2_with fail
      refine (stepOf_any _ _).mono ?_; rintro e w1 ⟨rfl, rfl⟩
      go_wp2
      go_ret
      exact ⟨rfl, below1 _ _⟩
    · by_cases h0 : k < 0
      · go_enter Try.func124, Try.ntmps124
        go_wp2_with fail
        refine (stepOf_any _ _).mono ?_; rintro e w1 ⟨rfl, rfl⟩
        go_wp2
        go_ret
        exact ⟨rfl, below1 _ _⟩
      · have h1 : (n : Int) ≤ k := by
          apply Classical.byContradiction; intro hc
          exact hg ⟨ho, by omega, by omega⟩
        have h0' : 0 ≤ k := by omega
        clear hg
        go_enter Try.func124, Try.ntmps124
        go_wp2_with fail
        refine (stepOf_any _ _).mono ?_; rintro e w1 ⟨rfl, rfl⟩
        go_wp2
        go_ret
        exact ⟨rfl, below1 _ _⟩

end Go.Proofs.Ytknigcjpgkolgaa

namespace Go.Proofs.Ytknigcjpgkolgaa
open Go.RowKit
set_option linter.unusedVariables false
set_option maxRecDepth 100000
set_option linter.unusedSimpArgs false

end Go.Proofs.Ytknigcjpgkolgaa

namespace Go.Proofs.Ytknigcjpgkolgaa
open Go.RowKit
set_option linter.unusedVariables false
set_option maxRecDepth 100000
set_option linter.unusedSimpArgs false

end Go.Proofs.Ytknigcjpgkolgaa

namespace Go.Proofs.Ytknigcjpgkolgaa
open Go.RowKit
set_option linter.unusedVariables false
set_option maxRecDepth 100000
set_option linter.unusedSimpArgs false

theorem opposite_same (way : Int) (w : World) (h0 : 0 ≤ way) (h1 : way ≤ 1000) :
    Calls Try.prog 125 #[.int .i64 way] w fun e w' => e = .returned (.int .i64 (backI way)) ∧ w' = w :=
  (opposite_any way w h0 h1).mono fun _ _ ⟨a, b⟩ => ⟨a, b.symm⟩
theorem cellBeside_is (W T : Int) (a : Option Addr) (n cap : Nat) (k way : Int) (w : World) {v : Int} (hW0 : 1 ≤ W) (hW1 : W ≤ 6) (hT0 : 1 ≤ T) (hT1 : T ≤ 6) (hWT : (n : Int) = W * T) (h : cellB W T n k way = v) :
    Calls Try.prog 124 #[.agg #[.int .i64 W, .int .i64 T, .slice a n cap], .int .i64 k, .int .i64 way] w fun e w' => e = .returned (.int .i64 v) ∧ Below w.heap.size w w' := by
  subst h; exact cellBeside_any W T a n cap k way w hW0 hW1 hT0 hT1 hWT

set_option maxHeartbeats 2000000 in
theorem laidBothWays_any (W T : Int) (a : Option Addr) (n cap : Nat) (xs : List Bool) (la : Option Addr) (lcap : Nat) (L : List Int) (k : Nat) (w : World) (hn : n = xs.length) (hm : n = L.length) (hW0 : 1 ≤ W) (hW1 : W ≤ 6) (hT0 : 1 ≤ T) (hT1 : T ≤ 6) (hWT : (n : Int) = W * T) (hk : k < n) (ha : BoolsAt w a xs) (hl : IntsAt w la L) :
    Calls Try.prog 100 #[.agg #[.int .i64 W, .int .i64 T, .slice a n cap], .slice la n lcap, .int .i64 k] w fun e w' => e = .returned (.bool (bothB W T xs L k)) ∧ Below w.heap.size w w' := by
  have HN := Lib.hid hn; clear hn
  have HM := Lib.hid hm; clear hm
  have HWT := Lib.hid hWT; clear hWT
  obtain ⟨b, off, rfl, hxk⟩ := ha k (by rw [← HN.out]; exact hk)
  obtain ⟨lb, lo, rfl, hlk⟩ := hl k (by rw [← HM.out]; exact hk)
  have HA := Lib.hid ha; clear ha
  have HL := Lib.hid hl; clear hl
  have pb := (prod_bd (W := W) (T := T) (by omega) (by omega) (by omega) (by omega)).2
  have hn36 : n ≤ 10000 := by have := HWT.out; omega
  obtain ⟨wy, hwy⟩ : ∃ wy, wy = L.getD k 0 := ⟨_, rfl⟩
  have hob : ∃ v, bothB W T xs L k = v := ⟨_, rfl⟩
  obtain ⟨o, ho⟩ : ∃ o, o = stepI W T k wy := ⟨_, rfl⟩
  have hcb : cellB W T n k wy = o := by unfold cellB; rw [if_pos ⟨by omega, by omega⟩, ho]
  have hobd := step_bd (W := W) (T := T) (k := k) (way := wy) hW0 (by omega) (by rw [← HWT.out]; omega)
  rw [← ho, ← HWT.out] at hobd
  have hbo : bothB W T xs L k = (decide (0 ≤ o) && xs.getD k false && xs.getD o.toNat false && (L.getD o.toNat 0 == backI wy)) := by
    unfold bothB; rw [← hwy, ← ho]
  have HBO := Lib.hid hbo; clear hbo hob
  have hway : o ≠ -1 → 0 ≤ wy ∧ wy ≤ 1000 := fun h => by
    have := stepI_edge (W := W) (T := T) (k := k) (way := wy) (by rw [← ho]; exact h)
    simp only [okOf, decide_eq_true_eq] at this; omega
  rw [← hwy] at hlk
  have HCB := Lib.hid hcb; clear hcb
  clear ho
  have e1 : (k : Int) < n := by omega
  have e0 : (0 : Int) ≤ k := by omega
  have hlb := World.block_lt_of_cell? w _ hlk
  have hlx := World.block_lt_of_cell? w _ hxk
  simp only at hlb hlx
  obtain ⟨wA, hwA⟩ : ∃ wA, wA = w.alloc (.cells #[.int .i64 W, .int .i64 T, .slice (some ⟨b, off, none⟩) n cap] 25) := ⟨_, rfl⟩
  have pA : wA.heap[w.heap.size]? = some (.cells #[.int .i64 W, .int .i64 T, .slice (some ⟨b, off, none⟩) n cap] 25 (0, 0)) := by rw [hwA]; exact heap_new _ _
  have bA : Below w.heap.size w wA := by rw [hwA]; exact below1 _ _
  have lk : wA.cell? ⟨lb, lo + k, none⟩ = some (.int .i64 wy) := (bA.cell (p := ⟨lb, _, none⟩) hlb).trans hlk
  have hwy' := Lib.hid hwy; clear hwy
  clear hlk hxk
  obtain ⟨d0, d1, d2⟩ := cells3 pA
  have lA := heap_lt pA
  have PA : wA.drew.heap[w.heap.size]? = some _ := pA
  go_enter Try.func100, Try.ntmps100
  go_wp2_with fail
  rw [← hwA]
  clear hwA
  go_region_held3 (fun w' => w'.cell? ⟨w.heap.size, 0, none⟩ = some (.int .i64 W) ∧ w'.cell? ⟨w.heap.size, 1, none⟩ = some (.int .i64 T) ∧ w'.cell? ⟨w.heap.size, 2, none⟩ = some (.slice (some ⟨b, off, none⟩) n cap) ∧ w'.cell? ⟨lb, lo + k, none⟩ = some (.int .i64 wy))
    (go_keep)
    (first
      | (go_at_call 124; refine (cellBeside_is _ _ _ _ _ _ _ _ hW0 hW1 hT0 hT1 HWT.out HCB.out).mono ?_; rintro e w6 ⟨rfl, hb6⟩; have p6 := heap_later PA hb6; obtain ⟨c60, c61, c62⟩ := cells3 p6; have k6 := cell_later hb6 (show (World.drew wA).cell? _ = some _ from lk)))
  have b6 := below_seq bA (below_seq (drew_below _) hb6)
  have A6 := HA.out.below b6
  have I6 := HL.out.below b6
  have xk6 := A6.cellAt (i := k) (by rw [← HN.out]; exact hk)
  by_cases h0 : 0 ≤ o
  · have h1 : o < n := by omega
    have xo6 := A6.cellAt (i := o.toNat) (by rw [← HN.out]; omega)
    have lo6 := I6.cellAt (i := o.toNat) (by rw [← HM.out]; omega)
    have hw := hway (by omega)
    obtain ⟨hw0, hw1⟩ := hw
    have A6' := Lib.hid A6; clear A6
    have I6' := Lib.hid I6; clear I6
    clear hobd hway
    obtain ⟨lw, hlw⟩ : ∃ lw, lw = L.getD o.toNat 0 := ⟨_, rfl⟩
    rw [← hlw] at lo6
    have HLW := Lib.hid hlw; clear hlw
    have hd : Hid (decide (0 ≤ o) = true) := by show _ = _; simpa using h0
    cases hx : xs.getD k false
    · rw [hx] at xk6
      have HX := Lib.hid hx; clear hx
      go_wp2
      go_quiet (fail)
      go_wp2
      go_ret
      exact ⟨ret_bool (by rw [HBO.out, HX.out]; simp), below_seq b6 (drewN_below _ _)⟩
    · rw [hx] at xk6
      have HX := Lib.hid hx; clear hx
      cases hy : xs.getD o.toNat false
      · rw [hy] at xo6
        have HY := Lib.hid hy; clear hy
        go_wp2
        go_quiet (fail)
        go_wp2
        go_ret
        exact ⟨ret_bool (by rw [HBO.out, HY.out]; simp), below_seq b6 (drewN_below _ _)⟩
      · rw [hy] at xo6
        have HY := Lib.hid hy; clear hy
        go_wp2
        go_quiet ((go_at_call 125; exact Calls.quiet_of_same (opposite_same _ _ hw0 hw1)))
        go_wp2
        go_ret
        exact ⟨ret_bool (by rw [HBO.out, HX.out, HY.out, hd.out, ← HLW.out]; simp), below_seq b6 (drewN_below _ _)⟩
  · have hd : Hid (decide (0 ≤ o) = false) := by show _ = _; simpa using h0
    have h0d : decide (0 ≤ o) = false := by simpa using h0
    have h0n : o < 0 := by omega
    have A6' := Lib.hid A6; clear A6
    have I6' := Lib.hid I6; clear I6
    clear hobd hway
    go_wp2
    go_quiet (fail)
    go_wp2
    go_ret
    exact ⟨ret_bool (by rw [HBO.out, hd.out]; simp), below_seq b6 (drewN_below _ _)⟩

end Go.Proofs.Ytknigcjpgkolgaa

namespace Go.Proofs.Ytknigcjpgkolgaa
open Go.RowKit
set_option linter.unusedVariables false
set_option maxRecDepth 100000
set_option linter.unusedSimpArgs false

set_option maxHeartbeats 2000000 in
theorem iLaidOk_any (W T : Int) (a : Option Addr) (n cap : Nat) (xs : List Bool) (la : Option Addr) (m lcap : Nat) (L : List Int) (w : World) (hn : n = xs.length) (hn' : n ≤ 1048576) (hm : m = L.length) (hm' : m ≤ 1048576) (ha : BoolsAt w a xs) (hl : IntsAt w la L) :
    Calls Try.prog 51 #[.agg #[.int .i64 W, .int .i64 T, .slice a n cap], .slice la m lcap] w fun e w' => e = .returned (.bool (lok W T xs L)) ∧ Below w.heap.size w w' := by
  have HN := Lib.hid hn; clear hn
  have HM := Lib.hid hm; clear hm
  have HA := Lib.hid ha; clear ha
  have HL := Lib.hid hl; clear hl
  by_cases h : rv W T xs = true
  · by_cases hnm : m = n
    · subst hnm
      obtain ⟨v1, v2, v3, v4, v5, _⟩ := rv_true h
      have HV := Lib.hid v5; clear v5
      go_enter Try.func51, Try.ntmps51
      go_wp2_with fail
      refine (iRegionValid_any _ _ _ _ _ xs _ HN.out hn' (HA.out.one _)).mono ?_; rintro e w1 ⟨rfl, hb1⟩
      have p1 := heap_later (heap_new w _) hb1
      have b1 := below_seq (below1 w _) hb1
      clear hb1
      obtain ⟨c0, c1, c2⟩ := cells3 p1
      go_wp2
      go_loopw [5, 6, 20] (fun _ _ i wr => ∃ k : Nat, k ≤ m ∧ i = .int .i64 k ∧ goodN W T xs L k = true ∧ wr.heap[w.heap.size]? = some (.cells #[.int .i64 W, .int .i64 T, .slice a m cap] 25 (0, 0)) ∧ Below w.heap.size w wr) (fun _ _ i _ => m - (intOf i).toNat)
      case atStart => exact ⟨0, Nat.zero_le _, rfl, rfl, p1, b1⟩
      case round =>
        clear c0 c1 c2
        obtain ⟨k, hk, rfl, hg, hp, hbel⟩ := hrel
        by_cases hlt : k < m
        · have IL := HL.out.below hbel
          obtain ⟨lb, lo, rfl, hc⟩ := IL k (by rw [← HM.out]; exact hlt)
          have IL' := Lib.hid IL; clear IL
          have AL' := Lib.hid (HA.out.below hbel)
          have BEL := Lib.hid hbel; clear hbel
          have HG := Lib.hid hg; clear hg
          have hs := Lib.hid (goodN_succ W T xs L k)
          have e1 : (k : Int) < m := by omega
          have e0 : (0 : Int) ≤ k := by omega
          obtain ⟨c0, c1, c2⟩ := cells3 hp
          have lp := heap_lt hp
          by_cases hz : L.getD k 0 = 0
          · have HGZ := Lib.hid (good_zero (W := W) (T := T) (xs := xs) hz)
            rw [hz] at hc
            have HZ := Lib.hid hz; clear hz
            go_wp2
            go_roundw
            case rel => exact ⟨k + 1, by omega, by go_num, by rw [hs.out, HG.out, HGZ.out]; rfl, hp, BEL.out⟩
            case measure => simp [intOf]; omega
          · have HGB := Lib.hid (good_both (W := W) (T := T) (xs := xs) hz)
            obtain ⟨wy, hwy⟩ : ∃ wy, wy = L.getD k 0 := ⟨_, rfl⟩
            rw [← hwy] at hc hz
            have HWY := Lib.hid hwy; clear hwy
            have z1 : (wy != 0) = true := by simpa using hz
            have z2 : (wy == 0) = false := by simpa using hz
            cases hbo : bothB W T xs L k
            · have HF := Lib.hid (lok_no (k := k) (by rw [← HM.out]; exact hlt) (HGB.out.trans hbo))
              have HBO := Lib.hid hbo; clear hbo
              go_wp2_with fail
              refine (laidBothWays_any _ _ _ _ _ xs _ _ L k _ HN.out HM.out v1 v2 v3 v4 (by rw [HN.out]; exact HV.out) hlt AL'.out IL'.out).mono ?_; rintro e w6 ⟨rfl, hb6⟩
              rw [HBO.out]
              go_wp2
              go_ret
              exact ⟨ret_bool HF.out.symm, below_seq BEL.out hb6⟩
            · have HGT := Lib.hid (HGB.out.trans hbo)
              have HBO := Lib.hid hbo; clear hbo
              go_wp2_with fail
              refine (laidBothWays_any _ _ _ _ _ xs _ _ L k _ HN.out HM.out v1 v2 v3 v4 (by rw [HN.out]; exact HV.out) hlt AL'.out IL'.out).mono ?_; rintro e w6 ⟨rfl, hb6⟩
              rw [HBO.out]
              have p6 := heap_later hp hb6
              go_wp2
              go_roundw
              case rel => exact ⟨k + 1, by omega, by go_num, by rw [hs.out, HG.out, HGT.out]; rfl, p6, below_seq BEL.out hb6⟩
              case measure => simp [intOf]; omega
        · obtain rfl : k = m := by omega
          have HT := Lib.hid (lok_yes h (by rw [← HM.out, ← HN.out]) (by rw [← HM.out]; exact hg))
          clear hg
          go_wp2
          go_ret
          exact ⟨ret_bool HT.out.symm, hbel⟩
    · have HF : Hid (lok W T xs L = false) := by
        show lok W T xs L = false
        unfold lok
        rw [show (L.length == xs.length) = false by rw [← HM.out, ← HN.out]; simpa using hnm]; simp
      have n1 : ((m : Int) != n) = true := by simp; omega
      have n2 : ((m : Int) == n) = false := by simp; omega
      have n3 : (m == n) = false := by simpa using hnm
      have n4 : (m != n) = true := by simpa using hnm
      go_enter Try.func51, Try.ntmps51
      go_wp2_with fail
      refine (iRegionValid_any _ _ _ _ _ xs _ HN.out hn' (HA.out.one _)).mono ?_; rintro e w1 ⟨rfl, hb1⟩
      have p1 := heap_later (heap_new w _) hb1
      obtain ⟨c0, c1, c2⟩ := cells3 p1
      go_wp2
      go_ret
      exact ⟨ret_bool HF.out.symm, below_seq (below1 _ _) hb1⟩
  · rw [Bool.not_eq_true] at h
    have HF : Hid (lok W T xs L = false) := by show lok W T xs L = false; unfold lok; rw [h]; rfl
    go_enter Try.func51, Try.ntmps51
    go_wp2_with fail
    refine (iRegionValid_any _ _ _ _ _ xs _ HN.out hn' (HA.out.one _)).mono ?_; rintro e w1 ⟨rfl, hb1⟩
    go_wp2
    go_ret
    exact ⟨ret_bool HF.out.symm, below_seq (below1 _ _) hb1⟩

end Go.Proofs.Ytknigcjpgkolgaa

namespace Go.Proofs.Ytknigcjpgkolgaa
open Go.RowKit
set_option linter.unusedVariables false
set_option maxRecDepth 100000
set_option linter.unusedSimpArgs false

end Go.Proofs.Ytknigcjpgkolgaa

namespace Go.Proofs.Ytknigcjpgkolgaa
open Go.RowKit
set_option linter.unusedVariables false
set_option maxRecDepth 100000
set_option linter.unusedSimpArgs false

set_option maxHeartbeats 1000000 in
theorem freeAt_any (W T : Int) (a : Option Addr) (n cap : Nat) (xs : List Bool) (la : Option Addr) (m lcap : Nat) (L : List Int) (k : Nat) (w : World) (hn : n = xs.length) (hm : m = L.length) (hn' : n ≤ 1048576) (hm' : m ≤ 1048576) (hk : k < n) (hkm : k < m) (ha : BoolsAt w a xs) (hl : IntsAt w la L) :
    Calls Try.prog 120 #[.agg #[.int .i64 W, .int .i64 T, .slice a n cap], .slice la m lcap, .int .i64 k] w fun e w' => e = .returned (.bool (freeB xs L k)) ∧ Below w.heap.size w w' := by
  obtain ⟨b, off, rfl, hx⟩ := ha k (by rw [← hn]; exact hk)
  obtain ⟨lb, lo, rfl, hv⟩ := hl k (by rw [← hm]; exact hkm)
  have hlx := World.block_lt_of_cell? w _ hx
  have hll := World.block_lt_of_cell? w _ hv
  simp only at hlx hll
  clear ha hl hn hm
  have e1 : (k : Int) < n := by omega
  have e2 : (k : Int) < m := by omega
  have e0 : (0 : Int) ≤ k := by omega
  obtain ⟨lk, hlk⟩ : ∃ lk, lk = L.getD k 0 := ⟨_, rfl⟩
  have HF : Hid (freeB xs L k = (xs.getD k false && (lk == 0))) := by show _ = _; rw [hlk]; rfl
  rw [← hlk] at hv
  clear hlk
  obtain ⟨xk, hxk⟩ : ∃ xk, xk = xs.getD k false := ⟨_, rfl⟩
  rw [← hxk] at hx HF
  clear hxk
  cases xk
  · go_enter Try.func120, Try.ntmps120
    go_wp2
    go_ret
    exact ⟨ret_bool (by rw [HF.out]; rfl), below1 _ _⟩
  · cases hz : (lk == 0)
    all_goals
      rw [hz] at HF
      go_enter Try.func120, Try.ntmps120
      go_wp2
      go_ret
      exact ⟨ret_bool (by rw [HF.out]; rfl), below1 _ _⟩

theorem freeAt_is (W T : Int) (a : Option Addr) (n cap : Nat) (xs : List Bool) (la : Option Addr) (m lcap : Nat) (L : List Int) (k : Nat) (w : World) {v : Bool} (hn : n = xs.length) (hm : m = L.length) (hn' : n ≤ 1048576) (hm' : m ≤ 1048576) (hk : k < n) (hkm : k < m) (ha : BoolsAt w a xs) (hl : IntsAt w la L) (h : freeB xs L k = v) :
    Calls Try.prog 120 #[.agg #[.int .i64 W, .int .i64 T, .slice a n cap], .slice la m lcap, .int .i64 k] w fun e w' => e = .returned (.bool v) ∧ Below w.heap.size w w' := by
  subst h; exact freeAt_any W T a n cap xs la m lcap L k w hn hm hn' hm' hk hkm ha hl

set_option maxHeartbeats 1000000 in
theorem firstFree_any (W T : Int) (a : Option Addr) (n cap : Nat) (xs : List Bool) (la : Option Addr) (m lcap : Nat) (L : List Int) (s : Nat) (w : World) (hn : n = xs.length) (hm : m = L.length) (hn' : n ≤ 1048576) (hnm : m = n) (hs : s ≤ m) (ha : BoolsAt w a xs) (hl : IntsAt w la L) :
    Calls Try.prog 71 #[.agg #[.int .i64 W, .int .i64 T, .slice a n cap], .slice la m lcap, .int .i64 s] w fun e w' => e = .returned (.int .i64 (firstI xs L s m)) ∧ Below w.heap.size w w' := by
  subst hnm
  have HN := Lib.hid hn; clear hn
  have HM := Lib.hid hm; clear hm
  have HA := Lib.hid ha; clear ha
  have HL := Lib.hid hl; clear hl
  go_enter Try.func71, Try.ntmps71
  go_wp2
  go_loopw [7] (fun i wr => ∃ k : Nat, s ≤ k ∧ k ≤ m ∧ i = .int .i64 k ∧ NoFree xs L s k ∧ wr.heap[w.heap.size]? = some (.cells #[.int .i64 W, .int .i64 T, .slice a m cap] 25 (0, 0)) ∧ Below w.heap.size w wr) (fun i _ => m - (intOf i).toNat)
  case atStart => exact ⟨s, Nat.le_refl _, hs, rfl, fun j h1 h2 => by omega, heap_new w _, below1 _ _⟩
  case round =>
    obtain ⟨k, hsk, hk, rfl, hno, hp, hbel⟩ := hrel
    have HNO := Lib.hid hno; clear hno
    by_cases hlt : k < m
    · obtain ⟨c0, c1, c2⟩ := cells3 hp
      have lp := heap_lt hp
      have e1 : (k : Int) < m := by omega
      have BEL := Lib.hid hbel; clear hbel
      cases hf : freeB xs L k
      · have HF := Lib.hid hf; clear hf
        go_wp2_with fail
        refine (freeAt_is _ _ _ _ _ xs _ _ _ L k _ HN.out HM.out hn' hn' hlt hlt (HA.out.below BEL.out) (HL.out.below BEL.out) HF.out).mono ?_; rintro e w6 ⟨rfl, hb6⟩
        have p6 := heap_later hp hb6
        go_wp2
        go_roundw
        case rel => exact ⟨k + 1, by omega, by omega, by go_num, HNO.out.step HF.out, p6, below_seq BEL.out hb6⟩
        case measure => simp [intOf]; omega
      · have HF := Lib.hid hf; clear hf
        have HV : Hid (firstI xs L s m = k) := first_some hsk hlt HNO.out HF.out
        go_wp2_with fail
        refine (freeAt_is _ _ _ _ _ xs _ _ _ L k _ HN.out HM.out hn' hn' hlt hlt (HA.out.below BEL.out) (HL.out.below BEL.out) HF.out).mono ?_; rintro e w6 ⟨rfl, hb6⟩
        go_wp2
        go_ret
        exact ⟨ret_int HV.out.symm, below_seq BEL.out hb6⟩
    · obtain rfl : k = m := by omega
      have HV : Hid (firstI xs L s k = -1) := first_none HNO.out
      go_wp2
      go_ret
      exact ⟨ret_int HV.out.symm, hbel⟩

theorem firstFree_is (W T : Int) (a : Option Addr) (n cap : Nat) (xs : List Bool) (la : Option Addr) (m lcap : Nat) (L : List Int) (s : Int) (w : World) {v : Int} (hn : n = xs.length) (hm : m = L.length) (hn' : n ≤ 1048576) (hnm : m = n) (hs0 : 0 ≤ s) (hs : s ≤ m) (ha : BoolsAt w a xs) (hl : IntsAt w la L) (h : firstI xs L s.toNat m = v) :
    Calls Try.prog 71 #[.agg #[.int .i64 W, .int .i64 T, .slice a n cap], .slice la m lcap, .int .i64 s] w fun e w' => e = .returned (.int .i64 v) ∧ Below w.heap.size w w' := by
  subst h
  have := firstFree_any W T a n cap xs la m lcap L s.toNat w hn hm hn' hnm (by omega) ha hl
  rw [show ((s.toNat : Nat) : Int) = s by omega] at this
  exact this

set_option maxHeartbeats 1000000 in
theorem iTilingOk_any (W T : Int) (a : Option Addr) (n cap : Nat) (xs : List Bool) (la : Option Addr) (m lcap : Nat) (L : List Int) (w : World) (hn : n = xs.length) (hn' : n ≤ 1048576) (hm : m = L.length) (hm' : m ≤ 1048576) (ha : BoolsAt w a xs) (hl : IntsAt w la L) :
    Calls Try.prog 19 #[.agg #[.int .i64 W, .int .i64 T, .slice a n cap], .slice la m lcap] w fun e w' => e = .returned (.bool (tok W T xs L)) ∧ Below w.heap.size w w' := by
  have HN := Lib.hid hn; clear hn
  have HM := Lib.hid hm; clear hm
  have HA := Lib.hid ha; clear ha
  have HL := Lib.hid hl; clear hl
  cases h : lok W T xs L
  · have H := Lib.hid h; clear h
    go_enter Try.func19, Try.ntmps19
    go_wp2_with fail
    refine (iLaidOk_any _ _ _ _ _ xs _ _ _ L _ HN.out hn' HM.out hm' (HA.out.one _) (HL.out.one _)).mono ?_; rintro e w1 ⟨rfl, hb1⟩
    rw [H.out]
    go_wp2
    go_ret
    exact ⟨ret_bool (by unfold tok; rw [H.out]; rfl), below_seq (below1 _ _) hb1⟩
  · obtain ⟨h1, h2, h3⟩ := lok_rv h
    have HLE : Hid (m = n) := by show m = n; rw [HM.out, HN.out]; exact h2
    clear h2 h3
    have H := Lib.hid h; clear h h1
    obtain ⟨fv, hfv⟩ : ∃ fv, firstI xs L (0 : Int).toNat m = fv := ⟨_, rfl⟩
    have HT : Hid (tok W T xs L = decide (fv < 0)) := by show _ = _; unfold tok; rw [H.out, ← hfv, HM.out]; rfl
    have HFV := Lib.hid hfv; clear hfv
    go_enter Try.func19, Try.ntmps19
    go_wp2_with fail
    refine (iLaidOk_any _ _ _ _ _ xs _ _ _ L _ HN.out hn' HM.out hm' (HA.out.one _) (HL.out.one _)).mono ?_; rintro e w1 ⟨rfl, hb1⟩
    have p1 := heap_later (heap_new w _) hb1
    have b1 := below_seq (below1 w _) hb1
    obtain ⟨c0, c1, c2⟩ := cells3 p1
    rw [H.out]
    go_wp2_with fail
    refine (firstFree_is _ _ _ _ _ xs _ _ _ L 0 _ HN.out HM.out hn' HLE.out (by omega) (by omega) (HA.out.below b1) (HL.out.below b1) HFV.out).mono ?_; rintro e w2 ⟨rfl, hb2⟩
    by_cases h0 : fv < 0
    all_goals
      go_wp2
      go_ret
      exact ⟨ret_bool (by rw [HT.out] <;> simp [h0]), below_seq b1 hb2⟩

end Go.Proofs.Ytknigcjpgkolgaa

namespace Go.Proofs.Ytknigcjpgkolgaa
open Go.RowKit
set_option linter.unusedVariables false
set_option maxRecDepth 100000
set_option linter.unusedSimpArgs false

end Go.Proofs.Ytknigcjpgkolgaa

namespace Go.Proofs.Ytknigcjpgkolgaa
open Go.RowKit
set_option linter.unusedVariables false
set_option maxRecDepth 100000
set_option linter.unusedSimpArgs false

end Go.Proofs.Ytknigcjpgkolgaa

namespace Go.Proofs.Ytknigcjpgkolgaa
open Go.RowKit
set_option linter.unusedVariables false
set_option maxRecDepth 100000
set_option linter.unusedSimpArgs false

end Go.Proofs.Ytknigcjpgkolgaa

namespace Go.Proofs.Ytknigcjpgkolgaa
open Go.RowKit
set_option linter.unusedVariables false
set_option maxRecDepth 100000
set_option linter.unusedSimpArgs false

set_option maxHeartbeats 1000000 in
theorem iLaidBare_ret (W T : Int) (a : Option Addr) (n cap : Nat) (xs : List Bool) (w : World) (hn : n = xs.length) (hn' : n ≤ 1048576) (ha : BoolsAt w a xs) :
    Calls Try.prog 74 #[.agg #[.int .i64 W, .int .i64 T, .slice a n cap]] w (RetL w (bareL W T xs).length (bareL W T xs)) := by
  have HN := Lib.hid hn; clear hn
  have HA := Lib.hid ha; clear ha
  obtain ⟨i0, hi, hz0, hz1, hz2⟩ := info_parts infoInt
  cases h : rv W T xs
  · have e : bareL W T xs = [] := by unfold bareL; rw [h]; rfl
    rw [e]
    have H := Lib.hid h; clear h e
    go_enter Try.func74, Try.ntmps74
    go_wp2_with fail
    refine (iRegionValid_any _ _ _ _ _ xs _ HN.out hn' (HA.out.one _)).mono ?_; rintro e w1 ⟨rfl, hb1⟩
    rw [H.out]
    go_wp2
    go_ret
    exact ⟨none, 0, rfl, OwnsI.nil _ _, below_seq (below1 _ _) hb1⟩
  · have e : bareL W T xs = List.replicate n 0 := by unfold bareL; rw [h, ← HN.out]; rfl
    rw [e, List.length_replicate]
    have H := Lib.hid h; clear h e
    go_enter Try.func74, Try.ntmps74
    go_wp2_with fail
    refine (iRegionValid_any _ _ _ _ _ xs _ HN.out hn' (HA.out.one _)).mono ?_; rintro e w1 ⟨rfl, hb1⟩
    have p1 := heap_later (heap_new w _) hb1
    have b1 := below_seq (below1 w _) hb1
    have z1 : w.heap.size ≤ w1.heap.size := b1.size
    rw [H.out]
    obtain ⟨c0, c1, c2⟩ := cells3 p1
    go_wp2_with (at_make; refine wpList_make_full _ rfl _ _ 26 rfl w.heap.size 3 i0 (.int .i64 0) 1 Try.underlying26 hi hz0 hz1 _ _ _ _ n rfl rfl rfl rfl (by rw [hz2]; omega) (by unfold maxLen; omega) z1 ?_; intro w2 hown hgrow)
    go_ret
    rw [show (Value.int .i64 0).cells = #[.int .i64 0] from rfl, toList_madeCells_one] at hown
    exact ⟨_, n, rfl, OwnsI.ofRow hown (by simp) (by simp), below_grown b1 hgrow (Nat.le_refl _) (by simp)⟩

end Go.Proofs.Ytknigcjpgkolgaa

namespace Go.Proofs.Ytknigcjpgkolgaa
open Go.RowKit
set_option linter.unusedVariables false
set_option maxRecDepth 100000
set_option linter.unusedSimpArgs false

theorem canLay_f1 {W T : Int} {xs : List Bool} {L : List Int} {k way : Int} (h : freeB xs L k.toNat = false) : canLay W T xs L k way = false := by
  unfold canLay; rw [h]; simp
theorem canLay_f2 {W T : Int} {xs : List Bool} {L : List Int} {k way : Int} (h : freeB xs L (cellB W T xs.length k way).toNat = false) : canLay W T xs L k way = false := by
  unfold canLay; rw [h]; simp
theorem canLay_yes {W T : Int} {xs : List Bool} {L : List Int} {k way : Int} (h0 : 0 ≤ cellB W T xs.length k way) (h1 : freeB xs L k.toNat = true) (h2 : freeB xs L (cellB W T xs.length k way).toNat = true) : canLay W T xs L k way = true := by
  unfold canLay; rw [h1, h2]; simpa using h0

theorem grown_of_below {w w' : World} (h : Below w.heap.size w w') (row : Option Nat) : w.grownBy w' row :=
  ⟨h.os, h.tape, h.output, h.size, fun k hk _ => h.block k hk⟩
end Go.Proofs.Ytknigcjpgkolgaa

namespace Go.Proofs.Ytknigcjpgkolgaa
open Go.RowKit
set_option linter.unusedVariables false
set_option maxRecDepth 100000
set_option linter.unusedSimpArgs false

end Go.Proofs.Ytknigcjpgkolgaa

namespace Go.Proofs.Ytknigcjpgkolgaa
open Go.RowKit
set_option linter.unusedVariables false
set_option maxRecDepth 100000
set_option linter.unusedSimpArgs false

set_option maxHeartbeats 2000000 in
theorem layDown_any (W T : Int) (a : Option Addr) (n cap : Nat) (xs : List Bool) (g lcap B : Nat) (L : List Int) (k way : Int) (w : World) (hn : n = xs.length) (hn' : n ≤ 1048576) (hm : n = L.length) (hW0 : 1 ≤ W) (hW1 : W ≤ 6) (hT0 : 1 ≤ T) (hT1 : T ≤ 6) (hWT : (n : Int) = W * T) (ha : BoolsAt w a xs) (ho : OwnsI w B (.slice (some ⟨g, 0, none⟩) n lcap) L) :
    Calls Try.prog 77 #[.agg #[.int .i64 W, .int .i64 T, .slice a n cap], .slice (some ⟨g, 0, none⟩) n lcap, .int .i64 k, .int .i64 way] w fun e w' => e = .returned (.bool (canLay W T xs L k way)) ∧ OwnsI w' B (.slice (some ⟨g, 0, none⟩) n lcap) (laidL W T xs L k way) ∧ w.grownBy w' (some g) := by
  obtain ⟨o, hco⟩ : ∃ o, cellB W T n k way = o := ⟨_, rfl⟩
  have bd := cellB_bd (n := n) (k := k) (way := way) hW0 hWT
  rw [hco] at bd
  have HN := Lib.hid hn; clear hn
  have HM := Lib.hid hm; clear hm
  have HA := Lib.hid ha; clear ha
  have HO := Lib.hid ho; clear ho
  have HWT := Lib.hid hWT; clear hWT
  have HCO := Lib.hid hco; clear hco
  by_cases h0 : o < 0
  · have HC : Hid (canLay W T xs L k way = false) := canLay_neg (by rw [← HN.out, HCO.out]; exact h0)
    have HL : Hid (laidL W T xs L k way = L) := by show _ = _; unfold laidL; rw [HC.out]; rfl
    clear bd
    go_enter Try.func77, Try.ntmps77
    go_wp2_with fail
    refine (cellBeside_is _ _ _ _ _ _ _ _ hW0 hW1 hT0 hT1 HWT.out HCO.out).mono ?_; rintro e w1 ⟨rfl, hb1⟩
    have b1 := below_seq (below1 w _) hb1
    go_wp2
    go_ret
    exact ⟨ret_bool HC.out.symm, by rw [HL.out]; exact HO.out.below b1, grown_of_below b1 _⟩
  · obtain ⟨k0, k1, o1, ok, hway⟩ := bd (by omega)
    clear bd
    obtain ⟨kn, rfl⟩ : ∃ kn : Nat, k = kn := ⟨k.toNat, by omega⟩
    obtain ⟨on, rfl⟩ : ∃ on : Nat, o = on := ⟨o.toNat, by omega⟩
    have hk : kn < n := by omega
    have hon : on < n := by omega
    have hne : ¬ kn = on := by omega
    have hw : 0 ≤ way ∧ way ≤ 1000 := by simp only [okOf, decide_eq_true_eq] at hway; omega
    obtain ⟨hw0, hw1⟩ := hw
    clear hway ok k0 k1 o1
    have hd0 : ((on : Int) < 0) = False := by simp
    clear hd0
    cases hf1 : freeB xs L kn
    · have HC : Hid (canLay W T xs L kn way = false) := canLay_f1 (by simpa using hf1)
      have HL : Hid (laidL W T xs L kn way = L) := by show _ = _; unfold laidL; rw [HC.out]; rfl
      have HF1 := Lib.hid hf1; clear hf1
      go_enter Try.func77, Try.ntmps77
      go_wp2_with fail
      refine (cellBeside_is _ _ _ _ _ _ _ _ hW0 hW1 hT0 hT1 HWT.out HCO.out).mono ?_; rintro e w1 ⟨rfl, hb1⟩
      have b1 := below_seq (below1 w _) hb1
      have p1 := heap_later (heap_new w _) hb1
      obtain ⟨c0, c1, c2⟩ := cells3 p1
      go_wp2_with fail
      refine (freeAt_is _ _ _ _ _ xs _ _ _ L kn _ HN.out HM.out hn' hn' hk hk (HA.out.below b1) (OwnsI.at (HO.out.below b1)) HF1.out).mono ?_; rintro e w2 ⟨rfl, hb2⟩
      have b2 := below_seq b1 hb2
      go_wp2
      go_ret
      exact ⟨ret_bool HC.out.symm, by rw [HL.out]; exact HO.out.below b2, grown_of_below b2 _⟩
    · have HF1 := Lib.hid hf1; clear hf1
      cases hf2 : freeB xs L on
      · have HC : Hid (canLay W T xs L kn way = false) := canLay_f2 (by rw [← HN.out, HCO.out]; simpa using hf2)
        have HL : Hid (laidL W T xs L kn way = L) := by show _ = _; unfold laidL; rw [HC.out]; rfl
        have HF2 := Lib.hid hf2; clear hf2
        go_enter Try.func77, Try.ntmps77
        go_wp2_with fail
        refine (cellBeside_is _ _ _ _ _ _ _ _ hW0 hW1 hT0 hT1 HWT.out HCO.out).mono ?_; rintro e w1 ⟨rfl, hb1⟩
        have b1 := below_seq (below1 w _) hb1
        have p1 := heap_later (heap_new w _) hb1
        obtain ⟨c0, c1, c2⟩ := cells3 p1
        go_wp2_with fail
        refine (freeAt_is _ _ _ _ _ xs _ _ _ L kn _ HN.out HM.out hn' hn' hk hk (HA.out.below b1) (OwnsI.at (HO.out.below b1)) HF1.out).mono ?_; rintro e w2 ⟨rfl, hb2⟩
        have b2 := below_seq b1 hb2
        have p2 := heap_later p1 hb2
        clear c0 c1 c2
        obtain ⟨c0, c1, c2⟩ := cells3 p2
        go_wp2_with fail
        refine (freeAt_is _ _ _ _ _ xs _ _ _ L on _ HN.out HM.out hn' hn' hon hon (HA.out.below b2) (OwnsI.at (HO.out.below b2)) HF2.out).mono ?_; rintro e w3 ⟨rfl, hb3⟩
        have b3 := below_seq b2 hb3
        go_wp2
        go_ret
        exact ⟨ret_bool HC.out.symm, by rw [HL.out]; exact HO.out.below b3, grown_of_below b3 _⟩
      · have HC : Hid (canLay W T xs L kn way = true) := canLay_yes (by rw [← HN.out, HCO.out]; omega) (by simpa using HF1.out) (by rw [← HN.out, HCO.out]; simpa using hf2)
        have HL : Hid (laidL W T xs L kn way = (L.set kn way).set on (backI way)) := by
          show _ = _; unfold laidL; rw [HC.out, ← HN.out, HCO.out]; simp
        have HF2 := Lib.hid hf2; clear hf2
        go_enter Try.func77, Try.ntmps77
        go_wp2_with fail
        refine (cellBeside_is _ _ _ _ _ _ _ _ hW0 hW1 hT0 hT1 HWT.out HCO.out).mono ?_; rintro e w1 ⟨rfl, hb1⟩
        have b1 := below_seq (below1 w _) hb1
        have p1 := heap_later (heap_new w _) hb1
        obtain ⟨c0, c1, c2⟩ := cells3 p1
        go_wp2_with fail
        refine (freeAt_is _ _ _ _ _ xs _ _ _ L kn _ HN.out HM.out hn' hn' hk hk (HA.out.below b1) (OwnsI.at (HO.out.below b1)) HF1.out).mono ?_; rintro e w2 ⟨rfl, hb2⟩
        have b2 := below_seq b1 hb2
        have p2 := heap_later p1 hb2
        clear c0 c1 c2
        obtain ⟨c0, c1, c2⟩ := cells3 p2
        go_wp2_with fail
        refine (freeAt_is _ _ _ _ _ xs _ _ _ L on _ HN.out HM.out hn' hn' hon hon (HA.out.below b2) (OwnsI.at (HO.out.below b2)) HF2.out).mono ?_; rintro e w3 ⟨rfl, hb3⟩
        have b3 := below_seq b2 hb3
        have O3 := HO.out.below b3
        have s1 := OwnsI.set O3 kn way
        have s2 := OwnsI.set s1.1 on (backI way)
        have hx1 := O3.cell (k := kn) (by rw [← HM.out]; exact hk)
        have hx2 := O3.cell (k := on) (by rw [← HM.out]; exact hon)
        have hz1 := O3.free kn
        have hz2 := O3.free on
        have HS := Lib.hid s2.1
        have HG := Lib.hid (grown_seq s1.2 s2.2)
        have HB := Lib.hid b3
        clear s1 s2 O3 b1 b2 b3 hb1 hb2 hb3
        have e1 : (kn : Int) < n := by omega
        have e2 : (on : Int) < n := by omega
        go_wp2_with fail
        refine (opposite_any _ _ hw0 hw1).mono ?_; rintro e w4 ⟨rfl, rfl⟩
        go_wp2
        go_ret
        exact ⟨ret_bool HC.out.symm, by rw [HL.out]; exact HS.out, grown_seq (grown_of_below HB.out _) HG.out⟩

end Go.Proofs.Ytknigcjpgkolgaa

namespace Go.Proofs.Ytknigcjpgkolgaa
open Go.RowKit
set_option linter.unusedVariables false
set_option maxRecDepth 100000
set_option linter.unusedSimpArgs false

end Go.Proofs.Ytknigcjpgkolgaa

namespace Go.Proofs.Ytknigcjpgkolgaa
open Go.RowKit
set_option linter.unusedVariables false
set_option maxRecDepth 100000
set_option linter.unusedSimpArgs false

end Go.Proofs.Ytknigcjpgkolgaa
