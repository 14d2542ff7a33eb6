/- Contracts of impl.laidBothWays and of the two functions LaidOk. -/
import Derived.Test.YtnpmnjmjbpfipaaStepS
import Derived.Test.YtnpmnjmjbpfipaaLaidM
namespace Go.Proofs.Ytnpmnjmjbpfipaa
open Go.RowKit
set_option linter.unusedVariables false
set_option maxRecDepth 100000
set_option linter.unusedSimpArgs false

theorem BoolsAt.cellAt {w : World} {b off : Nat} {xs : List Bool} (h : BoolsAt w (some ⟨b, off, none⟩) xs) {i : Nat} (hi : i < xs.length) : w.cell? ⟨b, off + i, none⟩ = some (.bool (xs.getD i false)) := by
  obtain ⟨b', off', e, hc⟩ := h i hi
  simp only [Option.some.injEq, Addr.mk.injEq, and_true] at e
  obtain ⟨rfl, rfl⟩ := e
  exact hc
theorem IntsAt.cellAt {w : World} {b off : Nat} {xs : List Int} (h : IntsAt w (some ⟨b, off, none⟩) xs) {i : Nat} (hi : i < xs.length) : w.cell? ⟨b, off + i, none⟩ = some (.int .i64 (xs.getD i 0)) := by
  obtain ⟨b', off', e, hc⟩ := h i hi
  simp only [Option.some.injEq, Addr.mk.injEq, and_true] at e
  obtain ⟨rfl, rfl⟩ := e
  exact hc

theorem opposite_same (way : Int) (w : World) (h0 : 0 ≤ way) (h1 : way ≤ 1000) :
    Calls Try.prog 102 #[.int .i64 way] w fun e w' => e = .returned (.int .i64 (backI way)) ∧ w' = w :=
  (opposite_any way w h0 h1).mono fun _ _ ⟨a, b⟩ => ⟨a, b.symm⟩
theorem l2Back_same (way : Int) (w : World) (h0 : 0 ≤ way) (h1 : way ≤ 1000) :
    Calls Try.prog 96 #[.int .i64 way] w fun e w' => e = .returned (.int .i64 (backI way)) ∧ w' = w :=
  (l2Back_any way w h0 h1).mono fun _ _ ⟨a, b⟩ => ⟨a, b.symm⟩
theorem cellBeside_is (W T : Int) (a : Option Addr) (n cap : Nat) (k way : Int) (w : World) {v : Int} (hW0 : 1 ≤ W) (hW1 : W ≤ 6) (hT0 : 1 ≤ T) (hT1 : T ≤ 6) (hWT : (n : Int) = W * T) (h : cellB W T n k way = v) :
    Calls Try.prog 100 #[.agg #[.int .i64 W, .int .i64 T, .slice a n cap], .int .i64 k, .int .i64 way] w fun e w' => e = .returned (.int .i64 v) ∧ Below w.heap.size w w' := by
  subst h; exact cellBeside_any W T a n cap k way w hW0 hW1 hT0 hT1 hWT

set_option maxHeartbeats 2000000 in
theorem laidBothWays_any (W T : Int) (a : Option Addr) (n cap : Nat) (xs : List Bool) (la : Option Addr) (lcap : Nat) (L : List Int) (k : Nat) (w : World) (hn : n = xs.length) (hm : n = L.length) (hW0 : 1 ≤ W) (hW1 : W ≤ 6) (hT0 : 1 ≤ T) (hT1 : T ≤ 6) (hWT : (n : Int) = W * T) (hk : k < n) (ha : BoolsAt w a xs) (hl : IntsAt w la L) :
    Calls Try.prog 107 #[.agg #[.int .i64 W, .int .i64 T, .slice a n cap], .slice la n lcap, .int .i64 k] w fun e w' => e = .returned (.bool (bothB W T xs L k)) ∧ Below w.heap.size w w' := by
  have HN := Lib.hid hn; clear hn
  have HM := Lib.hid hm; clear hm
  have HWT := Lib.hid hWT; clear hWT
  obtain ⟨b, off, rfl, hxk⟩ := ha k (by rw [← HN.out]; exact hk)
  obtain ⟨lb, lo, rfl, hlk⟩ := hl k (by rw [← HM.out]; exact hk)
  have HA := Lib.hid ha; clear ha
  have HL := Lib.hid hl; clear hl
  have pb := (prod_bd (W := W) (T := T) (by omega) (by omega) (by omega) (by omega)).2
  have hn36 : n ≤ 10000 := by have := HWT.out; omega
  obtain ⟨wy, hwy⟩ : ∃ wy, wy = L.getD k 0 := ⟨_, rfl⟩
  have hob : ∃ v, bothB W T xs L k = v := ⟨_, rfl⟩
  obtain ⟨o, ho⟩ : ∃ o, o = stepI W T k wy := ⟨_, rfl⟩
  have hcb : cellB W T n k wy = o := by unfold cellB; rw [if_pos ⟨by omega, by omega⟩, ho]
  have hobd := step_bd (W := W) (T := T) (k := k) (way := wy) hW0 (by omega) (by rw [← HWT.out]; omega)
  rw [← ho, ← HWT.out] at hobd
  have hbo : bothB W T xs L k = (decide (0 ≤ o) && xs.getD k false && xs.getD o.toNat false && (L.getD o.toNat 0 == backI wy)) := by
    unfold bothB; rw [← hwy, ← ho]
  have HBO := Lib.hid hbo; clear hbo hob
  have hway : o ≠ -1 → 0 ≤ wy ∧ wy ≤ 1000 := fun h => by
    have := stepI_edge (W := W) (T := T) (k := k) (way := wy) (by rw [← ho]; exact h)
    simp only [okOf, decide_eq_true_eq] at this; omega
  rw [← hwy] at hlk
  have HCB := Lib.hid hcb; clear hcb
  clear ho
  have e1 : (k : Int) < n := by omega
  have e0 : (0 : Int) ≤ k := by omega
  have hlb := World.block_lt_of_cell? w _ hlk
  have hlx := World.block_lt_of_cell? w _ hxk
  simp only at hlb hlx
  obtain ⟨wA, hwA⟩ : ∃ wA, wA = w.alloc (.cells #[.int .i64 W, .int .i64 T, .slice (some ⟨b, off, none⟩) n cap] 35) := ⟨_, rfl⟩
  have pA : wA.heap[w.heap.size]? = some (.cells #[.int .i64 W, .int .i64 T, .slice (some ⟨b, off, none⟩) n cap] 35 (0, 0)) := by rw [hwA]; exact heap_new _ _
  have bA : Below w.heap.size w wA := by rw [hwA]; exact below1 _ _
  have lk : wA.cell? ⟨lb, lo + k, none⟩ = some (.int .i64 wy) := (bA.cell (p := ⟨lb, _, none⟩) hlb).trans hlk
  have hwy' := Lib.hid hwy; clear hwy
  clear hlk hxk
  obtain ⟨d0, d1, d2⟩ := cells3 pA
  have lA := heap_lt pA
  have PA : wA.drew.heap[w.heap.size]? = some _ := pA
  go_enter Try.func107, Try.ntmps107
  go_wp2_with fail
  rw [← hwA]
  clear hwA
  go_region_held3 (fun w' => w'.cell? ⟨w.heap.size, 0, none⟩ = some (.int .i64 W) ∧ w'.cell? ⟨w.heap.size, 1, none⟩ = some (.int .i64 T) ∧ w'.cell? ⟨w.heap.size, 2, none⟩ = some (.slice (some ⟨b, off, none⟩) n cap) ∧ w'.cell? ⟨lb, lo + k, none⟩ = some (.int .i64 wy))
    (go_keep)
    (first
      | (go_at_call 100; refine (cellBeside_is _ _ _ _ _ _ _ _ hW0 hW1 hT0 hT1 HWT.out HCB.out).mono ?_; rintro e w6 ⟨rfl, hb6⟩; have p6 := heap_later PA hb6; obtain ⟨c60, c61, c62⟩ := cells3 p6; have k6 := cell_later hb6 (show (World.drew wA).cell? _ = some _ from lk)))
  have b6 := below_seq bA (below_seq (drew_below _) hb6)
  have A6 := HA.out.below b6
  have I6 := HL.out.below b6
  have xk6 := A6.cellAt (i := k) (by rw [← HN.out]; exact hk)
  by_cases h0 : 0 ≤ o
  · have h1 : o < n := by omega
    have xo6 := A6.cellAt (i := o.toNat) (by rw [← HN.out]; omega)
    have lo6 := I6.cellAt (i := o.toNat) (by rw [← HM.out]; omega)
    have hw := hway (by omega)
    obtain ⟨hw0, hw1⟩ := hw
    have A6' := Lib.hid A6; clear A6
    have I6' := Lib.hid I6; clear I6
    clear hobd hway
    obtain ⟨lw, hlw⟩ : ∃ lw, lw = L.getD o.toNat 0 := ⟨_, rfl⟩
    rw [← hlw] at lo6
    have HLW := Lib.hid hlw; clear hlw
    have hd : Hid (decide (0 ≤ o) = true) := by show _ = _; simpa using h0
    cases hx : xs.getD k false
    · rw [hx] at xk6
      have HX := Lib.hid hx; clear hx
      go_wp2
      go_quiet (fail)
      go_wp2
      go_ret
      exact ⟨ret_bool (by rw [HBO.out, HX.out]; simp), below_seq b6 (drewN_below _ _)⟩
    · rw [hx] at xk6
      have HX := Lib.hid hx; clear hx
      cases hy : xs.getD o.toNat false
      · rw [hy] at xo6
        have HY := Lib.hid hy; clear hy
        go_wp2
        go_quiet (fail)
        go_wp2
        go_ret
        exact ⟨ret_bool (by rw [HBO.out, HY.out]; simp), below_seq b6 (drewN_below _ _)⟩
      · rw [hy] at xo6
        have HY := Lib.hid hy; clear hy
        go_wp2
        go_quiet ((go_at_call 102; exact Calls.quiet_of_same (opposite_same _ _ hw0 hw1)))
        go_wp2
        go_ret
        exact ⟨ret_bool (by rw [HBO.out, HX.out, HY.out, hd.out, ← HLW.out]; simp), below_seq b6 (drewN_below _ _)⟩
  · have hd : Hid (decide (0 ≤ o) = false) := by show _ = _; simpa using h0
    have h0d : decide (0 ≤ o) = false := by simpa using h0
    have h0n : o < 0 := by omega
    have A6' := Lib.hid A6; clear A6
    have I6' := Lib.hid I6; clear I6
    clear hobd hway
    go_wp2
    go_quiet (fail)
    go_wp2
    go_ret
    exact ⟨ret_bool (by rw [HBO.out, hd.out]; simp), below_seq b6 (drewN_below _ _)⟩

end Go.Proofs.Ytnpmnjmjbpfipaa
