/- Plain facts on steps from cell to cell of a field. Merged of: StepM, Step, StepS. -/
import Derived.Test.YthpifnjoiklgnaaKTill
import Derived.OwnWalk
namespace Go.Proofs.Ythpifnjoiklgnaa
open Go.RowKit
set_option linter.unusedVariables false
set_option maxRecDepth 100000
set_option linter.unusedSimpArgs false

def inF (W T x y : Int) : Bool := decide (0 ≤ x ∧ x < W ∧ 0 ≤ y ∧ y < T)
def atB (W T : Int) (xs : List Bool) (x y : Int) : Bool := inF W T x y && xs.getD (y * W + x).toNat false

theorem idx_bd {W T x y : Int} (hx0 : 0 ≤ x) (hx1 : x < W) (hy0 : 0 ≤ y) (hy1 : y < T) : 0 ≤ y * W ∧ 0 ≤ y * W + x ∧ y * W + x < W * T := by
  have h1 : 0 ≤ y * W := Int.mul_nonneg hy0 (by omega)
  have h2 : y * W ≤ (T - 1) * W := Int.mul_le_mul_of_nonneg_right (by omega) (by omega)
  have h3 : (T - 1) * W = W * T - W := by rw [Int.sub_mul, Int.mul_comm T W]; omega
  omega

theorem prod_bd {W T : Int} (h0 : 0 ≤ W) (h1 : W ≤ 100) (h2 : 0 ≤ T) (h3 : T ≤ 100) : 0 ≤ W * T ∧ W * T ≤ 10000 := by
  have a : 0 ≤ W * T := Int.mul_nonneg h0 h2
  have b : W * T ≤ 100 * T := Int.mul_le_mul_of_nonneg_right h1 h2
  omega

theorem cellAt_any (W T x y : Int) (sv : Value) (a : Option Addr) (n cap : Nat) (w : World) (hx0 : 0 ≤ x) (hx1 : x ≤ 1000) (hy0 : 0 ≤ y * W) (hy1 : y * W ≤ 100000) :
    Calls Try.prog 84 #[.agg #[.int .i64 W, .int .i64 T, .slice a n cap], .int .i64 x, .int .i64 y] w fun e w' => e = .returned (.int .i64 (y * W + x)) ∧ Below w.heap.size w w' := by
  go_enter Try.func84, Try.ntmps84
  go_wp2
  go_ret
  exact ⟨rfl, below1 _ _⟩

set_option maxHeartbeats 1000000 in
theorem l1At_any (W T x y : Int) (a : Option Addr) (n cap : Nat) (xs : List Bool) (w : World) (hn : n = xs.length) (hW0 : 0 ≤ W) (hW1 : W ≤ 100) (hT0 : 0 ≤ T) (hT1 : T ≤ 100) (hWT : (n : Int) = W * T) (ha : BoolsAt w a xs) :
    Calls Try.prog 58 #[.agg #[.int .i64 W, .int .i64 T, .slice a n cap], .int .i64 x, .int .i64 y] w fun e w' => e = .returned (.bool (atB W T xs x y)) ∧ Below w.heap.size w w' := by
  have HN := Lib.hid hn; clear hn
  have HA := Lib.hid ha; clear ha
  have HWT := Lib.hid hWT; clear hWT
  by_cases h1 : inB x 0 (W - 1) = true
  · by_cases h2 : inB y 0 (T - 1) = true
    · have ⟨h1a, h1b⟩ : 0 ≤ x ∧ x ≤ W - 1 := by simpa [inB] using h1
      have ⟨h2a, h2b⟩ : 0 ≤ y ∧ y ≤ T - 1 := by simpa [inB] using h2
      obtain ⟨i0, i1, i2⟩ := idx_bd (W := W) (T := T) h1a (by omega) h2a (by omega)
      have pb := (prod_bd hW0 hW1 hT0 hT1).2
      have i3 : y * W + x < n := by rw [HWT.out]; exact i2
      obtain ⟨b, off, rfl, hc⟩ := HA.out (y * W + x).toNat (by rw [← HN.out]; omega)
      have hin : Hid (inF W T x y = true) := by show inF W T x y = true; simp [inF]; omega
      have hl := World.block_lt_of_cell? w _ hc
      simp only at hl
      go_enter Try.func58, Try.ntmps58
      go_wp2_with (first
          | (go_at_call 53; refine (l1In_any _ _ _ _).mono ?_; rintro e w1 ⟨rfl, rfl⟩))
      go_ret
      exact ⟨ret_bool (by unfold atB; rw [hin.out]; rfl), below1 _ _⟩
    · rw [Bool.not_eq_true] at h2
      have hin : Hid (inF W T x y = false) := by show inF W T x y = false; simp [inB] at h2; simp [inF]; omega
      go_enter Try.func58, Try.ntmps58
      go_wp2_with (first
          | (go_at_call 53; refine (l1In_any _ _ _ _).mono ?_; rintro e w1 ⟨rfl, rfl⟩))
      go_ret
      exact ⟨ret_bool (by unfold atB; rw [hin.out]; rfl), below1 _ _⟩
  · rw [Bool.not_eq_true] at h1
    have hin : Hid (inF W T x y = false) := by show inF W T x y = false; simp [inB] at h1; simp [inF]; omega
    go_enter Try.func58, Try.ntmps58
    go_wp2_with (first
          | (go_at_call 53; refine (l1In_any _ _ _ _).mono ?_; rintro e w1 ⟨rfl, rfl⟩))
    go_ret
    exact ⟨ret_bool (by unfold atB; rw [hin.out]; rfl), below1 _ _⟩

theorem inField_any (W T x y : Int) (sl : Value) (w : World) :
    Calls Try.prog 83 #[.agg #[.int .i64 W, .int .i64 T, sl], .int .i64 x, .int .i64 y] w fun e w' => e = .returned (.bool (inF W T x y)) ∧ Below w.heap.size w w' := by
  by_cases h1 : 0 ≤ x
  · by_cases h2 : x < W
    · by_cases h3 : 0 ≤ y
      · by_cases h4 : y < T
        all_goals
          go_enter Try.func83, Try.ntmps83
          go_wp2
          go_ret
          exact ⟨ret_bool (by simp [inF]; omega), below1 _ _⟩
      · go_enter Try.func83, Try.ntmps83
        go_wp2
        go_ret
        exact ⟨ret_bool (by simp [inF]; omega), below1 _ _⟩
    · go_enter Try.func83, Try.ntmps83
      go_wp2
      go_ret
      exact ⟨ret_bool (by simp [inF]; omega), below1 _ _⟩
  · go_enter Try.func83, Try.ntmps83
    go_wp2
    go_ret
    exact ⟨ret_bool (by simp [inF]; omega), below1 _ _⟩

theorem inField_is (W T x y : Int) (sl : Value) (w : World) {v : Bool} (h : inF W T x y = v) :
    Calls Try.prog 83 #[.agg #[.int .i64 W, .int .i64 T, sl], .int .i64 x, .int .i64 y] w fun e w' => e = .returned (.bool v) ∧ Below w.heap.size w w' := by
  subst h; exact inField_any W T x y sl w

set_option maxHeartbeats 1000000 in
theorem hasCell_any (W T x y : Int) (a : Option Addr) (n cap : Nat) (xs : List Bool) (w : World) (hn : n = xs.length) (hW0 : 0 ≤ W) (hW1 : W ≤ 100) (hT0 : 0 ≤ T) (hT1 : T ≤ 100) (hWT : (n : Int) = W * T) (ha : BoolsAt w a xs) :
    Calls Try.prog 69 #[.agg #[.int .i64 W, .int .i64 T, .slice a n cap], .int .i64 x, .int .i64 y] w fun e w' => e = .returned (.bool (atB W T xs x y)) ∧ Below w.heap.size w w' := by
  have HN := Lib.hid hn; clear hn
  have HA := Lib.hid ha; clear ha
  have HWT := Lib.hid hWT; clear hWT
  by_cases hin : inF W T x y = true
  · have ⟨h1, h2, h3, h4⟩ : 0 ≤ x ∧ x < W ∧ 0 ≤ y ∧ y < T := by simpa [inF] using hin
    obtain ⟨i0, i1, i2⟩ := idx_bd (W := W) (T := T) (x := x) (y := y) (by omega) (by omega) (by omega) (by omega)
    have pb := (prod_bd hW0 hW1 hT0 hT1).2
    have i3 : y * W + x < n := by rw [HWT.out]; exact i2
    obtain ⟨b, off, rfl, hc⟩ := HA.out (y * W + x).toNat (by rw [← HN.out]; omega)
    have hl := World.block_lt_of_cell? w _ hc
    simp only at hl
    go_enter Try.func69, Try.ntmps69
    go_wp2_with fail
    obtain ⟨wA, hwA⟩ : ∃ wA, wA = w.alloc (.cells #[.int .i64 W, .int .i64 T, .slice (some ⟨b, off, none⟩) n cap] 29) := ⟨_, rfl⟩
    have pA : wA.heap[w.heap.size]? = some (.cells #[.int .i64 W, .int .i64 T, .slice (some ⟨b, off, none⟩) n cap] 29 (0, 0)) := by rw [hwA]; exact heap_new _ _
    have bA : Below w.heap.size w wA := by rw [hwA]; exact below1 _ _
    have cA : wA.cell? ⟨b, off + (y * W + x).toNat, none⟩ = some (.bool (xs.getD (y * W + x).toNat false)) := (bA.cell (p := ⟨b, _, none⟩) hl).trans hc
    rw [← hwA]
    clear hwA hc
    obtain ⟨d0, d1, d2⟩ := cells3 pA
    have lA := heap_lt pA
    go_region_held3 (fun w' => w'.cell? ⟨w.heap.size, 0, none⟩ = some (.int .i64 W) ∧ w'.cell? ⟨w.heap.size, 1, none⟩ = some (.int .i64 T) ∧ w'.cell? ⟨w.heap.size, 2, none⟩ = some (.slice (some ⟨b, off, none⟩) n cap) ∧ w'.cell? ⟨b, off + (y * W + x).toNat, none⟩ = some (.bool (xs.getD (y * W + x).toNat false)))
      (go_keep)
      (first
        | (go_at_call 83; refine (inField_is _ _ _ _ _ _ hin).mono ?_; rintro e w5 ⟨rfl, hb5⟩; have p5 := heap_later (show (World.drew wA).heap[w.heap.size]? = some _ from pA) hb5; obtain ⟨c50, c51, c52⟩ := cells3 p5; have k5 := cell_later hb5 (show (World.drew wA).cell? _ = some _ from cA))
        | (go_at_call 84; refine (cellAt_any _ _ _ _ (.bool false) _ _ _ _ (by omega) (by omega) (by omega) (by omega)).mono ?_; rintro e w6 ⟨rfl, hb6⟩; have p6 := heap_later p5 hb6; obtain ⟨c60, c61, c62⟩ := cells3 p6; have k6 := cell_later hb6 k5))
    go_wp2
    go_ret
    exact ⟨ret_bool (by unfold atB; rw [hin]; simp), below_seq bA (below_seq (drew_below _) (below_seq hb5 hb6))⟩
  · rw [Bool.not_eq_true] at hin
    go_enter Try.func69, Try.ntmps69
    go_wp2_with fail
    obtain ⟨wA, hwA⟩ : ∃ wA, wA = w.alloc (.cells #[.int .i64 W, .int .i64 T, .slice a n cap] 29) := ⟨_, rfl⟩
    have pA : wA.heap[w.heap.size]? = some (.cells #[.int .i64 W, .int .i64 T, .slice a n cap] 29 (0, 0)) := by rw [hwA]; exact heap_new _ _
    have bA : Below w.heap.size w wA := by rw [hwA]; exact below1 _ _
    rw [← hwA]
    clear hwA
    obtain ⟨d0, d1, d2⟩ := cells3 pA
    have lA := heap_lt pA
    refine wp_region_held_drew (S := fun w' => w'.cell? ⟨w.heap.size, 0, none⟩ = some (.int .i64 W) ∧ w'.cell? ⟨w.heap.size, 1, none⟩ = some (.int .i64 T) ∧ w'.cell? ⟨w.heap.size, 2, none⟩ = some (.slice a n cap)) (by kernel_rfl) ⟨d0, d1, d2⟩ (fun hHeld => ?_)
    refine wpAnyH_take (i := 0) (oi := ⟨some 7, _, _, _, _, _⟩) (v := ?_) rfl (by kernel_rfl) (by kernel_rfl) (by kernel_rfl) (fun _ _ _ h => h) (Or.inl ⟨by rfl, ?_⟩) (by assumption) ?_
    rotate_left
    · intro w hSw; go_simp; try (with_reducible rfl)
    try simp only [Act.put, List.setIfInBounds_toArray, List.set_cons_zero, List.set_cons_succ]
    refine wpAnyH_take (i := 1) (oi := ⟨some 8, _, _, _, _, _⟩) (v := ?_) rfl (by kernel_rfl) (by kernel_rfl) (by kernel_rfl) (fun _ _ _ h => h) (Or.inl ⟨by rfl, ?_⟩) (by assumption) ?_
    rotate_left
    · intro w hSw; go_simp; try (with_reducible rfl)
    try simp only [Act.put, List.setIfInBounds_toArray, List.set_cons_zero, List.set_cons_succ]
    refine wpAnyH_take (i := 2) (oi := ⟨some 9, _, _, _, _, _⟩) (v := ?_) rfl (by kernel_rfl) (by kernel_rfl) (by kernel_rfl) (fun _ _ _ h => h) (Or.inl ⟨by rfl, ?_⟩) (by assumption) ?_
    rotate_left
    · intro w hSw; go_simp; try (with_reducible rfl)
    try simp only [Act.put, List.setIfInBounds_toArray, List.set_cons_zero, List.set_cons_succ]
    refine wpAnyH_ready (rs := [3]) (by kernel_rfl) (by simp) ?_
    refine AllReadyH.cons rfl (fun K hK => ?_) AllReadyH.nil
    go_simp
    refine (inField_is _ _ _ _ _ _ hin).mono ?_; rintro e w5 ⟨rfl, hb5⟩; have p5 := heap_later (show (World.drew wA).heap[w.heap.size]? = some _ from pA) hb5; obtain ⟨c50, c51, c52⟩ := cells3 p5
    refine hK.out _ _ ⟨c50, c51, c52⟩ (fun hHeld => ?_)
    clear hK K
    try simp only [Act.put, List.setIfInBounds_toArray, List.set_cons_zero, List.set_cons_succ]
    refine wpAnyH_take (i := 4) (oi := ⟨some 11, _, _, _, _, _⟩) (v := ?_) rfl (by kernel_rfl) (by kernel_rfl) (by kernel_rfl) (fun _ _ _ h => h) (Or.inl ⟨by rfl, ?_⟩) (by assumption) ?_
    rotate_left
    · intro w hSw; go_simp; try (with_reducible rfl)
    try simp only [Act.put, List.setIfInBounds_toArray, List.set_cons_zero, List.set_cons_succ]
    refine wpAnyH_take (i := 5) (oi := ⟨some 12, _, _, _, _, _⟩) (v := undef) rfl (by kernel_rfl) (by kernel_rfl) (by kernel_rfl) (fun _ _ _ h => h) (Or.inr ⟨by kernel_rfl, rfl⟩) (by assumption) ?_
    try simp only [Act.put, List.setIfInBounds_toArray, List.set_cons_zero, List.set_cons_succ]
    refine wpAnyH_take (i := 6) (oi := ⟨some 13, _, _, _, _, _⟩) (v := undef) rfl (by kernel_rfl) (by kernel_rfl) (by kernel_rfl) (fun _ _ _ h => h) (Or.inr ⟨by kernel_rfl, rfl⟩) (by assumption) ?_
    try simp only [Act.put, List.setIfInBounds_toArray, List.set_cons_zero, List.set_cons_succ]
    refine wpAnyH_take (i := 7) (oi := ⟨some 14, _, _, _, _, _⟩) (v := undef) rfl (by kernel_rfl) (by kernel_rfl) (by kernel_rfl) (fun _ _ _ h => h) (Or.inr ⟨by kernel_rfl, rfl⟩) (by assumption) ?_
    try simp only [Act.put, List.setIfInBounds_toArray, List.set_cons_zero, List.set_cons_succ]
    refine wpAnyH_take (i := 8) (oi := ⟨some 15, _, _, _, _, _⟩) (v := undef) rfl (by kernel_rfl) (by kernel_rfl) (by kernel_rfl) (fun _ _ _ h => h) (Or.inr ⟨by kernel_rfl, rfl⟩) (by assumption) ?_
    try simp only [Act.put, List.setIfInBounds_toArray, List.set_cons_zero, List.set_cons_succ]
    refine wpAnyH_take (i := 9) (oi := ⟨some 16, _, _, _, _, _⟩) (v := undef) rfl (by kernel_rfl) (by kernel_rfl) (by kernel_rfl) (fun _ _ _ h => h) (Or.inr ⟨by kernel_rfl, rfl⟩) (by assumption) ?_
    try simp only [Act.put, List.setIfInBounds_toArray, List.set_cons_zero, List.set_cons_succ]
    refine wpAnyH_take (i := 10) (oi := ⟨some 17, _, _, _, _, _⟩) (v := undef) rfl (by kernel_rfl) (by kernel_rfl) (by kernel_rfl) (fun _ _ _ h => h) (Or.inr ⟨by kernel_rfl, rfl⟩) (by assumption) ?_
    try simp only [Act.put, List.setIfInBounds_toArray, List.set_cons_zero, List.set_cons_succ]
    refine wpAnyH_take (i := 11) (oi := ⟨some 18, _, _, _, _, _⟩) (v := undef) rfl (by kernel_rfl) (by kernel_rfl) (by kernel_rfl) (fun _ _ _ h => h) (Or.inr ⟨by kernel_rfl, rfl⟩) (by assumption) ?_
    try simp only [Act.put, List.setIfInBounds_toArray, List.set_cons_zero, List.set_cons_succ]
    refine wpAnyH_take (i := 12) (oi := ⟨some 19, _, _, _, _, _⟩) (v := undef) rfl (by kernel_rfl) (by kernel_rfl) (by kernel_rfl) (fun _ _ _ h => h) (Or.inr ⟨by kernel_rfl, rfl⟩) (by assumption) ?_
    try simp only [Act.put, List.setIfInBounds_toArray, List.set_cons_zero, List.set_cons_succ]
    refine wpAnyH_take (i := 13) (oi := ⟨some 20, _, _, _, _, _⟩) (v := ?_) rfl (by kernel_rfl) (by kernel_rfl) (by kernel_rfl) (fun _ _ _ h => h) (Or.inl ⟨by rfl, ?_⟩) (by assumption) ?_
    rotate_left
    · intro w hSw; go_simp; try (with_reducible rfl)
    try simp only [Act.put, List.setIfInBounds_toArray, List.set_cons_zero, List.set_cons_succ]
    refine wpAnyH_take (i := 14) (oi := ⟨some 6, _, _, _, _, _⟩) (v := ?_) rfl (by kernel_rfl) (by kernel_rfl) (by kernel_rfl) (fun _ _ _ h => h) (Or.inl ⟨by rfl, ?_⟩) (by assumption) ?_
    rotate_left
    · intro w hSw; go_simp; try (with_reducible rfl)
    try simp only [Act.put, List.setIfInBounds_toArray, List.set_cons_zero, List.set_cons_succ]
    refine wpAnyH_done (by kernel_rfl) ?_ _
    go_wp2
    go_ret
    exact ⟨ret_bool (by unfold atB; rw [hin]; rfl), below_seq bA (below_seq (drew_below _) hb5)⟩

theorem rv_true {W T : Int} {xs : List Bool} (h : rv W T xs = true) : 1 ≤ W ∧ W ≤ 6 ∧ 1 ≤ T ∧ T ≤ 6 ∧ (xs.length : Int) = W * T ∧ cnt xs ≤ 24 := by simpa [rv] using h

end Go.Proofs.Ythpifnjoiklgnaa

namespace Go.Proofs.Ythpifnjoiklgnaa
open Go.RowKit
set_option linter.unusedVariables false
set_option maxRecDepth 100000
set_option linter.unusedSimpArgs false

def many (W T : Int) (xs : List Bool) : Int := if rv W T xs then cnt xs else -1

end Go.Proofs.Ythpifnjoiklgnaa

namespace Go.Proofs.Ythpifnjoiklgnaa
open Go.RowKit
set_option linter.unusedVariables false
set_option maxRecDepth 100000
set_option linter.unusedSimpArgs false

/-- Whether the k-th cell is dark, in a field that is W cells wide. -/
def dkAt (W : Int) (k : Nat) : Bool := ((k : Int) % W + (k : Int) / W) % 2 == 0
def dkN (W : Int) (xs : List Bool) (k : Nat) : Nat := (List.range k).countP fun i => xs.getD i false && dkAt W i
def dark (W T : Int) (xs : List Bool) : Int := if rv W T xs then dkN W xs xs.length else -1

theorem divmod_bd {W : Int} {k : Nat} (h : 1 ≤ W) : 0 ≤ (k : Int) % W ∧ (k : Int) % W < W ∧ 0 ≤ (k : Int) / W ∧ (k : Int) / W ≤ k :=
  ⟨Int.emod_nonneg _ (by omega), Int.emod_lt_of_pos _ (by omega), Int.ediv_nonneg (by omega) (by omega), Int.ediv_le_self _ (by omega)⟩

end Go.Proofs.Ythpifnjoiklgnaa

namespace Go.Proofs.Ythpifnjoiklgnaa
open Go.RowKit
set_option linter.unusedVariables false
set_option maxRecDepth 100000
set_option linter.unusedSimpArgs false

theorem made_bools (N : Nat) : (madeCells (Value.bool false).cells (N * 1)).toList = (List.replicate N false).map Value.bool := by
  rw [show (Value.bool false).cells = #[.bool false] from rfl, toList_madeCells_one]; simp

set_option maxHeartbeats 400000 in
theorem bareField_any (W T : Int) (N : Nat) (w : World) (hW0 : 0 ≤ W) (hW1 : W ≤ 100) (hT0 : 0 ≤ T) (hT1 : T ≤ 100) (hN : W * T = N) (hN1 : N ≤ 10000) :
    Calls Try.prog 68 #[.int .i64 W, .int .i64 T] w fun e w' => ∃ g, e = .returned (.agg #[.int .i64 W, .int .i64 T, .slice (some ⟨g, 0, none⟩) N N]) ∧ OwnsB w' (w.heap.size + 1) (.slice (some ⟨g, 0, none⟩) N N) (List.replicate N false) ∧ Below w.heap.size w w' := by
  obtain ⟨i0, hi, hz0, hz1, hz2⟩ := info_parts infoBool
  have b1 : 0 ≤ W * T := by omega
  have b2 : W * T ≤ 10000 := by omega
  have HNN := Lib.hid hN; clear hN
  go_enter Try.func68, Try.ntmps68
  go_wp2_with (at_make; refine wpList_make_full _ rfl _ _ 22 rfl (w.heap.size + 1) 4 i0 (.bool false) 1 Try.underlying22 hi hz0 hz1 _ _ _ _ N rfl rfl HNN.out HNN.out (by rw [hz2]; omega) (by unfold maxLen; omega) (by simp) ?_; intro w1 hown hgrow; have hb := grown_below hgrow; obtain ⟨hc, hf⟩ := bcell hb; have hz : w.heap.size + 1 ≤ w1.heap.size := (by have := hb.size; simp at this; omega); have HOW := Lib.hid hown; clear hown)
  refine bodyPost_ret (v := .agg #[.int .i64 W, .int .i64 T, .slice (some ⟨w.heap.size + 1, 0, none⟩) N N]) (by simp [results, Try.results68, go_sem, hc, hz]) rfl ⟨_, rfl, ?_, ?_⟩
  · have h := HOW.out
    rw [made_bools] at h
    have h' : OwnsB w1 (w.heap.size + 1) (.slice (some ⟨w.heap.size + 1, 0, none⟩) N N) (List.replicate N false) := by unfold OwnsB; simpa using h
    exact h'.set3 (by simp) _ _ _
  · exact below_set3 (below_seq (below1 _ _) hb) (Nat.le_refl _) _ _ _

end Go.Proofs.Ythpifnjoiklgnaa

namespace Go.Proofs.Ythpifnjoiklgnaa
open Go.RowKit
set_option linter.unusedVariables false
set_option maxRecDepth 100000
set_option linter.unusedSimpArgs false

end Go.Proofs.Ythpifnjoiklgnaa

namespace Go.Proofs.Ythpifnjoiklgnaa
open Go.RowKit
set_option linter.unusedVariables false
set_option maxRecDepth 100000
set_option linter.unusedSimpArgs false

end Go.Proofs.Ythpifnjoiklgnaa

namespace Go.Proofs.Ythpifnjoiklgnaa
open Go.RowKit
set_option linter.unusedVariables false
set_option maxRecDepth 100000
set_option linter.unusedSimpArgs false



/-- The d-th of the nine places around a cell: column and row from -1 to 1. -/
def dX (d : Nat) : Int := (d % 3 : Nat) - 1
def dY (d : Nat) : Int := (d / 3 : Nat) - 1
def arOk (W T : Int) (xs : List Bool) (x y : Int) (corners : Bool) (d : Nat) : Bool :=
  !(dX d == 0 && dY d == 0) && !(dX d != 0 && dY d != 0 && !corners) && atB W T xs (x + dX d) (y + dY d)
def arList (W T : Int) (xs : List Bool) (x y : Int) (corners : Bool) (D : Nat) : List Int :=
  ((List.range D).filter (arOk W T xs x y corners)).map fun d => (y + dY d) * W + (x + dX d)
theorem arList_succ (W T : Int) (xs : List Bool) (x y : Int) (corners : Bool) (D : Nat) :
    arList W T xs x y corners (D + 1) = arList W T xs x y corners D ++ if arOk W T xs x y corners D then [(y + dY D) * W + (x + dX D)] else [] := by
  unfold arList
  rw [List.range_succ, List.filter_append, List.map_append]
  congr 1
  by_cases h : arOk W T xs x y corners D = true
  · simp [h]
  · rw [Bool.not_eq_true] at h; simp [h]
theorem arList_len (W T : Int) (xs : List Bool) (x y : Int) (corners : Bool) (D : Nat) : (arList W T xs x y corners D).length ≤ D := by
  unfold arList
  rw [List.length_map]
  have := List.length_filter_le (arOk W T xs x y corners) (List.range D)
  rw [List.length_range] at this; exact this

theorem dX_at {j i : Nat} (h : i < 3) : dX (3 * j + i) = (i : Int) - 1 := by
  unfold dX; rw [Nat.mul_add_mod, Nat.mod_eq_of_lt h]
theorem dY_at {j i : Nat} (h : i < 3) : dY (3 * j + i) = (j : Int) - 1 := by
  unfold dY; rw [Nat.mul_add_div (by omega), Nat.div_eq_of_lt h]; simp
theorem arList_skip {W T : Int} {xs : List Bool} {x y : Int} {corners : Bool} {D : Nat} (h : arOk W T xs x y corners D = false) : arList W T xs x y corners (D + 1) = arList W T xs x y corners D := by
  rw [arList_succ, h]; simp
theorem arList_take {W T : Int} {xs : List Bool} {x y : Int} {corners : Bool} {D : Nat} (h : arOk W T xs x y corners D = true) : arList W T xs x y corners (D + 1) = arList W T xs x y corners D ++ [(y + dY D) * W + (x + dX D)] := by
  rw [arList_succ, h]; simp

set_option maxHeartbeats 8000000 in
theorem cellsAround_any (W T : Int) (a : Option Addr) (n cap : Nat) (xs : List Bool) (cell : Nat) (corners : Bool) (w : World) (hn : n = xs.length) (hW0 : 1 ≤ W) (hW1 : W ≤ 100) (hT0 : 0 ≤ T) (hT1 : T ≤ 100) (hWT : (n : Int) = W * T) (hc : cell < n) (ha : BoolsAt w a xs) :
    Calls Try.prog 82 #[.agg #[.int .i64 W, .int .i64 T, .slice a n cap], .int .i64 cell, .bool corners] w fun e w' => ∃ v, e = .returned v ∧ OwnsI w' w.heap.size v (arList W T xs ((cell : Int) % W) ((cell : Int) / W) corners 9) ∧ Below w.heap.size w w' := by
  have pb := (prod_bd (by omega) hW1 hT0 hT1).2
  have n4 : n ≤ 10000 := by omega
  obtain ⟨i0, hi, hz0, hz1, hz2⟩ := info_parts infoInt
  have HN := Lib.hid hn; clear hn
  have HWT := Lib.hid hWT; clear hWT
  have HA := Lib.hid ha; clear ha
  obtain ⟨m1, m2, m3, m4⟩ := divmod_bd (W := W) (k := cell) hW0
  have e0 : (0 : Int) ≤ cell := by omega
  have hWn : W ≠ 0 := by omega
  go_enter Try.func82, Try.ntmps82
  go_wp2
  go_quiet (fail)
  go_wp2
  generalize hx : (cell : Int) % W = x at *
  generalize hy : (cell : Int) / W = y at *
  obtain ⟨wA, hwA⟩ : ∃ wA, wA = (w.alloc (.cells #[.int .i64 W, .int .i64 T, .slice a n cap] 29)).drewN nq := ⟨_, rfl⟩
  have pA : wA.heap[w.heap.size]? = some (.cells #[.int .i64 W, .int .i64 T, .slice a n cap] 29 (0, 0)) := by rw [hwA]; exact heap_new w _
  have bA : Below w.heap.size w wA := by rw [hwA]; exact below_seq (below1 _ _) (drewN_below _ _)
  rw [← hwA]
  clear hwA
  go_loopw [7, 10, 11, 12, 13] (fun v dy _ _ _ wr => ∃ (j : Nat) (q : Int), j ≤ 3 ∧ Hid (q = (j : Int) - 1) ∧ -1 ≤ q ∧ q ≤ 2 ∧ dy = .int .i64 q ∧ OwnsI wr (w.heap.size + 1) v (arList W T xs x y corners (3 * j)) ∧ wr.heap[w.heap.size]? = some (.cells #[.int .i64 W, .int .i64 T, .slice a n cap] 29 (0, 0)) ∧ Below w.heap.size w wr) (fun _ dy _ _ _ _ => (2 - intOf dy).toNat)
  case atStart => exact ⟨0, -1, by omega, by show _ = _; omega, by omega, by omega, rfl, OwnsI.nil _ _, pA, bA⟩
  case round =>
    obtain ⟨j, q, hj, HQ, hq0, hq1, rfl, hown, hp, hbel⟩ := hrel
    have HO := Lib.hid hown; clear hown
    by_cases hlt : j < 3
    · have hj2 : q ≤ 1 := by have := HQ.out; omega
      go_wp2
      go_loopw [7, 11, 12, 13] (fun v dx _ _ wr => ∃ (i : Nat) (p : Int), i ≤ 3 ∧ Hid (p = (i : Int) - 1) ∧ -1 ≤ p ∧ p ≤ 2 ∧ dx = .int .i64 p ∧ OwnsI wr (w.heap.size + 1) v (arList W T xs x y corners (3 * j + i)) ∧ wr.heap[w.heap.size]? = some (.cells #[.int .i64 W, .int .i64 T, .slice a n cap] 29 (0, 0)) ∧ Below w.heap.size w wr) (fun _ dx _ _ _ => (2 - intOf dx).toNat)
      case atStart => exact ⟨0, -1, by omega, by show _ = _; omega, by omega, by omega, rfl, HO.out, hp, hbel⟩
      case round =>
        clear HO hp hbel
        obtain ⟨i, p, hi3, HP, hp0, hp1, rfl, hown, hp, hbel⟩ := hrel
        have HO := Lib.hid hown; clear hown
        obtain ⟨c0, c1, c2⟩ := cells3 hp
        have lp := heap_lt hp
        by_cases hlti : i < 3
        · have hi2 : p ≤ 1 := by have := HP.out; omega
          have eX : Hid (dX (3 * j + i) = p) := by show _ = _; rw [dX_at hlti, HP.out]
          have eY : Hid (dY (3 * j + i) = q) := by show _ = _; rw [dY_at hlti, HQ.out]
          have HAt := Lib.hid (HA.out.below hbel)
          have hall := arList_len W T xs x y corners (3 * j + i)
          have NXT : ∀ wn : World, Hid (arOk W T xs x y corners (3 * j + i) = false) → arList W T xs x y corners (3 * j + (i + 1)) = arList W T xs x y corners (3 * j + i) := fun _ h => arList_skip h.out
          have NXT' := Lib.hid NXT; clear NXT
          cases hpz : (p == 0)
          all_goals
            cases hqz : (q == 0)
            all_goals
              have hpz' : (p != 0) = !(p == 0) := rfl
              have hqz' : (q != 0) = !(q == 0) := rfl
              rw [hpz] at hpz'
              rw [hqz] at hqz'
              simp only [Bool.not_true, Bool.not_false] at hpz' hqz'
          · cases hcn : corners
            · have ok : arOk W T xs x y false (3 * j + i) = false := by unfold arOk; rw [eX.out, eY.out, hpz', hqz']; simp
              subst hcn
              have OKF := Lib.hid ok; clear ok
              have BEL := Lib.hid hbel; clear hbel
              go_wp2
              go_roundw
              case rel => exact ⟨i + 1, p + 1, by omega, by show _ = _; rw [HP.out]; omega, by omega, by omega, rfl, by rw [NXT'.out wr OKF]; exact HO.out, hp, BEL.out⟩
              case measure => simp [intOf]; omega
            · subst hcn
              have BEL := Lib.hid hbel; clear hbel
              cases hat : atB W T xs (x + p) (y + q)
              · have ok : arOk W T xs x y true (3 * j + i) = false := by unfold arOk; rw [eX.out, eY.out, hat]; simp
                have OKF := Lib.hid ok; clear ok
                go_wp2_with fail
                refine (hasCell_any _ _ _ _ _ _ _ xs _ HN.out (by omega) (by omega) (by omega) (by omega) HWT.out HAt.out).mono ?_; rintro e w6 ⟨rfl, hb6⟩
                have p6 := heap_later hp hb6
                have B6 := Lib.hid (below_seq BEL.out hb6)
                have O6 := Lib.hid (HO.out.below hb6)
                clear c0 c1 c2
                go_wp2
                go_roundw
                case rel => exact ⟨i + 1, p + 1, by omega, by show _ = _; rw [HP.out]; omega, by omega, by omega, rfl, by rw [NXT'.out wr OKF]; exact O6.out, p6, B6.out⟩
                case measure => simp [intOf]; omega
              · have ok : arOk W T xs x y true (3 * j + i) = true := by unfold arOk; rw [eX.out, eY.out, hat, hpz, hqz]; (try rw [hpz']); (try rw [hqz']); simp
                have OKF := Lib.hid ok; clear ok
                have hin : 0 ≤ x + p ∧ x + p < W ∧ 0 ≤ y + q ∧ y + q < T := by
                  have h := hat; simp only [atB, Bool.and_eq_true, inF, decide_eq_true_eq] at h; exact h.1
                obtain ⟨n0, n1, n2, n3⟩ := hin
                obtain ⟨i0', i1', i2'⟩ := idx_bd n0 n1 n2 n3
                go_wp2_with fail
                refine (hasCell_any _ _ _ _ _ _ _ xs _ HN.out (by omega) (by omega) (by omega) (by omega) HWT.out HAt.out).mono ?_; rintro e w6 ⟨rfl, hb6⟩
                have p6 := heap_later hp hb6
                have B6 := Lib.hid (below_seq BEL.out hb6)
                have O6 := Lib.hid (HO.out.below hb6)
                clear c0 c1 c2
                obtain ⟨c0, c1, c2⟩ := cells3 p6
                go_wp2_with fail
                refine (cellAt_any _ _ _ _ (.bool false) _ _ _ _ n0 (by omega) i0' (by omega)).mono ?_; rintro e w7 ⟨rfl, hb7⟩
                have p7 := heap_later p6 hb7
                have B7 := Lib.hid (below_seq B6.out hb7)
                have O7 := Lib.hid (O6.out.below hb7)
                have hz7 := heap_lt p7
                clear c0 c1 c2
                go_wp2_with (at_builtin; refine wpList_append_own _ rfl _ _ 26 rfl (w.heap.size + 1) 3 i0 (.int .i64 0) 1 8 Try.underlying26 hi hz0 hz1 hz2 rfl (by decide) _ (arList W T xs x y true (3 * j + i)).length ((arList W T xs x y true (3 * j + i)).map (Value.int .i64)) rfl (World.ownsRow.alloc O7.out _) ⟨w7.heap.size, 0, none⟩ 1 1 [.int .i64 ((y + q) * W + (x + p))] rfl rfl (new_int _ _) (one_int _) (by unfold maxLen; omega) (by omega) (by simp; omega) ?_; intro v' w8 hown' hgrow _; have p8 := heap_grown (heap_later p7 (below1 _ _)) hgrow (O7.out.ownBlock (by omega)); have O8 := Lib.hid (OwnsI.ofRow (xs := arList W T xs x y true (3 * j + (i + 1))) hown' (by rw [show 3 * j + (i + 1) = 3 * j + i + 1 from rfl, arList_take OKF.out, eX.out, eY.out]; simp) (by rw [show 3 * j + (i + 1) = 3 * j + i + 1 from rfl, arList_take OKF.out]; simp)); have B8 := Lib.hid (below_grown (below_seq B7.out (below1 _ _)) hgrow (Nat.le_refl _) (O7.out.ownAt (by omega))); clear hown' hgrow)
                go_roundw
                case rel => exact ⟨i + 1, p + 1, by omega, by show _ = _; rw [HP.out]; omega, by omega, by omega, rfl, O8.out, p8, B8.out⟩
                case measure => simp [intOf]; omega
          · have BEL := Lib.hid hbel; clear hbel
            cases hat : atB W T xs (x + p) (y + q)
            · have ok : arOk W T xs x y corners (3 * j + i) = false := by unfold arOk; rw [eX.out, eY.out, hat]; simp
              have OKF := Lib.hid ok; clear ok
              go_wp2_with fail
              refine (hasCell_any _ _ _ _ _ _ _ xs _ HN.out (by omega) (by omega) (by omega) (by omega) HWT.out HAt.out).mono ?_; rintro e w6 ⟨rfl, hb6⟩
              have p6 := heap_later hp hb6
              have B6 := Lib.hid (below_seq BEL.out hb6)
              have O6 := Lib.hid (HO.out.below hb6)
              clear c0 c1 c2
              go_wp2
              go_roundw
              case rel => exact ⟨i + 1, p + 1, by omega, by show _ = _; rw [HP.out]; omega, by omega, by omega, rfl, by rw [NXT'.out wr OKF]; exact O6.out, p6, B6.out⟩
              case measure => simp [intOf]; omega
            · have ok : arOk W T xs x y corners (3 * j + i) = true := by unfold arOk; rw [eX.out, eY.out, hat, hpz, hqz]; (try rw [hpz']); (try rw [hqz']); simp
              have OKF := Lib.hid ok; clear ok
              have hin : 0 ≤ x + p ∧ x + p < W ∧ 0 ≤ y + q ∧ y + q < T := by
                have h := hat; simp only [atB, Bool.and_eq_true, inF, decide_eq_true_eq] at h; exact h.1
              obtain ⟨n0, n1, n2, n3⟩ := hin
              obtain ⟨i0', i1', i2'⟩ := idx_bd n0 n1 n2 n3
              go_wp2_with fail
              refine (hasCell_any _ _ _ _ _ _ _ xs _ HN.out (by omega) (by omega) (by omega) (by omega) HWT.out HAt.out).mono ?_; rintro e w6 ⟨rfl, hb6⟩
              have p6 := heap_later hp hb6
              have B6 := Lib.hid (below_seq BEL.out hb6)
              have O6 := Lib.hid (HO.out.below hb6)
              clear c0 c1 c2
              obtain ⟨c0, c1, c2⟩ := cells3 p6
              go_wp2_with fail
              refine (cellAt_any _ _ _ _ (.bool false) _ _ _ _ n0 (by omega) i0' (by omega)).mono ?_; rintro e w7 ⟨rfl, hb7⟩
              have p7 := heap_later p6 hb7
              have B7 := Lib.hid (below_seq B6.out hb7)
              have O7 := Lib.hid (O6.out.below hb7)
              have hz7 := heap_lt p7
              clear c0 c1 c2
              go_wp2_with (at_builtin; refine wpList_append_own _ rfl _ _ 26 rfl (w.heap.size + 1) 3 i0 (.int .i64 0) 1 8 Try.underlying26 hi hz0 hz1 hz2 rfl (by decide) _ (arList W T xs x y corners (3 * j + i)).length ((arList W T xs x y corners (3 * j + i)).map (Value.int .i64)) rfl (World.ownsRow.alloc O7.out _) ⟨w7.heap.size, 0, none⟩ 1 1 [.int .i64 ((y + q) * W + (x + p))] rfl rfl (new_int _ _) (one_int _) (by unfold maxLen; omega) (by omega) (by simp; omega) ?_; intro v' w8 hown' hgrow _; have p8 := heap_grown (heap_later p7 (below1 _ _)) hgrow (O7.out.ownBlock (by omega)); have O8 := Lib.hid (OwnsI.ofRow (xs := arList W T xs x y corners (3 * j + (i + 1))) hown' (by rw [show 3 * j + (i + 1) = 3 * j + i + 1 from rfl, arList_take OKF.out, eX.out, eY.out]; simp) (by rw [show 3 * j + (i + 1) = 3 * j + i + 1 from rfl, arList_take OKF.out]; simp)); have B8 := Lib.hid (below_grown (below_seq B7.out (below1 _ _)) hgrow (Nat.le_refl _) (O7.out.ownAt (by omega))); clear hown' hgrow)
              go_roundw
              case rel => exact ⟨i + 1, p + 1, by omega, by show _ = _; rw [HP.out]; omega, by omega, by omega, rfl, O8.out, p8, B8.out⟩
              case measure => simp [intOf]; omega
          · have BEL := Lib.hid hbel; clear hbel
            cases hat : atB W T xs (x + p) (y + q)
            · have ok : arOk W T xs x y corners (3 * j + i) = false := by unfold arOk; rw [eX.out, eY.out, hat]; simp
              have OKF := Lib.hid ok; clear ok
              go_wp2_with fail
              refine (hasCell_any _ _ _ _ _ _ _ xs _ HN.out (by omega) (by omega) (by omega) (by omega) HWT.out HAt.out).mono ?_; rintro e w6 ⟨rfl, hb6⟩
              have p6 := heap_later hp hb6
              have B6 := Lib.hid (below_seq BEL.out hb6)
              have O6 := Lib.hid (HO.out.below hb6)
              clear c0 c1 c2
              go_wp2
              go_roundw
              case rel => exact ⟨i + 1, p + 1, by omega, by show _ = _; rw [HP.out]; omega, by omega, by omega, rfl, by rw [NXT'.out wr OKF]; exact O6.out, p6, B6.out⟩
              case measure => simp [intOf]; omega
            · have ok : arOk W T xs x y corners (3 * j + i) = true := by unfold arOk; rw [eX.out, eY.out, hat, hpz, hqz]; (try rw [hpz']); (try rw [hqz']); simp
              have OKF := Lib.hid ok; clear ok
              have hin : 0 ≤ x + p ∧ x + p < W ∧ 0 ≤ y + q ∧ y + q < T := by
                have h := hat; simp only [atB, Bool.and_eq_true, inF, decide_eq_true_eq] at h; exact h.1
              obtain ⟨n0, n1, n2, n3⟩ := hin
              obtain ⟨i0', i1', i2'⟩ := idx_bd n0 n1 n2 n3
              go_wp2_with fail
              refine (hasCell_any _ _ _ _ _ _ _ xs _ HN.out (by omega) (by omega) (by omega) (by omega) HWT.out HAt.out).mono ?_; rintro e w6 ⟨rfl, hb6⟩
              have p6 := heap_later hp hb6
              have B6 := Lib.hid (below_seq BEL.out hb6)
              have O6 := Lib.hid (HO.out.below hb6)
              clear c0 c1 c2
              obtain ⟨c0, c1, c2⟩ := cells3 p6
              go_wp2_with fail
              refine (cellAt_any _ _ _ _ (.bool false) _ _ _ _ n0 (by omega) i0' (by omega)).mono ?_; rintro e w7 ⟨rfl, hb7⟩
              have p7 := heap_later p6 hb7
              have B7 := Lib.hid (below_seq B6.out hb7)
              have O7 := Lib.hid (O6.out.below hb7)
              have hz7 := heap_lt p7
              clear c0 c1 c2
              go_wp2_with (at_builtin; refine wpList_append_own _ rfl _ _ 26 rfl (w.heap.size + 1) 3 i0 (.int .i64 0) 1 8 Try.underlying26 hi hz0 hz1 hz2 rfl (by decide) _ (arList W T xs x y corners (3 * j + i)).length ((arList W T xs x y corners (3 * j + i)).map (Value.int .i64)) rfl (World.ownsRow.alloc O7.out _) ⟨w7.heap.size, 0, none⟩ 1 1 [.int .i64 ((y + q) * W + (x + p))] rfl rfl (new_int _ _) (one_int _) (by unfold maxLen; omega) (by omega) (by simp; omega) ?_; intro v' w8 hown' hgrow _; have p8 := heap_grown (heap_later p7 (below1 _ _)) hgrow (O7.out.ownBlock (by omega)); have O8 := Lib.hid (OwnsI.ofRow (xs := arList W T xs x y corners (3 * j + (i + 1))) hown' (by rw [show 3 * j + (i + 1) = 3 * j + i + 1 from rfl, arList_take OKF.out, eX.out, eY.out]; simp) (by rw [show 3 * j + (i + 1) = 3 * j + i + 1 from rfl, arList_take OKF.out]; simp)); have B8 := Lib.hid (below_grown (below_seq B7.out (below1 _ _)) hgrow (Nat.le_refl _) (O7.out.ownAt (by omega))); clear hown' hgrow)
              go_roundw
              case rel => exact ⟨i + 1, p + 1, by omega, by show _ = _; rw [HP.out]; omega, by omega, by omega, rfl, O8.out, p8, B8.out⟩
              case measure => simp [intOf]; omega
          · have ok : arOk W T xs x y corners (3 * j + i) = false := by unfold arOk; rw [eX.out, eY.out, hpz, hqz]; rfl
            have OKF := Lib.hid ok; clear ok
            have BEL := Lib.hid hbel; clear hbel
            go_wp2
            go_roundw
            case rel => exact ⟨i + 1, p + 1, by omega, by show _ = _; rw [HP.out]; omega, by omega, by omega, rfl, by rw [NXT'.out wr OKF]; exact HO.out, hp, BEL.out⟩
            case measure => simp [intOf]; omega
        · have hi2 : ¬ p ≤ 1 := by have := HP.out; omega
          obtain rfl : i = 3 := by omega
          have BEL := Lib.hid hbel; clear hbel
          go_wp2
          go_roundw
          case rel => exact ⟨j + 1, q + 1, by omega, by show _ = _; rw [HQ.out]; omega, by omega, by omega, rfl, by rw [show 3 * (j + 1) = 3 * j + 3 from rfl]; exact HO.out, hp, BEL.out⟩
          case measure => simp [intOf]; omega
    · have hj2 : ¬ q ≤ 1 := by have := HQ.out; omega
      obtain rfl : j = 3 := by omega
      have BEL := Lib.hid hbel; clear hbel
      go_wp2
      go_ret
      exact ⟨_, rfl, HO.out.lower (by omega), BEL.out⟩
end Go.Proofs.Ythpifnjoiklgnaa

namespace Go.Proofs.Ythpifnjoiklgnaa
open Go.RowKit
set_option linter.unusedVariables false
set_option maxRecDepth 100000
set_option linter.unusedSimpArgs false

/-- How many columns to the east and rows to the north a direction leads. -/
def dxOf (way : Int) : Int := if way = 1 then 1 else if way = 3 then -1 else 0
def dyOf (way : Int) : Int := if way = 2 then 1 else if way = 4 then -1 else 0
def okOf (way : Int) : Bool := decide (1 ≤ way ∧ way ≤ 4)
theorem dx_bd (way : Int) : -1 ≤ dxOf way ∧ dxOf way ≤ 1 := by unfold dxOf; split <;> (try split) <;> omega
theorem dy_bd (way : Int) : -1 ≤ dyOf way ∧ dyOf way ≤ 1 := by unfold dyOf; split <;> (try split) <;> omega

/-- The cell beside a cell of a field. -/
def stepI (W T k way : Int) : Int :=
  if way = 1 ∧ k % W < W - 1 then k + 1
  else if way = 2 ∧ k / W < T - 1 then k + W
  else if way = 3 ∧ 0 < k % W then k - 1
  else if way = 4 ∧ 0 < k / W then k - W else -1

theorem cell_split {W T k : Int} (hW : 1 ≤ W) (hk : 0 ≤ k) (hk1 : k < W * T) : 0 ≤ k % W ∧ k % W < W ∧ 0 ≤ k / W ∧ k / W < T ∧ k / W * W + k % W = k := by
  refine ⟨Int.emod_nonneg _ (by omega), Int.emod_lt_of_pos _ (by omega), Int.ediv_nonneg hk (by omega), ?_, ?_⟩
  · exact Int.ediv_lt_of_lt_mul (by omega) (by rw [Int.mul_comm]; exact hk1)
  · rw [Int.mul_comm]; exact Int.mul_ediv_add_emod k W

theorem step_in {W T k way : Int} (hW : 1 ≤ W) (hk : 0 ≤ k) (hk1 : k < W * T) (ho : okOf way = true) (h : inF W T (k % W + dxOf way) (k / W + dyOf way) = true) :
    (k / W + dyOf way) * W + (k % W + dxOf way) = stepI W T k way := by
  obtain ⟨m1, m2, m3, m4, m5⟩ := cell_split hW hk hk1
  simp only [okOf, decide_eq_true_eq] at ho
  simp only [inF, decide_eq_true_eq] at h
  have : way = 1 ∨ way = 2 ∨ way = 3 ∨ way = 4 := by omega
  rcases this with rfl | rfl | rfl | rfl
  all_goals simp [dxOf, dyOf] at h
  all_goals simp [dxOf, dyOf, stepI, Int.add_mul]
  · rw [if_pos (by omega)]; omega
  · rw [if_pos (by omega)]; omega
  · rw [if_pos (by omega)]; omega
  · rw [if_pos (by omega)]; omega

theorem step_out {W T k way : Int} (hW : 1 ≤ W) (hk : 0 ≤ k) (hk1 : k < W * T) (ho : okOf way = true) (h : inF W T (k % W + dxOf way) (k / W + dyOf way) = false) :
    stepI W T k way = -1 := by
  obtain ⟨m1, m2, m3, m4, m5⟩ := cell_split hW hk hk1
  simp only [okOf, decide_eq_true_eq] at ho
  simp only [inF, decide_eq_false_iff_not] at h
  have : way = 1 ∨ way = 2 ∨ way = 3 ∨ way = 4 := by omega
  rcases this with rfl | rfl | rfl | rfl
  all_goals simp [dxOf, dyOf] at h
  all_goals simp [stepI]
  all_goals omega

theorem step_bad {W T k way : Int} (ho : okOf way = false) : stepI W T k way = -1 := by
  simp only [okOf, decide_eq_false_iff_not] at ho
  unfold stepI
  rw [if_neg (by omega), if_neg (by omega), if_neg (by omega), if_neg (by omega)]

theorem step_bd {W T k way : Int} (hW : 1 ≤ W) (hk : 0 ≤ k) (hk1 : k < W * T) : stepI W T k way = -1 ∨ (0 ≤ stepI W T k way ∧ stepI W T k way < W * T) := by
  obtain ⟨m1, m2, m3, m4, m5⟩ := cell_split hW hk hk1
  unfold stepI
  have r1 : k / W ≤ T - 1 → (k / W) * W ≤ (T - 1) * W := fun h => Int.mul_le_mul_of_nonneg_right h (by omega)
  have r2 : k / W + 1 ≤ T - 1 → (k / W + 1) * W ≤ (T - 1) * W := fun h => Int.mul_le_mul_of_nonneg_right h (by omega)
  have r3 : 1 ≤ k / W → 1 * W ≤ (k / W) * W := fun h => Int.mul_le_mul_of_nonneg_right h (by omega)
  have r0 : 0 ≤ k / W * W := Int.mul_nonneg m3 (by omega)
  have e1 : (T - 1) * W = W * T - W := by rw [Int.sub_mul, Int.mul_comm T W]; omega
  have e2 : (k / W + 1) * W = k / W * W + W := by rw [Int.add_mul]; omega
  split
  · right; omega
  · split
    · right
      have := r2 (by omega)
      omega
    · split
      · right; omega
      · split
        · right
          have := r3 (by omega)
          omega
        · left; rfl

/-- The opposite direction. -/
def backI (way : Int) : Int := (way + 1) % 4 + 1

end Go.Proofs.Ythpifnjoiklgnaa

namespace Go.Proofs.Ythpifnjoiklgnaa
open Go.RowKit
set_option linter.unusedVariables false
set_option maxRecDepth 100000
set_option linter.unusedSimpArgs false

theorem stepOf_any (way : Int) (w : World) :
    Calls Try.prog 85 #[.int .i64 way] w fun e w' => e = .returned (.tuple #[.int .i64 (dxOf way), .int .i64 (dyOf way), .bool (okOf way)]) ∧ w = w' := by
  by_cases h1 : way = 1
  · subst h1
    go_enter Try.func85, Try.ntmps85
    go_wp2
    go_ret3
    exact ⟨rfl, rfl⟩
  by_cases h2 : way = 2
  · subst h2
    go_enter Try.func85, Try.ntmps85
    go_wp2
    go_ret3
    exact ⟨rfl, rfl⟩
  by_cases h3 : way = 3
  · subst h3
    go_enter Try.func85, Try.ntmps85
    go_wp2
    go_ret3
    exact ⟨rfl, rfl⟩
  by_cases h4 : way = 4
  · subst h4
    go_enter Try.func85, Try.ntmps85
    go_wp2
    go_ret3
    exact ⟨rfl, rfl⟩
  have e1 : dxOf way = 0 := by unfold dxOf; rw [if_neg h1, if_neg h3]
  have e2 : dyOf way = 0 := by unfold dyOf; rw [if_neg h2, if_neg h4]
  have e3 : okOf way = false := by unfold okOf; exact decide_eq_false (by omega)
  rw [e1, e2, e3]
  clear e1 e2 e3
  have b1 : (way == 1) = false := by simpa using h1
  have b2 : (way == 2) = false := by simpa using h2
  have b3 : (way == 3) = false := by simpa using h3
  have b4 : (way == 4) = false := by simpa using h4
  go_enter Try.func85, Try.ntmps85
  go_wp2
  go_ret3
  exact ⟨rfl, rfl⟩

theorem opposite_any (way : Int) (w : World) (h0 : 0 ≤ way) (h1 : way ≤ 1000) :
    Calls Try.prog 75 #[.int .i64 way] w fun e w' => e = .returned (.int .i64 (backI way)) ∧ w = w' := by
  go_enter Try.func75, Try.ntmps75
  go_wp2
  go_ret
  exact ⟨rfl, rfl⟩

theorem l2Back_any (way : Int) (w : World) (h0 : 0 ≤ way) (h1 : way ≤ 1000) :
    Calls Try.prog 62 #[.int .i64 way] w fun e w' => e = .returned (.int .i64 (backI way)) ∧ w = w' := by
  go_enter Try.func62, Try.ntmps62
  go_wp2
  go_ret
  exact ⟨rfl, rfl⟩

/-- The cell beside one that may not be there. -/
def cellB (W T : Int) (n : Nat) (k way : Int) : Int := if 0 ≤ k ∧ k < n then stepI W T k way else -1
theorem stepI_edge {W T k way : Int} (h : stepI W T k way ≠ -1) : okOf way = true := by
  cases ho : okOf way
  · exact absurd (step_bad ho) h
  · rfl

set_option maxHeartbeats 1000000 in
theorem cellBeside_any (W T : Int) (a : Option Addr) (n cap : Nat) (k way : Int) (w : World) (hW0 : 1 ≤ W) (hW1 : W ≤ 6) (hT0 : 1 ≤ T) (hT1 : T ≤ 6) (hWT : (n : Int) = W * T) :
    Calls Try.prog 73 #[.agg #[.int .i64 W, .int .i64 T, .slice a n cap], .int .i64 k, .int .i64 way] w fun e w' => e = .returned (.int .i64 (cellB W T n k way)) ∧ Below w.heap.size w w' := by
  have HWT := Lib.hid hWT; clear hWT
  obtain ⟨dx0, dx1⟩ := dx_bd way
  obtain ⟨dy0, dy1⟩ := dy_bd way
  have pb := (prod_bd (W := W) (T := T) (by omega) (by omega) (by omega) (by omega)).2
  have hn36 : n ≤ 10000 := by have := HWT.out; omega
  by_cases hg : okOf way = true ∧ 0 ≤ k ∧ k < n
  · obtain ⟨ho, h0, h1⟩ := hg
    obtain ⟨m1, m2, m3, m4, m5⟩ := cell_split (W := W) (T := T) hW0 h0 (by rw [← HWT.out]; exact h1)
    have hr : cellB W T n k way = stepI W T k way := by unfold cellB; rw [if_pos ⟨h0, h1⟩]
    rw [hr]
    clear hr
    have hW0' : W ≠ 0 := by omega
    have M5 := Lib.hid m5; clear m5
    obtain ⟨wA, hwA⟩ : ∃ wA, wA = w.alloc (.cells #[.int .i64 W, .int .i64 T, .slice a n cap] 29) := ⟨_, rfl⟩
    have pA : wA.heap[w.heap.size]? = some (.cells #[.int .i64 W, .int .i64 T, .slice a n cap] 29 (0, 0)) := by rw [hwA]; exact heap_new _ _
    have bA : Below w.heap.size w wA := by rw [hwA]; exact below1 _ _
    obtain ⟨d0, d1, d2⟩ := cells3 pA
    have lA := heap_lt pA
    cases hin : inF W T (k % W + dxOf way) (k / W + dyOf way)
    · have HE := Lib.hid (step_out hW0 h0 (by rw [← HWT.out]; exact h1) ho hin)
      have HIN := Lib.hid hin; clear hin
      go_enter Try.func73, Try.ntmps73
      go_wp2_with fail
      refine (stepOf_any _ _).mono ?_; rintro e w1 ⟨rfl, rfl⟩
      rw [ho, ← hwA]
      clear hwA
      go_wp2
      go_quiet (fail)
      have pq : (wA.drewN nq).heap[w.heap.size]? = some _ := pA
      obtain ⟨q0, q1, q2⟩ := cells3 pq
      go_wp2_with fail
      refine (inField_is _ _ _ _ _ _ HIN.out).mono ?_; rintro e w2 ⟨rfl, hb2⟩
      go_wp2
      go_ret
      exact ⟨ret_int HE.out.symm, below_seq bA (below_seq (drewN_below _ _) hb2)⟩
    · have HE := Lib.hid (step_in hW0 h0 (by rw [← HWT.out]; exact h1) ho hin)
      have ⟨g1, g2, g3, g4⟩ : 0 ≤ k % W + dxOf way ∧ k % W + dxOf way < W ∧ 0 ≤ k / W + dyOf way ∧ k / W + dyOf way < T := by simpa [inF] using hin
      obtain ⟨i0, i1, i2⟩ := idx_bd (W := W) (T := T) g1 g2 g3 g4
      have i3 : (k / W + dyOf way) * W ≤ 100000 := by omega
      have HIN := Lib.hid hin; clear hin
      go_enter Try.func73, Try.ntmps73
      go_wp2_with fail
      refine (stepOf_any _ _).mono ?_; rintro e w1 ⟨rfl, rfl⟩
      rw [ho, ← hwA]
      clear hwA
      go_wp2
      go_quiet (fail)
      have pq : (wA.drewN nq).heap[w.heap.size]? = some _ := pA
      obtain ⟨q0, q1, q2⟩ := cells3 pq
      go_wp2_with fail
      refine (inField_is _ _ _ _ _ _ HIN.out).mono ?_; rintro e w2 ⟨rfl, hb2⟩
      have p2 := heap_later pq hb2
      obtain ⟨c0, c1, c2⟩ := cells3 p2
      go_wp2_with fail
      refine (cellAt_any _ _ _ _ (.bool false) _ _ _ _ g1 (by omega) i0 i3).mono ?_; rintro e w3 ⟨rfl, hb3⟩
      go_wp2
      go_ret
      exact ⟨ret_int HE.out, below_seq bA (below_seq (drewN_below _ _) (below_seq hb2 hb3))⟩
  · have hr : cellB W T n k way = -1 := by
      unfold cellB
      by_cases hk : 0 ≤ k ∧ k < n
      · rw [if_pos hk]
        cases ho : okOf way
        · exact step_bad ho
        · exact absurd ⟨ho, hk⟩ hg
      · rw [if_neg hk]
    rw [hr]
    clear hr
    cases ho : okOf way
    · go_enter Try.func73, Try.ntmps73
      go_wp2_with fail
      refine (stepOf_any _ _).mono ?_; rintro e w1 ⟨rfl, rfl⟩
      go_wp2
      go_ret
      exact ⟨rfl, below1 _ _⟩
    · by_cases h0 : k < 0
      · go_enter Try.func73, Try.ntmps73
        go_wp2_with fail
        refine (stepOf_any _ _).mono ?_; rintro e w1 ⟨rfl, rfl⟩
        go_wp2
        go_ret
        exact ⟨rfl, below1 _ _⟩
      · have h1 : (n : Int) ≤ k := by
          apply Classical.byContradiction; intro hc
          exact hg ⟨ho, by omega, by omega⟩
        have h0' : 0 ≤ k := by omega
        clear hg
        go_enter Try.func73, Try.ntmps73
        go_wp2_with fail
        refine (stepOf_any _ _).mono ?_; rintro e w1 ⟨rfl, rfl⟩
        go_wp2
        go_ret
        exact ⟨rfl, below1 _ _⟩

/-- The cell beside one, or -1, in any region. -/
def stepTo (W T : Int) (xs : List Bool) (k way : Int) : Int := if rv W T xs then cellB W T xs.length k way else -1

end Go.Proofs.Ythpifnjoiklgnaa

namespace Go.Proofs.Ythpifnjoiklgnaa
open Go.RowKit
set_option linter.unusedVariables false
set_option maxRecDepth 100000
set_option linter.unusedSimpArgs false

set_option maxHeartbeats 1000000 in
theorem l2Step_any (W T : Int) (a : Option Addr) (n cap : Nat) (k way : Int) (w : World) (hW0 : 1 ≤ W) (hW1 : W ≤ 6) (hT0 : 1 ≤ T) (hT1 : T ≤ 6) (h0 : 0 ≤ k) (h1 : k < W * T) :
    Calls Try.prog 61 #[.agg #[.int .i64 W, .int .i64 T, .slice a n cap], .int .i64 k, .int .i64 way] w fun e w' => e = .returned (.int .i64 (stepI W T k way)) ∧ Below w.heap.size w w' := by
  have pb := (prod_bd (W := W) (T := T) (by omega) (by omega) (by omega) (by omega)).2
  obtain ⟨m1, m2, m3, m4, m5⟩ := cell_split (W := W) (T := T) hW0 h0 h1
  have e9 : k ≤ 10000 := by omega
  clear m5 h1
  have hW0' : W ≠ 0 := by omega
  by_cases hw1 : way = 1
  · subst hw1
    by_cases hc : k % W < W - 1
    · have hv : stepI W T k 1 = k + 1 := by simp [stepI, hc]
      rw [hv]; clear hv
      go_enter Try.func61, Try.ntmps61
      go_wp2
      go_quiet (fail)
      go_wp2
      go_ret
      first | exact ⟨rfl, below_seq (below1 _ _) (drewN_below _ _)⟩ | exact ⟨rfl, below_seq (below1 _ _) (below_seq (drewN_below _ _) (drewN_below _ _))⟩
    · have hv : stepI W T k 1 = -1 := by simp [stepI]; omega
      rw [hv]; clear hv
      go_enter Try.func61, Try.ntmps61
      go_wp2
      go_quiet (fail)
      go_wp2
      go_quiet (fail)
      go_wp2
      go_ret
      first | exact ⟨rfl, below_seq (below1 _ _) (drewN_below _ _)⟩ | exact ⟨rfl, below_seq (below1 _ _) (below_seq (drewN_below _ _) (drewN_below _ _))⟩
  by_cases hw2 : way = 2
  · subst hw2
    by_cases hc : k / W < T - 1
    · have hv : stepI W T k 2 = k + W := by simp [stepI, hc]
      rw [hv]; clear hv
      go_enter Try.func61, Try.ntmps61
      go_wp2
      go_quiet (fail)
      go_wp2
      go_quiet (fail)
      go_wp2
      go_ret
      first | exact ⟨rfl, below_seq (below1 _ _) (drewN_below _ _)⟩ | exact ⟨rfl, below_seq (below1 _ _) (below_seq (drewN_below _ _) (drewN_below _ _))⟩
    · have hv : stepI W T k 2 = -1 := by simp [stepI]; omega
      rw [hv]; clear hv
      go_enter Try.func61, Try.ntmps61
      go_wp2
      go_quiet (fail)
      go_wp2
      go_quiet (fail)
      go_wp2
      go_ret
      first | exact ⟨rfl, below_seq (below1 _ _) (drewN_below _ _)⟩ | exact ⟨rfl, below_seq (below1 _ _) (below_seq (drewN_below _ _) (drewN_below _ _))⟩
  by_cases hw3 : way = 3
  · subst hw3
    by_cases hc : 0 < k % W
    · have hv : stepI W T k 3 = k - 1 := by simp [stepI, hc]
      rw [hv]; clear hv
      go_enter Try.func61, Try.ntmps61
      go_wp2
      go_quiet (fail)
      go_wp2
      go_quiet (fail)
      go_wp2
      go_ret
      first | exact ⟨rfl, below_seq (below1 _ _) (drewN_below _ _)⟩ | exact ⟨rfl, below_seq (below1 _ _) (below_seq (drewN_below _ _) (drewN_below _ _))⟩
    · have hv : stepI W T k 3 = -1 := by simp [stepI]; omega
      rw [hv]; clear hv
      go_enter Try.func61, Try.ntmps61
      go_wp2
      go_quiet (fail)
      go_wp2
      go_quiet (fail)
      go_wp2
      go_ret
      first | exact ⟨rfl, below_seq (below1 _ _) (drewN_below _ _)⟩ | exact ⟨rfl, below_seq (below1 _ _) (below_seq (drewN_below _ _) (drewN_below _ _))⟩
  by_cases hw4 : way = 4
  · subst hw4
    by_cases hc : 0 < k / W
    · have hv : stepI W T k 4 = k - W := by simp [stepI, hc]
      rw [hv]; clear hv
      go_enter Try.func61, Try.ntmps61
      go_wp2
      go_quiet (fail)
      go_wp2
      go_quiet (fail)
      go_wp2
      go_ret
      first | exact ⟨rfl, below_seq (below1 _ _) (drewN_below _ _)⟩ | exact ⟨rfl, below_seq (below1 _ _) (below_seq (drewN_below _ _) (drewN_below _ _))⟩
    · have hv : stepI W T k 4 = -1 := by simp [stepI]; omega
      rw [hv]; clear hv
      go_enter Try.func61, Try.ntmps61
      go_wp2
      go_quiet (fail)
      go_wp2
      go_quiet (fail)
      go_wp2
      go_ret
      first | exact ⟨rfl, below_seq (below1 _ _) (drewN_below _ _)⟩ | exact ⟨rfl, below_seq (below1 _ _) (below_seq (drewN_below _ _) (drewN_below _ _))⟩
  have hv : stepI W T k way = -1 := by unfold stepI; rw [if_neg (by omega), if_neg (by omega), if_neg (by omega), if_neg (by omega)]
  rw [hv]; clear hv
  have b1 : (way == 1) = false := by simpa using hw1
  have b2 : (way == 2) = false := by simpa using hw2
  have b3 : (way == 3) = false := by simpa using hw3
  have b4 : (way == 4) = false := by simpa using hw4
  go_enter Try.func61, Try.ntmps61
  go_wp2
  go_quiet (fail)
  go_wp2
  go_quiet (fail)
  go_wp2
  go_ret
  first | exact ⟨rfl, below_seq (below1 _ _) (drewN_below _ _)⟩ | exact ⟨rfl, below_seq (below1 _ _) (below_seq (drewN_below _ _) (drewN_below _ _))⟩

end Go.Proofs.Ythpifnjoiklgnaa
