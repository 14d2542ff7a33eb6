/- Contracts of spec.l1At, impl.hasCell, impl.cellAt, impl.darkAt and of the two functions RegionAt. -/
import Derived.Test.YtpcajacekmidbaaValid
import Derived.Test.YtpcajacekmidbaaOwn
namespace Go.Proofs.Ytpcajacekmidbaa
open Go.RowKit
set_option linter.unusedVariables false
set_option maxRecDepth 100000
set_option linter.unusedSimpArgs false

def inF (W T x y : Int) : Bool := decide (0 ≤ x ∧ x < W ∧ 0 ≤ y ∧ y < T)
def atB (W T : Int) (xs : List Bool) (x y : Int) : Bool := inF W T x y && xs.getD (y * W + x).toNat false

theorem idx_bd {W T x y : Int} (hx0 : 0 ≤ x) (hx1 : x < W) (hy0 : 0 ≤ y) (hy1 : y < T) : 0 ≤ y * W ∧ 0 ≤ y * W + x ∧ y * W + x < W * T := by
  have h1 : 0 ≤ y * W := Int.mul_nonneg hy0 (by omega)
  have h2 : y * W ≤ (T - 1) * W := Int.mul_le_mul_of_nonneg_right (by omega) (by omega)
  have h3 : (T - 1) * W = W * T - W := by rw [Int.sub_mul, Int.mul_comm T W]; omega
  omega

theorem prod_bd {W T : Int} (h0 : 0 ≤ W) (h1 : W ≤ 100) (h2 : 0 ≤ T) (h3 : T ≤ 100) : 0 ≤ W * T ∧ W * T ≤ 10000 := by
  have a : 0 ≤ W * T := Int.mul_nonneg h0 h2
  have b : W * T ≤ 100 * T := Int.mul_le_mul_of_nonneg_right h1 h2
  omega

theorem cellAt_any (W T x y : Int) (sv : Value) (a : Option Addr) (n cap : Nat) (w : World) (hx0 : 0 ≤ x) (hx1 : x ≤ 1000) (hy0 : 0 ≤ y * W) (hy1 : y * W ≤ 100000) :
    Calls Try.prog 112 #[.agg #[.int .i64 W, .int .i64 T, .slice a n cap], .int .i64 x, .int .i64 y] w fun e w' => e = .returned (.int .i64 (y * W + x)) ∧ Below w.heap.size w w' := by
  go_enter Try.func112, Try.ntmps112
  go_wp2
  go_ret
  exact ⟨rfl, below1 _ _⟩

set_option maxHeartbeats 1000000 in
theorem l1At_any (W T x y : Int) (a : Option Addr) (n cap : Nat) (xs : List Bool) (w : World) (hn : n = xs.length) (hW0 : 0 ≤ W) (hW1 : W ≤ 100) (hT0 : 0 ≤ T) (hT1 : T ≤ 100) (hWT : (n : Int) = W * T) (ha : BoolsAt w a xs) :
    Calls Try.prog 163 #[.agg #[.int .i64 W, .int .i64 T, .slice a n cap], .int .i64 x, .int .i64 y] w fun e w' => e = .returned (.bool (atB W T xs x y)) ∧ Below w.heap.size w w' := by
  have HN := Lib.hid hn; clear hn
  have HA := Lib.hid ha; clear ha
  have HWT := Lib.hid hWT; clear hWT
  by_cases h1 : inB x 0 (W - 1) = true
  · by_cases h2 : inB y 0 (T - 1) = true
    · have ⟨h1a, h1b⟩ : 0 ≤ x ∧ x ≤ W - 1 := by simpa [inB] using h1
      have ⟨h2a, h2b⟩ : 0 ≤ y ∧ y ≤ T - 1 := by simpa [inB] using h2
      obtain ⟨i0, i1, i2⟩ := idx_bd (W := W) (T := T) h1a (by omega) h2a (by omega)
      have pb := (prod_bd hW0 hW1 hT0 hT1).2
      have i3 : y * W + x < n := by rw [HWT.out]; exact i2
      obtain ⟨b, off, rfl, hc⟩ := HA.out (y * W + x).toNat (by rw [← HN.out]; omega)
      have hin : Hid (inF W T x y = true) := by show inF W T x y = true; simp [inF]; omega
      have hl := World.block_lt_of_cell? w _ hc
      simp only at hl
      go_enter Try.func163, Try.ntmps163
      go_wp2_with (first
          | (go_at_call 51; refine (l1In_any _ _ _ _).mono ?_; rintro e w1 ⟨rfl, rfl⟩))
      go_ret
      exact ⟨ret_bool (by unfold atB; rw [hin.out]; rfl), below1 _ _⟩
    · rw [Bool.not_eq_true] at h2
      have hin : Hid (inF W T x y = false) := by show inF W T x y = false; simp [inB] at h2; simp [inF]; omega
      go_enter Try.func163, Try.ntmps163
      go_wp2_with (first
          | (go_at_call 51; refine (l1In_any _ _ _ _).mono ?_; rintro e w1 ⟨rfl, rfl⟩))
      go_ret
      exact ⟨ret_bool (by unfold atB; rw [hin.out]; rfl), below1 _ _⟩
  · rw [Bool.not_eq_true] at h1
    have hin : Hid (inF W T x y = false) := by show inF W T x y = false; simp [inB] at h1; simp [inF]; omega
    go_enter Try.func163, Try.ntmps163
    go_wp2_with (first
          | (go_at_call 51; refine (l1In_any _ _ _ _).mono ?_; rintro e w1 ⟨rfl, rfl⟩))
    go_ret
    exact ⟨ret_bool (by unfold atB; rw [hin.out]; rfl), below1 _ _⟩

theorem inField_any (W T x y : Int) (sl : Value) (w : World) :
    Calls Try.prog 111 #[.agg #[.int .i64 W, .int .i64 T, sl], .int .i64 x, .int .i64 y] w fun e w' => e = .returned (.bool (inF W T x y)) ∧ Below w.heap.size w w' := by
  by_cases h1 : 0 ≤ x
  · by_cases h2 : x < W
    · by_cases h3 : 0 ≤ y
      · by_cases h4 : y < T
        all_goals
          go_enter Try.func111, Try.ntmps111
          go_wp2
          go_ret
          exact ⟨ret_bool (by simp [inF]; omega), below1 _ _⟩
      · go_enter Try.func111, Try.ntmps111
        go_wp2
        go_ret
        exact ⟨ret_bool (by simp [inF]; omega), below1 _ _⟩
    · go_enter Try.func111, Try.ntmps111
      go_wp2
      go_ret
      exact ⟨ret_bool (by simp [inF]; omega), below1 _ _⟩
  · go_enter Try.func111, Try.ntmps111
    go_wp2
    go_ret
    exact ⟨ret_bool (by simp [inF]; omega), below1 _ _⟩

theorem inField_is (W T x y : Int) (sl : Value) (w : World) {v : Bool} (h : inF W T x y = v) :
    Calls Try.prog 111 #[.agg #[.int .i64 W, .int .i64 T, sl], .int .i64 x, .int .i64 y] w fun e w' => e = .returned (.bool v) ∧ Below w.heap.size w w' := by
  subst h; exact inField_any W T x y sl w

set_option maxHeartbeats 1000000 in
theorem hasCell_any (W T x y : Int) (a : Option Addr) (n cap : Nat) (xs : List Bool) (w : World) (hn : n = xs.length) (hW0 : 0 ≤ W) (hW1 : W ≤ 100) (hT0 : 0 ≤ T) (hT1 : T ≤ 100) (hWT : (n : Int) = W * T) (ha : BoolsAt w a xs) :
    Calls Try.prog 133 #[.agg #[.int .i64 W, .int .i64 T, .slice a n cap], .int .i64 x, .int .i64 y] w fun e w' => e = .returned (.bool (atB W T xs x y)) ∧ Below w.heap.size w w' := by
  have HN := Lib.hid hn; clear hn
  have HA := Lib.hid ha; clear ha
  have HWT := Lib.hid hWT; clear hWT
  by_cases hin : inF W T x y = true
  · have ⟨h1, h2, h3, h4⟩ : 0 ≤ x ∧ x < W ∧ 0 ≤ y ∧ y < T := by simpa [inF] using hin
    obtain ⟨i0, i1, i2⟩ := idx_bd (W := W) (T := T) (x := x) (y := y) (by omega) (by omega) (by omega) (by omega)
    have pb := (prod_bd hW0 hW1 hT0 hT1).2
    have i3 : y * W + x < n := by rw [HWT.out]; exact i2
    obtain ⟨b, off, rfl, hc⟩ := HA.out (y * W + x).toNat (by rw [← HN.out]; omega)
    have hl := World.block_lt_of_cell? w _ hc
    simp only at hl
    go_enter Try.func133, Try.ntmps133
    go_wp2_with fail
    obtain ⟨wA, hwA⟩ : ∃ wA, wA = w.alloc (.cells #[.int .i64 W, .int .i64 T, .slice (some ⟨b, off, none⟩) n cap] 25) := ⟨_, rfl⟩
    have pA : wA.heap[w.heap.size]? = some (.cells #[.int .i64 W, .int .i64 T, .slice (some ⟨b, off, none⟩) n cap] 25 (0, 0)) := by rw [hwA]; exact heap_new _ _
    have bA : Below w.heap.size w wA := by rw [hwA]; exact below1 _ _
    have cA : wA.cell? ⟨b, off + (y * W + x).toNat, none⟩ = some (.bool (xs.getD (y * W + x).toNat false)) := (bA.cell (p := ⟨b, _, none⟩) hl).trans hc
    rw [← hwA]
    clear hwA hc
    obtain ⟨d0, d1, d2⟩ := cells3 pA
    have lA := heap_lt pA
    go_region_held3 (fun w' => w'.cell? ⟨w.heap.size, 0, none⟩ = some (.int .i64 W) ∧ w'.cell? ⟨w.heap.size, 1, none⟩ = some (.int .i64 T) ∧ w'.cell? ⟨w.heap.size, 2, none⟩ = some (.slice (some ⟨b, off, none⟩) n cap) ∧ w'.cell? ⟨b, off + (y * W + x).toNat, none⟩ = some (.bool (xs.getD (y * W + x).toNat false)))
      (go_keep)
      (first
        | (go_at_call 111; refine (inField_is _ _ _ _ _ _ hin).mono ?_; rintro e w5 ⟨rfl, hb5⟩; have p5 := heap_later (show (World.drew wA).heap[w.heap.size]? = some _ from pA) hb5; obtain ⟨c50, c51, c52⟩ := cells3 p5; have k5 := cell_later hb5 (show (World.drew wA).cell? _ = some _ from cA))
        | (go_at_call 112; refine (cellAt_any _ _ _ _ (.bool false) _ _ _ _ (by omega) (by omega) (by omega) (by omega)).mono ?_; rintro e w6 ⟨rfl, hb6⟩; have p6 := heap_later p5 hb6; obtain ⟨c60, c61, c62⟩ := cells3 p6; have k6 := cell_later hb6 k5))
    go_wp2
    go_ret
    exact ⟨ret_bool (by unfold atB; rw [hin]; simp), below_seq bA (below_seq (drew_below _) (below_seq hb5 hb6))⟩
  · rw [Bool.not_eq_true] at hin
    go_enter Try.func133, Try.ntmps133
    go_wp2_with fail
    obtain ⟨wA, hwA⟩ : ∃ wA, wA = w.alloc (.cells #[.int .i64 W, .int .i64 T, .slice a n cap] 25) := ⟨_, rfl⟩
    have pA : wA.heap[w.heap.size]? = some (.cells #[.int .i64 W, .int .i64 T, .slice a n cap] 25 (0, 0)) := by rw [hwA]; exact heap_new _ _
    have bA : Below w.heap.size w wA := by rw [hwA]; exact below1 _ _
    rw [← hwA]
    clear hwA
    obtain ⟨d0, d1, d2⟩ := cells3 pA
    have lA := heap_lt pA
    refine wp_region_held_drew (S := fun w' => w'.cell? ⟨w.heap.size, 0, none⟩ = some (.int .i64 W) ∧ w'.cell? ⟨w.heap.size, 1, none⟩ = some (.int .i64 T) ∧ w'.cell? ⟨w.heap.size, 2, none⟩ = some (.slice a n cap)) (by kernel_rfl) ⟨d0, d1, d2⟩ (fun hHeld => ?_)
    refine wpAnyH_take (i := 0) (oi := ⟨some 7, _, _, _, _, _⟩) (v := ?_) rfl (by kernel_rfl) (by kernel_rfl) (by kernel_rfl) (fun _ _ _ h => h) (Or.inl ⟨by rfl, ?_⟩) (by assumption) ?_
    rotate_left
    · intro w hSw; go_simp; try (with_reducible rfl)
    try simp only [Act.put, List.setIfInBounds_toArray, List.set_cons_zero, List.set_cons_succ]
    refine wpAnyH_take (i := 1) (oi := ⟨some 8, _, _, _, _, _⟩) (v := ?_) rfl (by kernel_rfl) (by kernel_rfl) (by kernel_rfl) (fun _ _ _ h => h) (Or.inl ⟨by rfl, ?_⟩) (by assumption) ?_
    rotate_left
    · intro w hSw; go_simp; try (with_reducible rfl)
    try simp only [Act.put, List.setIfInBounds_toArray, List.set_cons_zero, List.set_cons_succ]
    refine wpAnyH_take (i := 2) (oi := ⟨some 9, _, _, _, _, _⟩) (v := ?_) rfl (by kernel_rfl) (by kernel_rfl) (by kernel_rfl) (fun _ _ _ h => h) (Or.inl ⟨by rfl, ?_⟩) (by assumption) ?_
    rotate_left
    · intro w hSw; go_simp; try (with_reducible rfl)
    try simp only [Act.put, List.setIfInBounds_toArray, List.set_cons_zero, List.set_cons_succ]
    refine wpAnyH_ready (rs := [3]) (by kernel_rfl) (by simp) ?_
    refine AllReadyH.cons rfl (fun K hK => ?_) AllReadyH.nil
    go_simp
    refine (inField_is _ _ _ _ _ _ hin).mono ?_; rintro e w5 ⟨rfl, hb5⟩; have p5 := heap_later (show (World.drew wA).heap[w.heap.size]? = some _ from pA) hb5; obtain ⟨c50, c51, c52⟩ := cells3 p5
    refine hK.out _ _ ⟨c50, c51, c52⟩ (fun hHeld => ?_)
    clear hK K
    try simp only [Act.put, List.setIfInBounds_toArray, List.set_cons_zero, List.set_cons_succ]
    refine wpAnyH_take (i := 4) (oi := ⟨some 11, _, _, _, _, _⟩) (v := ?_) rfl (by kernel_rfl) (by kernel_rfl) (by kernel_rfl) (fun _ _ _ h => h) (Or.inl ⟨by rfl, ?_⟩) (by assumption) ?_
    rotate_left
    · intro w hSw; go_simp; try (with_reducible rfl)
    try simp only [Act.put, List.setIfInBounds_toArray, List.set_cons_zero, List.set_cons_succ]
    refine wpAnyH_take (i := 5) (oi := ⟨some 12, _, _, _, _, _⟩) (v := undef) rfl (by kernel_rfl) (by kernel_rfl) (by kernel_rfl) (fun _ _ _ h => h) (Or.inr ⟨by kernel_rfl, rfl⟩) (by assumption) ?_
    try simp only [Act.put, List.setIfInBounds_toArray, List.set_cons_zero, List.set_cons_succ]
    refine wpAnyH_take (i := 6) (oi := ⟨some 13, _, _, _, _, _⟩) (v := undef) rfl (by kernel_rfl) (by kernel_rfl) (by kernel_rfl) (fun _ _ _ h => h) (Or.inr ⟨by kernel_rfl, rfl⟩) (by assumption) ?_
    try simp only [Act.put, List.setIfInBounds_toArray, List.set_cons_zero, List.set_cons_succ]
    refine wpAnyH_take (i := 7) (oi := ⟨some 14, _, _, _, _, _⟩) (v := undef) rfl (by kernel_rfl) (by kernel_rfl) (by kernel_rfl) (fun _ _ _ h => h) (Or.inr ⟨by kernel_rfl, rfl⟩) (by assumption) ?_
    try simp only [Act.put, List.setIfInBounds_toArray, List.set_cons_zero, List.set_cons_succ]
    refine wpAnyH_take (i := 8) (oi := ⟨some 15, _, _, _, _, _⟩) (v := undef) rfl (by kernel_rfl) (by kernel_rfl) (by kernel_rfl) (fun _ _ _ h => h) (Or.inr ⟨by kernel_rfl, rfl⟩) (by assumption) ?_
    try simp only [Act.put, List.setIfInBounds_toArray, List.set_cons_zero, List.set_cons_succ]
    refine wpAnyH_take (i := 9) (oi := ⟨some 16, _, _, _, _, _⟩) (v := undef) rfl (by kernel_rfl) (by kernel_rfl) (by kernel_rfl) (fun _ _ _ h => h) (Or.inr ⟨by kernel_rfl, rfl⟩) (by assumption) ?_
    try simp only [Act.put, List.setIfInBounds_toArray, List.set_cons_zero, List.set_cons_succ]
    refine wpAnyH_take (i := 10) (oi := ⟨some 17, _, _, _, _, _⟩) (v := undef) rfl (by kernel_rfl) (by kernel_rfl) (by kernel_rfl) (fun _ _ _ h => h) (Or.inr ⟨by kernel_rfl, rfl⟩) (by assumption) ?_
    try simp only [Act.put, List.setIfInBounds_toArray, List.set_cons_zero, List.set_cons_succ]
    refine wpAnyH_take (i := 11) (oi := ⟨some 18, _, _, _, _, _⟩) (v := undef) rfl (by kernel_rfl) (by kernel_rfl) (by kernel_rfl) (fun _ _ _ h => h) (Or.inr ⟨by kernel_rfl, rfl⟩) (by assumption) ?_
    try simp only [Act.put, List.setIfInBounds_toArray, List.set_cons_zero, List.set_cons_succ]
    refine wpAnyH_take (i := 12) (oi := ⟨some 19, _, _, _, _, _⟩) (v := undef) rfl (by kernel_rfl) (by kernel_rfl) (by kernel_rfl) (fun _ _ _ h => h) (Or.inr ⟨by kernel_rfl, rfl⟩) (by assumption) ?_
    try simp only [Act.put, List.setIfInBounds_toArray, List.set_cons_zero, List.set_cons_succ]
    refine wpAnyH_take (i := 13) (oi := ⟨some 20, _, _, _, _, _⟩) (v := ?_) rfl (by kernel_rfl) (by kernel_rfl) (by kernel_rfl) (fun _ _ _ h => h) (Or.inl ⟨by rfl, ?_⟩) (by assumption) ?_
    rotate_left
    · intro w hSw; go_simp; try (with_reducible rfl)
    try simp only [Act.put, List.setIfInBounds_toArray, List.set_cons_zero, List.set_cons_succ]
    refine wpAnyH_take (i := 14) (oi := ⟨some 6, _, _, _, _, _⟩) (v := ?_) rfl (by kernel_rfl) (by kernel_rfl) (by kernel_rfl) (fun _ _ _ h => h) (Or.inl ⟨by rfl, ?_⟩) (by assumption) ?_
    rotate_left
    · intro w hSw; go_simp; try (with_reducible rfl)
    try simp only [Act.put, List.setIfInBounds_toArray, List.set_cons_zero, List.set_cons_succ]
    refine wpAnyH_done (by kernel_rfl) ?_ _
    go_wp2
    go_ret
    exact ⟨ret_bool (by unfold atB; rw [hin]; rfl), below_seq bA (below_seq (drew_below _) hb5)⟩

theorem rv_true {W T : Int} {xs : List Bool} (h : rv W T xs = true) : 1 ≤ W ∧ W ≤ 6 ∧ 1 ≤ T ∧ T ≤ 6 ∧ (xs.length : Int) = W * T ∧ cnt xs ≤ 24 := by simpa [rv] using h

def rAt (W T : Int) (xs : List Bool) (x y : Int) : Bool := rv W T xs && atB W T xs x y

end Go.Proofs.Ytpcajacekmidbaa
