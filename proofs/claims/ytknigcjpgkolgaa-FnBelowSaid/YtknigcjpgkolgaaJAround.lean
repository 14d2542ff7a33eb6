/- Contract of impl.cellsAround. -/
import Derived.Test.YtknigcjpgkolgaaJLaid
import Derived.Test.YtknigcjpgkolgaaJSetS
namespace Go.Proofs.Ytknigcjpgkolgaa
open Go.RowKit
set_option linter.unusedVariables false
set_option maxRecDepth 100000
set_option linter.unusedSimpArgs false

end Go.Proofs.Ytknigcjpgkolgaa

namespace Go.Proofs.Ytknigcjpgkolgaa
open Go.RowKit
set_option linter.unusedVariables false
set_option maxRecDepth 100000
set_option linter.unusedSimpArgs false

end Go.Proofs.Ytknigcjpgkolgaa

namespace Go.Proofs.Ytknigcjpgkolgaa
open Go.RowKit
set_option linter.unusedVariables false
set_option maxRecDepth 100000
set_option linter.unusedSimpArgs false

/-- What the loop has copied behind k rounds. -/
def part (xs : List Bool) (k : Nat) : List Bool := (List.range xs.length).map fun i => decide (i < k) && xs.getD i false

end Go.Proofs.Ytknigcjpgkolgaa

namespace Go.Proofs.Ytknigcjpgkolgaa
open Go.RowKit
set_option linter.unusedVariables false
set_option maxRecDepth 100000
set_option linter.unusedSimpArgs false

/-- The marks of n entries, counted from k. -/
def marks (n : Nat) (k : Int) : List Bool := (List.range n).map fun i : Nat => (k + (i : Int)) % 3 == 0
def marked (xs : List Bool) (j : Nat) (k : Int) : List Bool := (List.range xs.length).map fun i : Nat => if i < j then (k + (i : Int)) % 3 == 0 else xs.getD i false
end Go.Proofs.Ytknigcjpgkolgaa

namespace Go.Proofs.Ytknigcjpgkolgaa
open Go.RowKit
set_option linter.unusedVariables false
set_option maxRecDepth 100000
set_option linter.unusedSimpArgs false

theorem tab_getD {N : Nat} (f : Nat → Bool) {i : Nat} (h : i < N) : (tab N f).getD i false = f i := by simp [tab, h]
end Go.Proofs.Ytknigcjpgkolgaa

namespace Go.Proofs.Ytknigcjpgkolgaa
open Go.RowKit
set_option linter.unusedVariables false
set_option maxRecDepth 100000

theorem heap_new2 (w : World) (o1 o2 : Obj) : ((w.alloc o1).alloc o2).heap[w.heap.size + 1]? = some o2 := by simpa using heap_new (w.alloc o1) o2
end Go.Proofs.Ytknigcjpgkolgaa

namespace Go.Proofs.Ytknigcjpgkolgaa
open Go.RowKit
set_option linter.unusedVariables false
set_option maxRecDepth 100000
set_option linter.unusedSimpArgs false

section
variable (N : Nat) (s : Nat → Bool) (adj : Nat → Nat → Bool)
/-- What is reached from i in t steps. -/
def reachT (i : Nat) : Nat → Nat → Bool
  | 0, k => k == i && s k
  | t + 1, k => reachT i t k || (s k && (List.range N).any fun j => reachT i t j && adj j k)

variable {N s adj}
theorem Conn.left {i k : Nat} (h : Conn N s adj i k) : i < N ∧ s i = true := by
  induction h with
  | refl h1 h2 => exact ⟨h1, h2⟩
  | step _ _ _ _ ih => exact ih
theorem reachT_mono (i t k : Nat) (h : reachT N s adj i t k = true) : reachT N s adj i (t + 1) k = true := by
  simp [reachT, h]
theorem reachT_le {i t t' k : Nat} (ht : t ≤ t') (h : reachT N s adj i t k = true) : reachT N s adj i t' k = true := by
  induction ht with
  | refl => exact h
  | step _ ih => exact reachT_mono _ _ _ ih
theorem reachT_conn {i t k : Nat} (hi : i < N) (hk : k < N) (h : reachT N s adj i t k = true) : Conn N s adj i k := by
  induction t generalizing k with
  | zero =>
    simp only [reachT, Bool.and_eq_true, beq_iff_eq] at h
    obtain ⟨rfl, h⟩ := h
    exact .refl hk h
  | succ t ih =>
    simp only [reachT, Bool.or_eq_true, Bool.and_eq_true, List.any_eq_true, List.mem_range] at h
    rcases h with h | ⟨h1, j, hj, h2, h3⟩
    · exact ih hk h
    · exact .step (ih hj h2) h3 hk h1

def sizeT (N : Nat) (f : Nat → Bool) : Nat := (List.range N).countP f
theorem sizeT_le (N : Nat) (f : Nat → Bool) : sizeT N f ≤ N := by
  have := List.countP_le_length (p := f) (l := List.range N)
  rwa [List.length_range] at this
theorem countP_eq_of {α : Type} (l : List α) (p q : α → Bool) (h : ∀ x ∈ l, p x = true → q x = true) (e : l.countP p = l.countP q) : ∀ x ∈ l, q x = true → p x = true := by
  intro x hx hq
  cases hp : p x
  · have := countP_lt l p q h x hx hp hq; omega
  · rfl

/-- Either the sets have stopped growing before t, or there are more than t of them. -/
theorem reach_grow {i : Nat} (hi : i < N) (hs : s i = true) (t : Nat) : (∃ t' , t' < t ∧ ∀ k, k < N → reachT N s adj i (t' + 1) k = true → reachT N s adj i t' k = true) ∨ t + 1 ≤ sizeT N (reachT N s adj i t) := by
  induction t with
  | zero =>
    right
    have : 0 < (List.range N).countP (reachT N s adj i 0) := by
      rw [List.countP_pos_iff]
      exact ⟨i, List.mem_range.2 hi, by simp [reachT, hs]⟩
    exact this
  | succ t ih =>
    rcases ih with ⟨t', h1, h2⟩ | h
    · exact Or.inl ⟨t', by omega, h2⟩
    · by_cases hst : ∀ k, k < N → reachT N s adj i (t + 1) k = true → reachT N s adj i t k = true
      · exact Or.inl ⟨t, by omega, hst⟩
      · right
        have : ∃ k, k < N ∧ reachT N s adj i (t + 1) k = true ∧ reachT N s adj i t k = false := by
          apply Classical.byContradiction; intro hc
          exact hst fun k hk h1 => by
            cases hb : reachT N s adj i t k
            · exact absurd ⟨k, hk, h1, hb⟩ hc
            · rfl
        obtain ⟨k, hk, h1, h2⟩ := this
        have := countP_lt (List.range N) (reachT N s adj i t) (reachT N s adj i (t + 1)) (fun x _ => reachT_mono i t x) k (List.mem_range.2 hk) h2 h1
        unfold sizeT at h ⊢; omega
theorem reach_stable {i t : Nat} (h : ∀ k, k < N → reachT N s adj i (t + 1) k = true → reachT N s adj i t k = true) {k : Nat} (hi : reachT N s adj i t i = true) (hc : Conn N s adj i k) : reachT N s adj i t k = true := by
  induction hc with
  | refl _ _ => exact hi
  | step hij a b c ih =>
    rename_i j k'
    refine h _ b ?_
    have hj := hij.right
    simp only [reachT, Bool.or_eq_true, Bool.and_eq_true, List.any_eq_true, List.mem_range]
    exact Or.inr ⟨c, j, hj.1, ih, a⟩
/-- What hangs together is reached in N steps. -/
theorem conn_reach {i k : Nat} (hc : Conn N s adj i k) : reachT N s adj i N k = true := by
  obtain ⟨hi, hs⟩ := hc.left
  rcases reach_grow (adj := adj) hi hs N with ⟨t, h1, h2⟩ | h
  · have h0 : reachT N s adj i t i = true := reachT_le (Nat.zero_le t) (by simp [reachT, hs])
    exact reachT_le (by omega) (reach_stable h2 h0 hc)
  · have := sizeT_le N (reachT N s adj i N); omega

/-- The marks of a field: each cell of the set has the least one that it hangs together with. -/
def Marks (N : Nat) (s : Nat → Bool) (adj : Nat → Nat → Bool) (ys : List Int) : Prop :=
  ys.length = N ∧ ∀ k, k < N → (s k = false → ys.getD k 0 = -1) ∧ (s k = true → ∃ j : Nat, ys.getD k 0 = j ∧ Conn N s adj j k ∧ ∀ i, Conn N s adj i k → j ≤ i)
theorem marks_unique {ys zs : List Int} (h : Marks N s adj ys) (h2 : Marks N s adj zs) : ys = zs := by
  apply List.ext_getElem
  · rw [h.1, h2.1]
  · intro k a b
    have hk : k < N := by rw [← h.1]; exact a
    have e1 : ys.getD k 0 = ys[k] := by simp [a]
    have e2 : zs.getD k 0 = zs[k] := by simp [b]
    rw [← e1, ← e2]
    obtain ⟨p1, p2⟩ := h.2 k hk
    obtain ⟨q1, q2⟩ := h2.2 k hk
    cases hs : s k
    · rw [p1 hs, q1 hs]
    · obtain ⟨j, r1, r2, r3⟩ := p2 hs
      obtain ⟨j', t1, t2, t3⟩ := q2 hs
      have := r3 _ t2
      have := t3 _ r2
      rw [r1, t1]; omega
end

end Go.Proofs.Ytknigcjpgkolgaa

namespace Go.Proofs.Ytknigcjpgkolgaa
open Go.RowKit
set_option linter.unusedVariables false
set_option maxRecDepth 100000

section
variable {P : Program} {ops : Array Oper} {Q : Exit → Act → World → Prop} {md : Region.Mode} {S : World → Prop} {L : Nat}

end
end Go.Proofs.Ytknigcjpgkolgaa

namespace Go.Proofs.Ytknigcjpgkolgaa
open Go.RowKit
set_option linter.unusedVariables false
set_option maxRecDepth 100000

section
variable {P : Program} {ops : Array Oper} {Q : Exit → Act → World → Prop} {md : Region.Mode} {S : World → Prop} {L : Nat}

end
end Go.Proofs.Ytknigcjpgkolgaa

namespace Go.Proofs.Ytknigcjpgkolgaa
open Go.RowKit
set_option linter.unusedVariables false
set_option maxRecDepth 100000

section
variable {P : Program} {ops : Array Oper} {Q : Exit → Act → World → Prop} {md : Region.Mode}

end
end Go.Proofs.Ytknigcjpgkolgaa

namespace Go.Proofs.Ytknigcjpgkolgaa
open Go.RowKit
set_option linter.unusedVariables false
set_option maxRecDepth 100000
set_option linter.unusedSimpArgs false

set_option maxHeartbeats 1000000 in
theorem hasCell_any (W T x y : Int) (a : Option Addr) (n cap : Nat) (xs : List Bool) (w : World) (hn : n = xs.length) (hW0 : 0 ≤ W) (hW1 : W ≤ 100) (hT0 : 0 ≤ T) (hT1 : T ≤ 100) (hWT : (n : Int) = W * T) (ha : BoolsAt w a xs) :
    Calls Try.prog 119 #[.agg #[.int .i64 W, .int .i64 T, .slice a n cap], .int .i64 x, .int .i64 y] w fun e w' => e = .returned (.bool (atB W T xs x y)) ∧ Below w.heap.size w w' := by
  have HN := Lib.hid hn; clear hn
  have HA := Lib.hid ha; clear ha
  have HWT := Lib.hid hWT; clear hWT
  by_cases hin : inF W T x y = true
  · have ⟨h1, h2, h3, h4⟩ : 0 ≤ x ∧ x < W ∧ 0 ≤ y ∧ y < T := by simpa [inF] using hin
    obtain ⟨i0, i1, i2⟩ := idx_bd (W := W) (T := T) (x := x) (y := y) (by omega) (by omega) (by omega) (by omega)
    have pb := (prod_bd hW0 hW1 hT0 hT1).2
    have i3 : y * W + x < n := by rw [HWT.out]; exact i2
    obtain ⟨b, off, rfl, hc⟩ := HA.out (y * W + x).toNat (by rw [← HN.out]; omega)
    have hl := World.block_lt_of_cell? w _ hc
    simp only at hl
    go_enter Try.func119, Try.ntmps119
    go_wp2_with fail
    obtain ⟨wA, hwA⟩ : ∃ wA, wA = w.alloc (.cells #[.int .i64 W, .int .i64 T, .slice (some ⟨b, off, none⟩) n cap] 25) := ⟨_, rfl⟩
    have pA : wA.heap[w.heap.size]? = some (.cells #[.int .i64 W, .int .i64 T, .slice (some ⟨b, off, none⟩) n cap] 25 (0, 0)) := by rw [hwA]; exact heap_new _ _
    have bA : Below w.heap.size w wA := by rw [hwA]; exact below1 _ _
    have cA : wA.cell? ⟨b, off + (y * W + x).toNat, none⟩ = some (.bool (xs.getD (y * W + x).toNat false)) := (bA.cell (p := ⟨b, _, none⟩) hl).trans hc
    rw [← hwA]
    clear hwA hc
    obtain ⟨d0, d1, d2⟩ := cells3 pA
    have lA := heap_lt pA
    go_region_held3 (fun w' => w'.cell? ⟨w.heap.size, 0, none⟩ = some (.int .i64 W) ∧ w'.cell? ⟨w.heap.size, 1, none⟩ = some (.int .i64 T) ∧ w'.cell? ⟨w.heap.size, 2, none⟩ = some (.slice (some ⟨b, off, none⟩) n cap) ∧ w'.cell? ⟨b, off + (y * W + x).toNat, none⟩ = some (.bool (xs.getD (y * W + x).toNat false)))
      (go_keep)
      (first
        | (go_at_call 143; refine (inField_is _ _ _ _ _ _ hin).mono ?_; rintro e w5 ⟨rfl, hb5⟩; have p5 := heap_later (show (World.drew wA).heap[w.heap.size]? = some _ from pA) hb5; obtain ⟨c50, c51, c52⟩ := cells3 p5; have k5 := cell_later hb5 (show (World.drew wA).cell? _ = some _ from cA))
        | (go_at_call 144; refine (cellAt_any _ _ _ _ (.bool false) _ _ _ _ (by omega) (by omega) (by omega) (by omega)).mono ?_; rintro e w6 ⟨rfl, hb6⟩; have p6 := heap_later p5 hb6; obtain ⟨c60, c61, c62⟩ := cells3 p6; have k6 := cell_later hb6 k5))
    go_wp2
    go_ret
    exact ⟨ret_bool (by unfold atB; rw [hin]; simp), below_seq bA (below_seq (drew_below _) (below_seq hb5 hb6))⟩
  · rw [Bool.not_eq_true] at hin
    go_enter Try.func119, Try.ntmps119
    go_wp2_with fail
    obtain ⟨wA, hwA⟩ : ∃ wA, wA = w.alloc (.cells #[.int .i64 W, .int .i64 T, .slice a n cap] 25) := ⟨_, rfl⟩
    have pA : wA.heap[w.heap.size]? = some (.cells #[.int .i64 W, .int .i64 T, .slice a n cap] 25 (0, 0)) := by rw [hwA]; exact heap_new _ _
    have bA : Below w.heap.size w wA := by rw [hwA]; exact below1 _ _
    rw [← hwA]
    clear hwA
    obtain ⟨d0, d1, d2⟩ := cells3 pA
    have lA := heap_lt pA
    refine wp_region_held_drew (S := fun w' => w'.cell? ⟨w.heap.size, 0, none⟩ = some (.int .i64 W) ∧ w'.cell? ⟨w.heap.size, 1, none⟩ = some (.int .i64 T) ∧ w'.cell? ⟨w.heap.size, 2, none⟩ = some (.slice a n cap)) (by kernel_rfl) ⟨d0, d1, d2⟩ (fun hHeld => ?_)
    refine wpAnyH_take (i := 0) (oi := ⟨some 7, _, _, _, _, _⟩) (v := ?_) rfl (by kernel_rfl) (by kernel_rfl) (by kernel_rfl) (fun _ _ _ h => h) (Or.inl ⟨by rfl, ?_⟩) (by assumption) ?_
    rotate_left
    · intro w hSw; go_simp; try (with_reducible rfl)
    try simp only [Act.put, List.setIfInBounds_toArray, List.set_cons_zero, List.set_cons_succ]
    refine wpAnyH_take (i := 1) (oi := ⟨some 8, _, _, _, _, _⟩) (v := ?_) rfl (by kernel_rfl) (by kernel_rfl) (by kernel_rfl) (fun _ _ _ h => h) (Or.inl ⟨by rfl, ?_⟩) (by assumption) ?_
    rotate_left
    · intro w hSw; go_simp; try (with_reducible rfl)
    try simp only [Act.put, List.setIfInBounds_toArray, List.set_cons_zero, List.set_cons_succ]
    refine wpAnyH_take (i := 2) (oi := ⟨some 9, _, _, _, _, _⟩) (v := ?_) rfl (by kernel_rfl) (by kernel_rfl) (by kernel_rfl) (fun _ _ _ h => h) (Or.inl ⟨by rfl, ?_⟩) (by assumption) ?_
    rotate_left
    · intro w hSw; go_simp; try (with_reducible rfl)
    try simp only [Act.put, List.setIfInBounds_toArray, List.set_cons_zero, List.set_cons_succ]
    refine wpAnyH_ready (rs := [3]) (by kernel_rfl) (by simp) ?_
    refine AllReadyH.cons rfl (fun K hK => ?_) AllReadyH.nil
    go_simp
    refine (inField_is _ _ _ _ _ _ hin).mono ?_; rintro e w5 ⟨rfl, hb5⟩; have p5 := heap_later (show (World.drew wA).heap[w.heap.size]? = some _ from pA) hb5; obtain ⟨c50, c51, c52⟩ := cells3 p5
    refine hK.out _ _ ⟨c50, c51, c52⟩ (fun hHeld => ?_)
    clear hK K
    try simp only [Act.put, List.setIfInBounds_toArray, List.set_cons_zero, List.set_cons_succ]
    refine wpAnyH_take (i := 4) (oi := ⟨some 11, _, _, _, _, _⟩) (v := ?_) rfl (by kernel_rfl) (by kernel_rfl) (by kernel_rfl) (fun _ _ _ h => h) (Or.inl ⟨by rfl, ?_⟩) (by assumption) ?_
    rotate_left
    · intro w hSw; go_simp; try (with_reducible rfl)
    try simp only [Act.put, List.setIfInBounds_toArray, List.set_cons_zero, List.set_cons_succ]
    refine wpAnyH_take (i := 5) (oi := ⟨some 12, _, _, _, _, _⟩) (v := undef) rfl (by kernel_rfl) (by kernel_rfl) (by kernel_rfl) (fun _ _ _ h => h) (Or.inr ⟨by kernel_rfl, rfl⟩) (by assumption) ?_
    try simp only [Act.put, List.setIfInBounds_toArray, List.set_cons_zero, List.set_cons_succ]
    refine wpAnyH_take (i := 6) (oi := ⟨some 13, _, _, _, _, _⟩) (v := undef) rfl (by kernel_rfl) (by kernel_rfl) (by kernel_rfl) (fun _ _ _ h => h) (Or.inr ⟨by kernel_rfl, rfl⟩) (by assumption) ?_
    try simp only [Act.put, List.setIfInBounds_toArray, List.set_cons_zero, List.set_cons_succ]
    refine wpAnyH_take (i := 7) (oi := ⟨some 14, _, _, _, _, _⟩) (v := undef) rfl (by kernel_rfl) (by kernel_rfl) (by kernel_rfl) (fun _ _ _ h => h) (Or.inr ⟨by kernel_rfl, rfl⟩) (by assumption) ?_
    try simp only [Act.put, List.setIfInBounds_toArray, List.set_cons_zero, List.set_cons_succ]
    refine wpAnyH_take (i := 8) (oi := ⟨some 15, _, _, _, _, _⟩) (v := undef) rfl (by kernel_rfl) (by kernel_rfl) (by kernel_rfl) (fun _ _ _ h => h) (Or.inr ⟨by kernel_rfl, rfl⟩) (by assumption) ?_
    try simp only [Act.put, List.setIfInBounds_toArray, List.set_cons_zero, List.set_cons_succ]
    refine wpAnyH_take (i := 9) (oi := ⟨some 16, _, _, _, _, _⟩) (v := undef) rfl (by kernel_rfl) (by kernel_rfl) (by kernel_rfl) (fun _ _ _ h => h) (Or.inr ⟨by kernel_rfl, rfl⟩) (by assumption) ?_
    try simp only [Act.put, List.setIfInBounds_toArray, List.set_cons_zero, List.set_cons_succ]
    refine wpAnyH_take (i := 10) (oi := ⟨some 17, _, _, _, _, _⟩) (v := undef) rfl (by kernel_rfl) (by kernel_rfl) (by kernel_rfl) (fun _ _ _ h => h) (Or.inr ⟨by kernel_rfl, rfl⟩) (by assumption) ?_
    try simp only [Act.put, List.setIfInBounds_toArray, List.set_cons_zero, List.set_cons_succ]
    refine wpAnyH_take (i := 11) (oi := ⟨some 18, _, _, _, _, _⟩) (v := undef) rfl (by kernel_rfl) (by kernel_rfl) (by kernel_rfl) (fun _ _ _ h => h) (Or.inr ⟨by kernel_rfl, rfl⟩) (by assumption) ?_
    try simp only [Act.put, List.setIfInBounds_toArray, List.set_cons_zero, List.set_cons_succ]
    refine wpAnyH_take (i := 12) (oi := ⟨some 19, _, _, _, _, _⟩) (v := undef) rfl (by kernel_rfl) (by kernel_rfl) (by kernel_rfl) (fun _ _ _ h => h) (Or.inr ⟨by kernel_rfl, rfl⟩) (by assumption) ?_
    try simp only [Act.put, List.setIfInBounds_toArray, List.set_cons_zero, List.set_cons_succ]
    refine wpAnyH_take (i := 13) (oi := ⟨some 20, _, _, _, _, _⟩) (v := ?_) rfl (by kernel_rfl) (by kernel_rfl) (by kernel_rfl) (fun _ _ _ h => h) (Or.inl ⟨by rfl, ?_⟩) (by assumption) ?_
    rotate_left
    · intro w hSw; go_simp; try (with_reducible rfl)
    try simp only [Act.put, List.setIfInBounds_toArray, List.set_cons_zero, List.set_cons_succ]
    refine wpAnyH_take (i := 14) (oi := ⟨some 6, _, _, _, _, _⟩) (v := ?_) rfl (by kernel_rfl) (by kernel_rfl) (by kernel_rfl) (fun _ _ _ h => h) (Or.inl ⟨by rfl, ?_⟩) (by assumption) ?_
    rotate_left
    · intro w hSw; go_simp; try (with_reducible rfl)
    try simp only [Act.put, List.setIfInBounds_toArray, List.set_cons_zero, List.set_cons_succ]
    refine wpAnyH_done (by kernel_rfl) ?_ _
    go_wp2
    go_ret
    exact ⟨ret_bool (by unfold atB; rw [hin]; rfl), below_seq bA (below_seq (drew_below _) hb5)⟩

end Go.Proofs.Ytknigcjpgkolgaa

namespace Go.Proofs.Ytknigcjpgkolgaa
open Go.RowKit
set_option linter.unusedVariables false
set_option maxRecDepth 100000
set_option linter.unusedSimpArgs false

theorem tabI_congr {N : Nat} {f g : Nat → Int} (h : ∀ i, i < N → f i = g i) : tabI N f = tabI N g := by
  unfold tabI; exact List.map_congr_left fun i hi => h i (List.mem_range.1 hi)

theorem tabI_of (xs : List Int) : tabI xs.length (fun i => xs.getD i 0) = xs := by
  apply List.ext_getElem
  · simp [tabI]
  · intro i h1 h2; simp [tabI, h2]

theorem RowI.of {w : World} {B g N cap : Nat} {xs : List Int} (h : OwnsI w B (.slice (some ⟨g, 0, none⟩) N cap) xs) (hN : N = xs.length) : RowI w B g N cap (fun i => xs.getD i 0) := by
  unfold RowI; subst hN; rw [tabI_of]; exact h

theorem RowI.congr {w : World} {B g N cap : Nat} {f f' : Nat → Int} (h : RowI w B g N cap f) (e : ∀ i, i < N → f i = f' i) : RowI w B g N cap f' := by
  unfold RowI; rw [← tabI_congr e]; exact h

theorem RowI.base {w : World} {B g N cap : Nat} {f : Nat → Int} (h : RowI w B g N cap f) : B ≤ g ∧ g < w.heap.size := World.ownsRow.lt h g rfl

end Go.Proofs.Ytknigcjpgkolgaa

namespace Go.Proofs.Ytknigcjpgkolgaa
open Go.RowKit
set_option linter.unusedVariables false
set_option maxRecDepth 100000

end Go.Proofs.Ytknigcjpgkolgaa

namespace Go.Proofs.Ytknigcjpgkolgaa
open Go.RowKit
set_option linter.unusedVariables false
set_option maxRecDepth 100000
set_option linter.unusedSimpArgs false

end Go.Proofs.Ytknigcjpgkolgaa

namespace Go.Proofs.Ytknigcjpgkolgaa
open Go.RowKit
set_option linter.unusedVariables false
set_option maxRecDepth 100000
set_option linter.unusedSimpArgs false

end Go.Proofs.Ytknigcjpgkolgaa

namespace Go.Proofs.Ytknigcjpgkolgaa
open Go.RowKit
set_option linter.unusedVariables false
set_option maxRecDepth 100000
set_option linter.unusedSimpArgs false

end Go.Proofs.Ytknigcjpgkolgaa

namespace Go.Proofs.Ytknigcjpgkolgaa
open Go.RowKit
set_option linter.unusedVariables false
set_option maxRecDepth 100000
set_option linter.unusedSimpArgs false

end Go.Proofs.Ytknigcjpgkolgaa

namespace Go.Proofs.Ytknigcjpgkolgaa
open Go.RowKit
set_option linter.unusedVariables false
set_option maxRecDepth 100000
set_option linter.unusedSimpArgs false

end Go.Proofs.Ytknigcjpgkolgaa

namespace Go.Proofs.Ytknigcjpgkolgaa
open Go.RowKit
set_option linter.unusedVariables false
set_option maxRecDepth 100000
set_option linter.unusedSimpArgs false

theorem tok_lok {W T : Int} {xs : List Bool} {L : List Int} (h : lok W T xs L = false) : tok W T xs L = false := by unfold tok; rw [h]; rfl
theorem tok_hit {W T : Int} {xs : List Bool} {L : List Int} {k : Nat} (hk : k < L.length) (hn : NoFree xs L 0 k) (hf : freeB xs L k = true) : tok W T xs L = false := by
  unfold tok; rw [first_some (Nat.zero_le _) hk hn hf]; simp
theorem free_off {xs : List Bool} {L : List Int} {k : Nat} (h : xs.getD k false = false) : freeB xs L k = false := by unfold freeB; rw [h]; rfl
theorem free_on {xs : List Bool} {L : List Int} {k : Nat} (h : xs.getD k false = true) {v : Int} (hv : v = L.getD k 0) : freeB xs L k = (v == 0) := by unfold freeB; rw [h, ← hv]; rfl

set_option maxHeartbeats 1000000 in
theorem sTilingOk_any (W T : Int) (a : Option Addr) (n cap : Nat) (xs : List Bool) (la : Option Addr) (m lcap : Nat) (L : List Int) (w : World) (hn : n = xs.length) (hn' : n ≤ 1048576) (hm : m = L.length) (hm' : m ≤ 1048576) (ha : BoolsAt w a xs) (hl : IntsAt w la L) :
    Calls Try.prog 62 #[.agg #[.int .i64 W, .int .i64 T, .slice a n cap], .slice la m lcap] w fun e w' => e = .returned (.bool (tok W T xs L)) ∧ Below w.heap.size w w' := by
  have HN := Lib.hid hn; clear hn
  have HM := Lib.hid hm; clear hm
  have HA := Lib.hid ha; clear ha
  have HL := Lib.hid hl; clear hl
  cases h : lok W T xs L
  · have H := Lib.hid h; clear h
    go_enter Try.func62, Try.ntmps62
    go_wp2_with fail
    refine (sLaidOk_any _ _ _ _ _ xs _ _ _ L _ HN.out hn' HM.out hm' (HA.out.one _) (HL.out.one _)).mono ?_; rintro e w1 ⟨rfl, hb1⟩
    rw [H.out]
    go_wp2
    go_ret
    exact ⟨ret_bool (tok_lok H.out).symm, below_seq (below1 _ _) hb1⟩
  · obtain ⟨h1, h2, h3⟩ := lok_rv h
    have hle : m = n := by rw [HM.out, HN.out]; exact h2
    subst hle
    clear h2 h3
    have H := Lib.hid h; clear h h1
    go_enter Try.func62, Try.ntmps62
    go_wp2_with fail
    refine (sLaidOk_any _ _ _ _ _ xs _ _ _ L _ HN.out hn' HM.out hm' (HA.out.one _) (HL.out.one _)).mono ?_; rintro e w1 ⟨rfl, hb1⟩
    have p1 := heap_later (heap_new w _) hb1
    have b1 := below_seq (below1 w _) hb1
    clear hb1
    rw [H.out]
    obtain ⟨c0, c1, c2⟩ := cells3 p1
    go_wp2
    go_loopw [5] (fun i wr => ∃ k : Nat, k ≤ m ∧ i = .int .i64 k ∧ NoFree xs L 0 k ∧ wr.heap[w.heap.size]? = some (.cells #[.int .i64 W, .int .i64 T, .slice a m cap] 25 (0, 0)) ∧ Below w.heap.size w wr) (fun i _ => m - (intOf i).toNat)
    case atStart => exact ⟨0, Nat.zero_le _, rfl, fun j h1 h2 => by omega, p1, b1⟩
    case round =>
      clear c0 c1 c2
      obtain ⟨k, hk, rfl, hno, hp, hbel⟩ := hrel
      have HNO := Lib.hid hno; clear hno
      by_cases hlt : k < m
      · have AL := HA.out.below hbel
        obtain ⟨b, off, rfl, hx⟩ := AL k (by rw [← HN.out]; exact hlt)
        have IL := HL.out.below hbel
        obtain ⟨lb, lo, rfl, hv⟩ := IL k (by rw [← HM.out]; exact hlt)
        clear AL IL
        have BEL := Lib.hid hbel; clear hbel
        obtain ⟨c0, c1, c2⟩ := cells3 hp
        have e1 : (k : Int) < m := by omega
        have e0 : (0 : Int) ≤ k := by omega
        obtain ⟨lk, hlk⟩ : ∃ lk, lk = L.getD k 0 := ⟨_, rfl⟩
        rw [← hlk] at hv
        cases hxk : xs.getD k false
        · have HF := Lib.hid (free_off (L := L) hxk)
          rw [hxk] at hx
          have HXK := Lib.hid hxk; clear hxk
          have HLK := Lib.hid hlk; clear hlk
          go_wp2
          go_roundw
          case rel => exact ⟨k + 1, by omega, by go_num, HNO.out.step HF.out, hp, BEL.out⟩
          case measure => simp [intOf]; omega
        · have HF := Lib.hid (free_on hxk hlk)
          rw [hxk] at hx
          have HXK := Lib.hid hxk; clear hxk
          have HLK := Lib.hid hlk; clear hlk
          cases hz : (lk == 0)
          · have HZ := Lib.hid (HF.out.trans hz)
            go_wp2
            go_roundw
            case rel => exact ⟨k + 1, by omega, by go_num, HNO.out.step HZ.out, hp, BEL.out⟩
            case measure => simp [intOf]; omega
          · have HZ := Lib.hid (tok_hit (W := W) (T := T) (by rw [← HM.out]; exact hlt) HNO.out (HF.out.trans hz))
            go_wp2
            go_ret
            exact ⟨ret_bool HZ.out.symm, BEL.out⟩
      · obtain rfl : k = m := by omega
        have HZ := Lib.hid (tok_all H.out (by rw [← HM.out]; exact HNO.out))
        go_wp2
        go_ret
        exact ⟨ret_bool HZ.out.symm, hbel⟩

end Go.Proofs.Ytknigcjpgkolgaa

namespace Go.Proofs.Ytknigcjpgkolgaa
open Go.RowKit
set_option linter.unusedVariables false
set_option maxRecDepth 100000
set_option linter.unusedSimpArgs false

end Go.Proofs.Ytknigcjpgkolgaa

namespace Go.Proofs.Ytknigcjpgkolgaa
open Go.RowKit
set_option linter.unusedVariables false
set_option maxRecDepth 100000
set_option linter.unusedSimpArgs false

end Go.Proofs.Ytknigcjpgkolgaa

namespace Go.Proofs.Ytknigcjpgkolgaa
open Go.RowKit
set_option linter.unusedVariables false
set_option maxRecDepth 100000
set_option linter.unusedSimpArgs false

end Go.Proofs.Ytknigcjpgkolgaa

namespace Go.Proofs.Ytknigcjpgkolgaa
open Go.RowKit
set_option linter.unusedVariables false
set_option maxRecDepth 100000
set_option linter.unusedSimpArgs false

/-- Whether the k-th cell is dark, in a field that is W cells wide. -/
def dkAt (W : Int) (k : Nat) : Bool := ((k : Int) % W + (k : Int) / W) % 2 == 0
def dkN (W : Int) (xs : List Bool) (k : Nat) : Nat := (List.range k).countP fun i => xs.getD i false && dkAt W i
def dark (W T : Int) (xs : List Bool) : Int := if rv W T xs then dkN W xs xs.length else -1

theorem divmod_bd {W : Int} {k : Nat} (h : 1 ≤ W) : 0 ≤ (k : Int) % W ∧ (k : Int) % W < W ∧ 0 ≤ (k : Int) / W ∧ (k : Int) / W ≤ k :=
  ⟨Int.emod_nonneg _ (by omega), Int.emod_lt_of_pos _ (by omega), Int.ediv_nonneg (by omega) (by omega), Int.ediv_le_self _ (by omega)⟩

end Go.Proofs.Ytknigcjpgkolgaa

namespace Go.Proofs.Ytknigcjpgkolgaa
open Go.RowKit
set_option linter.unusedVariables false
set_option maxRecDepth 100000
set_option linter.unusedSimpArgs false

theorem bools_one (xs : List Bool) : ∀ v ∈ xs.map Value.bool, v.oneCell' = true := by
  intro v hv
  simp only [List.mem_map] at hv
  obtain ⟨b, _, rfl⟩ := hv
  rfl

theorem src_cells {w : World} {b off : Nat} {xs : List Bool} (h : ∀ i, i < xs.length → w.cell? ⟨b, off + i, none⟩ = some (.bool (xs.getD i false))) :
    ∀ j v, (xs.map Value.bool)[j]? = some v → w.cell? ((⟨b, off, none⟩ : Addr).add j) = some v := by
  intro j v hv
  have hj : j < xs.length := by
    rcases Nat.lt_or_ge j xs.length with h' | h'
    · exact h'
    · rw [List.getElem?_eq_none (by simpa using h')] at hv; cases hv
  have e : (⟨b, off, none⟩ : Addr).add j = ⟨b, off + j, none⟩ := by unfold Addr.add; split <;> simp_all
  rw [e, h j hj]
  simp [hj] at hv
  simp [hj, hv]

theorem BoolsAt.addr {w : World} {a : Option Addr} {xs : List Bool} (h : BoolsAt w a xs) (hp : 0 < xs.length) : ∃ b off, a = some ⟨b, off, none⟩ ∧ ∀ i, i < xs.length → w.cell? ⟨b, off + i, none⟩ = some (.bool (xs.getD i false)) := by
  obtain ⟨b, off, rfl, _⟩ := h 0 hp
  refine ⟨b, off, rfl, fun i hi => ?_⟩
  obtain ⟨b', off', he, hc⟩ := h i hi
  simp only [Option.some.injEq, Addr.mk.injEq, and_true] at he
  obtain ⟨rfl, rfl⟩ := he
  exact hc

end Go.Proofs.Ytknigcjpgkolgaa

namespace Go.Proofs.Ytknigcjpgkolgaa
open Go.RowKit
set_option linter.unusedVariables false
set_option maxRecDepth 100000
set_option linter.unusedSimpArgs false

end Go.Proofs.Ytknigcjpgkolgaa

namespace Go.Proofs.Ytknigcjpgkolgaa
open Go.RowKit
set_option linter.unusedVariables false
set_option maxRecDepth 100000
set_option linter.unusedSimpArgs false

theorem OwnsB.setNe {w : World} {B g n cap : Nat} {xs : List Bool} (h : OwnsB w B (.slice (some ⟨g, 0, none⟩) n cap) xs) {p : Addr} (hp : p.block ≠ g) (x : Value) : OwnsB (w.setCell p x) B (.slice (some ⟨g, 0, none⟩) n cap) xs := by
  rcases h.2 with ⟨h1, _⟩ | ⟨g', cap', cur, h1, hB, hc, r⟩
  · simp at h1
  · have hg : g = g' := by injection h1 with e; injection e with e; injection e
    exact ⟨h.1, Or.inr ⟨g', cap', cur, h1, hB, heap_set_other hc (fun e => hp (by rw [← e, hg])) _, r⟩⟩
theorem OwnsB.set3Ne {w : World} {B g n cap : Nat} {xs : List Bool} (h : OwnsB w B (.slice (some ⟨g, 0, none⟩) n cap) xs) {b : Nat} (hb : b ≠ g) (x y z : Value) : OwnsB (((w.setCell ⟨b, 0, none⟩ x).setCell ⟨b, 1, none⟩ y).setCell ⟨b, 2, none⟩ z) B (.slice (some ⟨g, 0, none⟩) n cap) xs :=
  ((h.setNe (p := ⟨b, 0, none⟩) hb x).setNe (p := ⟨b, 1, none⟩) hb y).setNe (p := ⟨b, 2, none⟩) hb z

theorem emptyRow (w : World) {B : Nat} (hB : B ≤ w.heap.size) : (w.alloc (.cells #[] 4)).ownsRow B 4 1 (.slice (some ⟨w.heap.size, 0, none⟩) 0 0) 0 [] :=
  World.ownsRow_made w #[] 0 hB (Nat.zero_le _) rfl

theorem emptyRowAt (w : World) {B k : Nat} (hk : w.heap.size = k) (hB : B ≤ w.heap.size) : (w.alloc (.cells #[] 4)).ownsRow B 4 1 (.slice (some ⟨k, 0, none⟩) 0 0) 0 [] := by subst hk; exact emptyRow w hB

end Go.Proofs.Ytknigcjpgkolgaa

namespace Go.Proofs.Ytknigcjpgkolgaa
open Go.RowKit
set_option linter.unusedVariables false
set_option maxRecDepth 100000
set_option linter.unusedSimpArgs false



/-- The d-th of the nine places around a cell: column and row from -1 to 1. -/
def dX (d : Nat) : Int := (d % 3 : Nat) - 1
def dY (d : Nat) : Int := (d / 3 : Nat) - 1
def arOk (W T : Int) (xs : List Bool) (x y : Int) (corners : Bool) (d : Nat) : Bool :=
  !(dX d == 0 && dY d == 0) && !(dX d != 0 && dY d != 0 && !corners) && atB W T xs (x + dX d) (y + dY d)
def arList (W T : Int) (xs : List Bool) (x y : Int) (corners : Bool) (D : Nat) : List Int :=
  ((List.range D).filter (arOk W T xs x y corners)).map fun d => (y + dY d) * W + (x + dX d)
theorem arList_succ (W T : Int) (xs : List Bool) (x y : Int) (corners : Bool) (D : Nat) :
    arList W T xs x y corners (D + 1) = arList W T xs x y corners D ++ if arOk W T xs x y corners D then [(y + dY D) * W + (x + dX D)] else [] := by
  unfold arList
  rw [List.range_succ, List.filter_append, List.map_append]
  congr 1
  by_cases h : arOk W T xs x y corners D = true
  · simp [h]
  · rw [Bool.not_eq_true] at h; simp [h]
theorem arList_len (W T : Int) (xs : List Bool) (x y : Int) (corners : Bool) (D : Nat) : (arList W T xs x y corners D).length ≤ D := by
  unfold arList
  rw [List.length_map]
  have := List.length_filter_le (arOk W T xs x y corners) (List.range D)
  rw [List.length_range] at this; exact this

theorem dX_at {j i : Nat} (h : i < 3) : dX (3 * j + i) = (i : Int) - 1 := by
  unfold dX; rw [Nat.mul_add_mod, Nat.mod_eq_of_lt h]
theorem dY_at {j i : Nat} (h : i < 3) : dY (3 * j + i) = (j : Int) - 1 := by
  unfold dY; rw [Nat.mul_add_div (by omega), Nat.div_eq_of_lt h]; simp
theorem arList_skip {W T : Int} {xs : List Bool} {x y : Int} {corners : Bool} {D : Nat} (h : arOk W T xs x y corners D = false) : arList W T xs x y corners (D + 1) = arList W T xs x y corners D := by
  rw [arList_succ, h]; simp
theorem arList_take {W T : Int} {xs : List Bool} {x y : Int} {corners : Bool} {D : Nat} (h : arOk W T xs x y corners D = true) : arList W T xs x y corners (D + 1) = arList W T xs x y corners D ++ [(y + dY D) * W + (x + dX D)] := by
  rw [arList_succ, h]; simp

set_option maxHeartbeats 8000000 in
theorem cellsAround_any (W T : Int) (a : Option Addr) (n cap : Nat) (xs : List Bool) (cell : Nat) (corners : Bool) (w : World) (hn : n = xs.length) (hW0 : 1 ≤ W) (hW1 : W ≤ 100) (hT0 : 0 ≤ T) (hT1 : T ≤ 100) (hWT : (n : Int) = W * T) (hc : cell < n) (ha : BoolsAt w a xs) :
    Calls Try.prog 142 #[.agg #[.int .i64 W, .int .i64 T, .slice a n cap], .int .i64 cell, .bool corners] w fun e w' => ∃ v, e = .returned v ∧ OwnsI w' w.heap.size v (arList W T xs ((cell : Int) % W) ((cell : Int) / W) corners 9) ∧ Below w.heap.size w w' := by
  have pb := (prod_bd (by omega) hW1 hT0 hT1).2
  have n4 : n ≤ 10000 := by omega
  obtain ⟨i0, hi, hz0, hz1, hz2⟩ := info_parts infoInt
  have HN := Lib.hid hn; clear hn
  have HWT := Lib.hid hWT; clear hWT
  have HA := Lib.hid ha; clear ha
  obtain ⟨m1, m2, m3, m4⟩ := divmod_bd (W := W) (k := cell) hW0
  have e0 : (0 : Int) ≤ cell := by omega
  have hWn : W ≠ 0 := by omega
  go_enter Try.func142, Try.ntmps142
  go_wp2
  go_quiet (fail)
  go_wp2
  generalize hx : (cell : Int) % W = x at *
  generalize hy : (cell : Int) / W = y at *
  obtain ⟨wA, hwA⟩ : ∃ wA, wA = (w.alloc (.cells #[.int .i64 W, .int .i64 T, .slice a n cap] 25)).drewN nq := ⟨_, rfl⟩
  have pA : wA.heap[w.heap.size]? = some (.cells #[.int .i64 W, .int .i64 T, .slice a n cap] 25 (0, 0)) := by rw [hwA]; exact heap_new w _
  have bA : Below w.heap.size w wA := by rw [hwA]; exact below_seq (below1 _ _) (drewN_below _ _)
  rw [← hwA]
  clear hwA
  go_loopw [7, 10, 11, 12, 13] (fun v dy _ _ _ wr => ∃ (j : Nat) (q : Int), j ≤ 3 ∧ Hid (q = (j : Int) - 1) ∧ -1 ≤ q ∧ q ≤ 2 ∧ dy = .int .i64 q ∧ OwnsI wr (w.heap.size + 1) v (arList W T xs x y corners (3 * j)) ∧ wr.heap[w.heap.size]? = some (.cells #[.int .i64 W, .int .i64 T, .slice a n cap] 25 (0, 0)) ∧ Below w.heap.size w wr) (fun _ dy _ _ _ _ => (2 - intOf dy).toNat)
  case atStart => exact ⟨0, -1, by omega, by show _ = _; omega, by omega, by omega, rfl, OwnsI.nil _ _, pA, bA⟩
  case round =>
    obtain ⟨j, q, hj, HQ, hq0, hq1, rfl, hown, hp, hbel⟩ := hrel
    have HO := Lib.hid hown; clear hown
    by_cases hlt : j < 3
    · have hj2 : q ≤ 1 := by have := HQ.out; omega
      go_wp2
      go_loopw [7, 11, 12, 13] (fun v dx _ _ wr => ∃ (i : Nat) (p : Int), i ≤ 3 ∧ Hid (p = (i : Int) - 1) ∧ -1 ≤ p ∧ p ≤ 2 ∧ dx = .int .i64 p ∧ OwnsI wr (w.heap.size + 1) v (arList W T xs x y corners (3 * j + i)) ∧ wr.heap[w.heap.size]? = some (.cells #[.int .i64 W, .int .i64 T, .slice a n cap] 25 (0, 0)) ∧ Below w.heap.size w wr) (fun _ dx _ _ _ => (2 - intOf dx).toNat)
      case atStart => exact ⟨0, -1, by omega, by show _ = _; omega, by omega, by omega, rfl, HO.out, hp, hbel⟩
      case round =>
        clear HO hp hbel
        obtain ⟨i, p, hi3, HP, hp0, hp1, rfl, hown, hp, hbel⟩ := hrel
        have HO := Lib.hid hown; clear hown
        obtain ⟨c0, c1, c2⟩ := cells3 hp
        have lp := heap_lt hp
        by_cases hlti : i < 3
        · have hi2 : p ≤ 1 := by have := HP.out; omega
          have eX : Hid (dX (3 * j + i) = p) := by show _ = _; rw [dX_at hlti, HP.out]
          have eY : Hid (dY (3 * j + i) = q) := by show _ = _; rw [dY_at hlti, HQ.out]
          have HAt := Lib.hid (HA.out.below hbel)
          have hall := arList_len W T xs x y corners (3 * j + i)
          have NXT : ∀ wn : World, Hid (arOk W T xs x y corners (3 * j + i) = false) → arList W T xs x y corners (3 * j + (i + 1)) = arList W T xs x y corners (3 * j + i) := fun _ h => arList_skip h.out
          have NXT' := Lib.hid NXT; clear NXT
          cases hpz : (p == 0)
          all_goals
            cases hqz : (q == 0)
            all_goals
              have hpz' : (p != 0) = !(p == 0) := rfl
              have hqz' : (q != 0) = !(q == 0) := rfl
              rw [hpz] at hpz'
              rw [hqz] at hqz'
              simp only [Bool.not_true, Bool.not_false] at hpz' hqz'
          · cases hcn : corners
            · have ok : arOk W T xs x y false (3 * j + i) = false := by unfold arOk; rw [eX.out, eY.out, hpz', hqz']; simp
              subst hcn
              have OKF := Lib.hid ok; clear ok
              have BEL := Lib.hid hbel; clear hbel
              go_wp2
              go_roundw
              case rel => exact ⟨i + 1, p + 1, by omega, by show _ = _; rw [HP.out]; omega, by omega, by omega, rfl, by rw [NXT'.out wr OKF]; exact HO.out, hp, BEL.out⟩
              case measure => simp [intOf]; omega
            · subst hcn
              have BEL := Lib.hid hbel; clear hbel
              cases hat : atB W T xs (x + p) (y + q)
              · have ok : arOk W T xs x y true (3 * j + i) = false := by unfold arOk; rw [eX.out, eY.out, hat]; simp
                have OKF := Lib.hid ok; clear ok
                go_wp2_with fail
                refine (hasCell_any _ _ _ _ _ _ _ xs _ HN.out (by omega) (by omega) (by omega) (by omega) HWT.out HAt.out).mono ?_; rintro e w6 ⟨rfl, hb6⟩
                have p6 := heap_later hp hb6
                have B6 := Lib.hid (below_seq BEL.out hb6)
                have O6 := Lib.hid (HO.out.below hb6)
                clear c0 c1 c2
                go_wp2
                go_roundw
                case rel => exact ⟨i + 1, p + 1, by omega, by show _ = _; rw [HP.out]; omega, by omega, by omega, rfl, by rw [NXT'.out wr OKF]; exact O6.out, p6, B6.out⟩
                case measure => simp [intOf]; omega
              · have ok : arOk W T xs x y true (3 * j + i) = true := by unfold arOk; rw [eX.out, eY.out, hat, hpz, hqz]; (try rw [hpz']); (try rw [hqz']); simp
                have OKF := Lib.hid ok; clear ok
                have hin : 0 ≤ x + p ∧ x + p < W ∧ 0 ≤ y + q ∧ y + q < T := by
                  have h := hat; simp only [atB, Bool.and_eq_true, inF, decide_eq_true_eq] at h; exact h.1
                obtain ⟨n0, n1, n2, n3⟩ := hin
                obtain ⟨i0', i1', i2'⟩ := idx_bd n0 n1 n2 n3
                go_wp2_with fail
                refine (hasCell_any _ _ _ _ _ _ _ xs _ HN.out (by omega) (by omega) (by omega) (by omega) HWT.out HAt.out).mono ?_; rintro e w6 ⟨rfl, hb6⟩
                have p6 := heap_later hp hb6
                have B6 := Lib.hid (below_seq BEL.out hb6)
                have O6 := Lib.hid (HO.out.below hb6)
                clear c0 c1 c2
                obtain ⟨c0, c1, c2⟩ := cells3 p6
                go_wp2_with fail
                refine (cellAt_any _ _ _ _ (.bool false) _ _ _ _ n0 (by omega) i0' (by omega)).mono ?_; rintro e w7 ⟨rfl, hb7⟩
                have p7 := heap_later p6 hb7
                have B7 := Lib.hid (below_seq B6.out hb7)
                have O7 := Lib.hid (O6.out.below hb7)
                have hz7 := heap_lt p7
                clear c0 c1 c2
                go_wp2_with (at_builtin; refine wpList_append_own _ rfl _ _ 26 rfl (w.heap.size + 1) 3 i0 (.int .i64 0) 1 8 Try.underlying26 hi hz0 hz1 hz2 rfl (by decide) _ (arList W T xs x y true (3 * j + i)).length ((arList W T xs x y true (3 * j + i)).map (Value.int .i64)) rfl (World.ownsRow.alloc O7.out _) ⟨w7.heap.size, 0, none⟩ 1 1 [.int .i64 ((y + q) * W + (x + p))] rfl rfl (new_int _ _) (one_int _) (by unfold maxLen; omega) (by omega) (by simp; omega) ?_; intro v' w8 hown' hgrow _; have p8 := heap_grown (heap_later p7 (below1 _ _)) hgrow (O7.out.ownBlock (by omega)); have O8 := Lib.hid (OwnsI.ofRow (xs := arList W T xs x y true (3 * j + (i + 1))) hown' (by rw [show 3 * j + (i + 1) = 3 * j + i + 1 from rfl, arList_take OKF.out, eX.out, eY.out]; simp) (by rw [show 3 * j + (i + 1) = 3 * j + i + 1 from rfl, arList_take OKF.out]; simp)); have B8 := Lib.hid (below_grown (below_seq B7.out (below1 _ _)) hgrow (Nat.le_refl _) (O7.out.ownAt (by omega))); clear hown' hgrow)
                go_roundw
                case rel => exact ⟨i + 1, p + 1, by omega, by show _ = _; rw [HP.out]; omega, by omega, by omega, rfl, O8.out, p8, B8.out⟩
                case measure => simp [intOf]; omega
          · have BEL := Lib.hid hbel; clear hbel
            cases hat : atB W T xs (x + p) (y + q)
            · have ok : arOk W T xs x y corners (3 * j + i) = false := by unfold arOk; rw [eX.out, eY.out, hat]; simp
              have OKF := Lib.hid ok; clear ok
              go_wp2_with fail
              refine (hasCell_any _ _ _ _ _ _ _ xs _ HN.out (by omega) (by omega) (by omega) (by omega) HWT.out HAt.out).mono ?_; rintro e w6 ⟨rfl, hb6⟩
              have p6 := heap_later hp hb6
              have B6 := Lib.hid (below_seq BEL.out hb6)
              have O6 := Lib.hid (HO.out.below hb6)
              clear c0 c1 c2
              go_wp2
              go_roundw
              case rel => exact ⟨i + 1, p + 1, by omega, by show _ = _; rw [HP.out]; omega, by omega, by omega, rfl, by rw [NXT'.out wr OKF]; exact O6.out, p6, B6.out⟩
              case measure => simp [intOf]; omega
            · have ok : arOk W T xs x y corners (3 * j + i) = true := by unfold arOk; rw [eX.out, eY.out, hat, hpz, hqz]; (try rw [hpz']); (try rw [hqz']); simp
              have OKF := Lib.hid ok; clear ok
              have hin : 0 ≤ x + p ∧ x + p < W ∧ 0 ≤ y + q ∧ y + q < T := by
                have h := hat; simp only [atB, Bool.and_eq_true, inF, decide_eq_true_eq] at h; exact h.1
              obtain ⟨n0, n1, n2, n3⟩ := hin
              obtain ⟨i0', i1', i2'⟩ := idx_bd n0 n1 n2 n3
              go_wp2_with fail
              refine (hasCell_any _ _ _ _ _ _ _ xs _ HN.out (by omega) (by omega) (by omega) (by omega) HWT.out HAt.out).mono ?_; rintro e w6 ⟨rfl, hb6⟩
              have p6 := heap_later hp hb6
              have B6 := Lib.hid (below_seq BEL.out hb6)
              have O6 := Lib.hid (HO.out.below hb6)
              clear c0 c1 c2
              obtain ⟨c0, c1, c2⟩ := cells3 p6
              go_wp2_with fail
              refine (cellAt_any _ _ _ _ (.bool false) _ _ _ _ n0 (by omega) i0' (by omega)).mono ?_; rintro e w7 ⟨rfl, hb7⟩
              have p7 := heap_later p6 hb7
              have B7 := Lib.hid (below_seq B6.out hb7)
              have O7 := Lib.hid (O6.out.below hb7)
              have hz7 := heap_lt p7
              clear c0 c1 c2
              go_wp2_with (at_builtin; refine wpList_append_own _ rfl _ _ 26 rfl (w.heap.size + 1) 3 i0 (.int .i64 0) 1 8 Try.underlying26 hi hz0 hz1 hz2 rfl (by decide) _ (arList W T xs x y corners (3 * j + i)).length ((arList W T xs x y corners (3 * j + i)).map (Value.int .i64)) rfl (World.ownsRow.alloc O7.out _) ⟨w7.heap.size, 0, none⟩ 1 1 [.int .i64 ((y + q) * W + (x + p))] rfl rfl (new_int _ _) (one_int _) (by unfold maxLen; omega) (by omega) (by simp; omega) ?_; intro v' w8 hown' hgrow _; have p8 := heap_grown (heap_later p7 (below1 _ _)) hgrow (O7.out.ownBlock (by omega)); have O8 := Lib.hid (OwnsI.ofRow (xs := arList W T xs x y corners (3 * j + (i + 1))) hown' (by rw [show 3 * j + (i + 1) = 3 * j + i + 1 from rfl, arList_take OKF.out, eX.out, eY.out]; simp) (by rw [show 3 * j + (i + 1) = 3 * j + i + 1 from rfl, arList_take OKF.out]; simp)); have B8 := Lib.hid (below_grown (below_seq B7.out (below1 _ _)) hgrow (Nat.le_refl _) (O7.out.ownAt (by omega))); clear hown' hgrow)
              go_roundw
              case rel => exact ⟨i + 1, p + 1, by omega, by show _ = _; rw [HP.out]; omega, by omega, by omega, rfl, O8.out, p8, B8.out⟩
              case measure => simp [intOf]; omega
          · have BEL := Lib.hid hbel; clear hbel
            cases hat : atB W T xs (x + p) (y + q)
            · have ok : arOk W T xs x y corners (3 * j + i) = false := by unfold arOk; rw [eX.out, eY.out, hat]; simp
              have OKF := Lib.hid ok; clear ok
              go_wp2_with fail
              refine (hasCell_any _ _ _ _ _ _ _ xs _ HN.out (by omega) (by omega) (by omega) (by omega) HWT.out HAt.out).mono ?_; rintro e w6 ⟨rfl, hb6⟩
              have p6 := heap_later hp hb6
              have B6 := Lib.hid (below_seq BEL.out hb6)
              have O6 := Lib.hid (HO.out.below hb6)
              clear c0 c1 c2
              go_wp2
              go_roundw
              case rel => exact ⟨i + 1, p + 1, by omega, by show _ = _; rw [HP.out]; omega, by omega, by omega, rfl, by rw [NXT'.out wr OKF]; exact O6.out, p6, B6.out⟩
              case measure => simp [intOf]; omega
            · have ok : arOk W T xs x y corners (3 * j + i) = true := by unfold arOk; rw [eX.out, eY.out, hat, hpz, hqz]; (try rw [hpz']); (try rw [hqz']); simp
              have OKF := Lib.hid ok; clear ok
              have hin : 0 ≤ x + p ∧ x + p < W ∧ 0 ≤ y + q ∧ y + q < T := by
                have h := hat; simp only [atB, Bool.and_eq_true, inF, decide_eq_true_eq] at h; exact h.1
              obtain ⟨n0, n1, n2, n3⟩ := hin
              obtain ⟨i0', i1', i2'⟩ := idx_bd n0 n1 n2 n3
              go_wp2_with fail
              refine (hasCell_any _ _ _ _ _ _ _ xs _ HN.out (by omega) (by omega) (by omega) (by omega) HWT.out HAt.out).mono ?_; rintro e w6 ⟨rfl, hb6⟩
              have p6 := heap_later hp hb6
              have B6 := Lib.hid (below_seq BEL.out hb6)
              have O6 := Lib.hid (HO.out.below hb6)
              clear c0 c1 c2
              obtain ⟨c0, c1, c2⟩ := cells3 p6
              go_wp2_with fail
              refine (cellAt_any _ _ _ _ (.bool false) _ _ _ _ n0 (by omega) i0' (by omega)).mono ?_; rintro e w7 ⟨rfl, hb7⟩
              have p7 := heap_later p6 hb7
              have B7 := Lib.hid (below_seq B6.out hb7)
              have O7 := Lib.hid (O6.out.below hb7)
              have hz7 := heap_lt p7
              clear c0 c1 c2
              go_wp2_with (at_builtin; refine wpList_append_own _ rfl _ _ 26 rfl (w.heap.size + 1) 3 i0 (.int .i64 0) 1 8 Try.underlying26 hi hz0 hz1 hz2 rfl (by decide) _ (arList W T xs x y corners (3 * j + i)).length ((arList W T xs x y corners (3 * j + i)).map (Value.int .i64)) rfl (World.ownsRow.alloc O7.out _) ⟨w7.heap.size, 0, none⟩ 1 1 [.int .i64 ((y + q) * W + (x + p))] rfl rfl (new_int _ _) (one_int _) (by unfold maxLen; omega) (by omega) (by simp; omega) ?_; intro v' w8 hown' hgrow _; have p8 := heap_grown (heap_later p7 (below1 _ _)) hgrow (O7.out.ownBlock (by omega)); have O8 := Lib.hid (OwnsI.ofRow (xs := arList W T xs x y corners (3 * j + (i + 1))) hown' (by rw [show 3 * j + (i + 1) = 3 * j + i + 1 from rfl, arList_take OKF.out, eX.out, eY.out]; simp) (by rw [show 3 * j + (i + 1) = 3 * j + i + 1 from rfl, arList_take OKF.out]; simp)); have B8 := Lib.hid (below_grown (below_seq B7.out (below1 _ _)) hgrow (Nat.le_refl _) (O7.out.ownAt (by omega))); clear hown' hgrow)
              go_roundw
              case rel => exact ⟨i + 1, p + 1, by omega, by show _ = _; rw [HP.out]; omega, by omega, by omega, rfl, O8.out, p8, B8.out⟩
              case measure => simp [intOf]; omega
          · have ok : arOk W T xs x y corners (3 * j + i) = false := by unfold arOk; rw [eX.out, eY.out, hpz, hqz]; rfl
            have OKF := Lib.hid ok; clear ok
            have BEL := Lib.hid hbel; clear hbel
            go_wp2
            go_roundw
            case rel => exact ⟨i + 1, p + 1, by omega, by show _ = _; rw [HP.out]; omega, by omega, by omega, rfl, by rw [NXT'.out wr OKF]; exact HO.out, hp, BEL.out⟩
            case measure => simp [intOf]; omega
        · have hi2 : ¬ p ≤ 1 := by have := HP.out; omega
          obtain rfl : i = 3 := by omega
          have BEL := Lib.hid hbel; clear hbel
          go_wp2
          go_roundw
          case rel => exact ⟨j + 1, q + 1, by omega, by show _ = _; rw [HQ.out]; omega, by omega, by omega, rfl, by rw [show 3 * (j + 1) = 3 * j + 3 from rfl]; exact HO.out, hp, BEL.out⟩
          case measure => simp [intOf]; omega
    · have hj2 : ¬ q ≤ 1 := by have := HQ.out; omega
      obtain rfl : j = 3 := by omega
      have BEL := Lib.hid hbel; clear hbel
      go_wp2
      go_ret
      exact ⟨_, rfl, HO.out.lower (by omega), BEL.out⟩
end Go.Proofs.Ytknigcjpgkolgaa
