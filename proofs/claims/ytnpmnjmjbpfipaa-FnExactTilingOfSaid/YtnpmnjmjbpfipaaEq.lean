/- Contracts of the law's own helpers that compare, mark and look. -/
import Derived.Test.YtnpmnjmjbpfipaaTo
namespace Go.Proofs.Ytnpmnjmjbpfipaa
open Go.RowKit
set_option linter.unusedVariables false
set_option maxRecDepth 100000
set_option linter.unusedSimpArgs false

theorem OwnsB.at {w : World} {B : Nat} {a : Option Addr} {n cap : Nat} {xs : List Bool} (h : OwnsB w B (.slice a n cap) xs) : BoolsAt w a xs := by
  intro i hi
  rcases h.2 with ⟨_, h0⟩ | ⟨g, cap', cur, hv, _⟩
  · omega
  · simp only [Value.slice.injEq] at hv
    obtain ⟨rfl, rfl, rfl⟩ := hv
    refine ⟨g, 0, rfl, ?_⟩
    rw [Nat.zero_add, World.ownsRow.cellAt (xs := xs.map Value.bool) h i (by omega)]
    simp [hi]


/-- Two lists that hold the same are told to be equal. -/
theorem eqBoolS_same (a b : Option Addr) (n cap cap' : Nat) (xs : List Bool) (w : World) (hn : n = xs.length) (hn' : n ≤ 1048576) (ha : BoolsAt w a xs) (hb : BoolsAt w b xs) :
    Calls Try.prog 64 #[.slice a n cap, .slice b n cap'] w fun e w' => e = .returned (.bool true) ∧ ∃ k, w' = w.drewN k := by
  have HN := Lib.hid hn; clear hn
  have HA := Lib.hid ha; clear ha
  have HB := Lib.hid hb; clear hb
  go_enter Try.func64, Try.ntmps64
  go_wp2
  go_loopw [5] (fun i wr => ∃ k : Nat, k ≤ n ∧ i = .int .i64 k ∧ ∃ q, wr = w.drewN q) (fun i _ => n - (intOf i).toNat)
  case atStart => exact ⟨0, Nat.zero_le _, rfl, 0, rfl⟩
  case round =>
    obtain ⟨k, hk, rfl, q, rfl⟩ := hrel
    by_cases hlt : k < n
    · obtain ⟨b1, o1, rfl, hc1⟩ := HA.out k (by rw [← HN.out]; exact hlt)
      obtain ⟨b2, o2, rfl, hc2⟩ := HB.out k (by rw [← HN.out]; exact hlt)
      have e1 : (k : Int) < n := by omega
      have e0 : (0 : Int) ≤ k := by omega
      go_wp2
      go_quiet (fail)
      go_wp2
      go_roundw
      case rel => exact ⟨k + 1, by omega, by go_num, _, rfl⟩
      case measure => simp [intOf]; omega
    · go_wp2
      go_ret
      exact ⟨rfl, _, rfl⟩


set_option maxHeartbeats 400000 in
theorem eqRegion_same (W T : Int) (a b : Option Addr) (n cap cap' : Nat) (xs : List Bool) (w : World) (hn : n = xs.length) (hn' : n ≤ 1048576) (ha : BoolsAt w a xs) (hb : BoolsAt w b xs) :
    Calls Try.prog 30 #[.agg #[.int .i64 W, .int .i64 T, .slice a n cap], .agg #[.int .i64 W, .int .i64 T, .slice b n cap']] w fun e w' => e = .returned (.bool true) ∧ Below w.heap.size w w' := by
  have HN := Lib.hid hn; clear hn
  have HA := Lib.hid ha; clear ha
  have HB := Lib.hid hb; clear hb
  go_enter Try.func30, Try.ntmps30
  go_wp2_with (go_at_call 64; refine (eqBoolS_same _ _ _ _ _ xs _ HN.out hn' (HA.out.two _ _) (HB.out.two _ _)).mono ?_; rintro e w1 ⟨rfl, q, rfl⟩)
  go_ret
  exact ⟨rfl, below_seq (below2 _ _ _) (drewN_below _ _)⟩

/-- The marks of n entries, counted from k. -/
def marks (n : Nat) (k : Int) : List Bool := (List.range n).map fun i : Nat => (k + (i : Int)) % 3 == 0
def marked (xs : List Bool) (j : Nat) (k : Int) : List Bool := (List.range xs.length).map fun i : Nat => if i < j then (k + (i : Int)) % 3 == 0 else xs.getD i false
theorem marked_zero (xs : List Bool) (k : Int) : marked xs 0 k = xs := by
  apply List.ext_getElem
  · simp [marked]
  · intro i h1 h2; simp [marked, h2]
theorem marked_all (xs : List Bool) (k : Int) : marked xs xs.length k = marks xs.length k := by
  apply List.ext_getElem
  · simp [marked, marks]
  · intro i h1 h2; simp [marks] at h2; simp [marked, marks, h2]
theorem marked_step (xs : List Bool) (j : Nat) (k : Int) : (marked xs j k).set j ((k + (j : Int)) % 3 == 0) = marked xs (j + 1) k := by
  apply List.ext_getElem
  · simp [marked]
  · intro i h1 h2
    simp only [marked, List.length_map, List.length_range] at h2
    simp only [marked, List.getElem_set, List.getElem_map, List.getElem_range]
    by_cases e : j = i
    · subst e; simp
    · have : (i < j) = (i < j + 1) := by apply propext; omega
      simp [e, this]
theorem marks_len (n : Nat) (k : Int) : (marks n k).length = n := by simp [marks]
theorem marked_len (xs : List Bool) (j : Nat) (k : Int) : (marked xs j k).length = xs.length := by simp [marked]

theorem owns_mark {w : World} {B g cap j n : Nat} {k : Int} {xs : List Bool} (h : w.ownsRow B 4 1 (.slice (some ⟨g, 0, none⟩) n cap) n ((marked xs j k).map Value.bool)) :
    (w.setCell ⟨g, j, none⟩ (.bool ((k + (j : Int)) % 3 == 0))).ownsRow B 4 1 (.slice (some ⟨g, 0, none⟩) n cap) n ((marked xs (j + 1) k).map Value.bool) ∧ w.grownBy (w.setCell ⟨g, j, none⟩ (.bool ((k + (j : Int)) % 3 == 0))) (some g) := by
  have := h.stored j (.bool ((k + (j : Int)) % 3 == 0))
  rw [← List.map_set, marked_step xs j] at this
  exact this

theorem grownBy_trans {a b c : World} {row : Option Nat} (h : a.grownBy b row) (h2 : b.grownBy c row) : a.grownBy c row :=
  ⟨h2.os.trans h.os, h2.tape.trans h.tape, h2.output.trans h.output, Nat.le_trans h.size h2.size, fun k hk hr => (h2.block k (Nat.lt_of_lt_of_le hk h.size) hr).trans (h.block k hk hr)⟩

set_option maxHeartbeats 400000 in
theorem markBoolS_some (g n cap B : Nat) (k : Int) (xs : List Bool) (w : World) (hn : n = xs.length) (hn' : n ≤ 1048576) (hk0 : 0 ≤ k) (hk1 : k ≤ 4194304) (ho : OwnsB w B (.slice (some ⟨g, 0, none⟩) n cap) xs) :
    Calls Try.prog 68 #[.slice (some ⟨g, 0, none⟩) n cap, .int .i64 k] w fun e w' => e = .returned (.int .i64 (k + n)) ∧ OwnsB w' B (.slice (some ⟨g, 0, none⟩) n cap) (marks n k) ∧ w.grownBy w' (some g) := by
  have HN := Lib.hid hn; clear hn
  have HO := Lib.hid ho; clear ho
  go_enter Try.func68, Try.ntmps68
  go_wp2
  go_loopw [5, 1] (fun i kv wr => ∃ j : Nat, j ≤ n ∧ i = .int .i64 j ∧ kv = .int .i64 (k + j) ∧ wr.ownsRow B 4 1 (.slice (some ⟨g, 0, none⟩) n cap) n ((marked xs j k).map Value.bool) ∧ w.grownBy wr (some g)) (fun i _ _ => n - (intOf i).toNat)
  case atStart => exact ⟨0, Nat.zero_le _, rfl, by go_num, by rw [marked_zero]; have h := HO.out; unfold OwnsB at h; rw [← HN.out] at h; exact h, World.grownBy.refl _ _⟩
  case round =>
    obtain ⟨j, hj, rfl, rfl, hown, hg⟩ := hrel
    by_cases hlt : j < n
    · have hf := hown.frozenAt j
      have hd : wr.cell? ⟨g, j, none⟩ = some (.bool ((marked xs j k).getD j false)) := by rw [hown.cellAt j (by omega)]; simp [marked_len, ← HN.out, hlt]
      have HOW := Lib.hid hown; clear hown
      have HG := Lib.hid hg; clear hg
      go_wp2
      go_roundw
      case rel => exact ⟨j + 1, by omega, by go_num, by go_num, (owns_mark HOW.out).1, grownBy_trans HG.out (owns_mark HOW.out).2⟩
      case measure => simp [intOf]; omega
    · obtain rfl : j = n := by omega
      go_wp2
      go_ret
      exact ⟨rfl, by unfold OwnsB; rw [marks_len]; have h := hown; rw [HN.out, marked_all, ← HN.out] at h; exact h, hg⟩

theorem markRegion_some (W T : Int) (g n cap B : Nat) (k : Int) (xs : List Bool) (w : World) (hn : n = xs.length) (hn' : n ≤ 1048576) (hk0 : 0 ≤ k) (hk1 : k ≤ 4194304) (hB : B ≤ w.heap.size) (ho : OwnsB w B (.slice (some ⟨g, 0, none⟩) n cap) xs) :
    Calls Try.prog 36 #[.agg #[.int .i64 W, .int .i64 T, .slice (some ⟨g, 0, none⟩) n cap], .int .i64 k] w fun e w' => e = .returned (.int .i64 (k + n)) ∧ OwnsB w' B (.slice (some ⟨g, 0, none⟩) n cap) (marks n k) ∧ w.grownBy w' (some g) := by
  have HN := Lib.hid hn; clear hn
  have HO := Lib.hid ho; clear ho
  go_enter Try.func36, Try.ntmps36
  go_wp2_with (go_at_call 68; refine (markBoolS_some _ _ _ B _ xs _ HN.out hn' hk0 hk1 (World.ownsRow.alloc HO.out _)).mono ?_; rintro e w1 ⟨rfl, ho, hg⟩)
  go_ret
  exact ⟨rfl, ho, grownBy_trans (World.grownBy_alloc _ _ _) hg⟩

end Go.Proofs.Ytnpmnjmjbpfipaa
