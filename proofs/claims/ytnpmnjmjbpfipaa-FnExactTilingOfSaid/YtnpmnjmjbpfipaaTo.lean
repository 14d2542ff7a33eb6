/- Contracts of the law's own helpers that copy arguments. -/
import Derived.Test.YtnpmnjmjbpfipaaSz
namespace Go.Proofs.Ytnpmnjmjbpfipaa
open Go.RowKit
set_option linter.unusedVariables false
set_option maxRecDepth 100000
set_option linter.unusedSimpArgs false

def OwnsB (w : World) (B : Nat) (v : Value) (xs : List Bool) : Prop := w.ownsRow B 4 1 v xs.length (xs.map Value.bool)

theorem infoBool : (Try.prog.info? 4).map (fun i => (i.zero, i.size, i.bytes)) = some (some (.bool false), 1, 1) := by kernel_rfl

/-- What the loop has copied behind k rounds. -/
def part (xs : List Bool) (k : Nat) : List Bool := (List.range xs.length).map fun i => decide (i < k) && xs.getD i false

theorem part_len (xs : List Bool) (k : Nat) : (part xs k).length = xs.length := by simp [part]

theorem part_step (xs : List Bool) (k : Nat) : (part xs k).set k (xs.getD k false) = part xs (k + 1) := by
  apply List.ext_getElem
  · simp [part]
  · intro i h1 h2
    simp only [part, List.length_map, List.length_range] at h2
    simp only [part, List.getElem_set, List.getElem_map, List.getElem_range]
    by_cases e : k = i
    · subst e; simp
    · have : (i < k) = (i < k + 1) := by apply propext; omega
      simp [e, this]

theorem part_zero (xs : List Bool) : part xs 0 = List.replicate xs.length false := by
  apply List.ext_getElem <;> simp [part]
theorem part_all (xs : List Bool) : part xs xs.length = xs := by
  apply List.ext_getElem
  · simp [part]
  · intro i h1 h2; simp [part, h2]

theorem owns_step {w : World} {B g cap k n : Nat} {xs : List Bool} (hn : n = xs.length) (hk : k < n) (h : w.ownsRow B 4 1 (.slice (some ⟨g, 0, none⟩) n cap) n ((part xs k).map Value.bool)) :
    (w.setCell ⟨g, k, none⟩ (.bool (xs.getD k false))).ownsRow B 4 1 (.slice (some ⟨g, 0, none⟩) n cap) n ((part xs (k + 1)).map Value.bool) := by
  have := h.stored k (.bool (xs.getD k false))
  rw [← List.map_set, part_step xs k] at this
  exact this.1

set_option maxHeartbeats 400000 in
theorem toBoolS_any (a : Option Addr) (n cap : Nat) (xs : List Bool) (w : World) (hn : n = xs.length) (hn' : n ≤ 1048576) (ha : BoolsAt w a xs) :
    Calls Try.prog 61 #[.slice a n cap] w fun e w' => e = .returned (.slice (some ⟨w.heap.size, 0, none⟩) n n) ∧ OwnsB w' w.heap.size (.slice (some ⟨w.heap.size, 0, none⟩) n n) xs ∧ Below w.heap.size w w' := by
  obtain ⟨i0, hi, hz0, hz1, hz2⟩ := info_parts infoBool
  have HN := Lib.hid hn
  clear hn
  have HA := Lib.hid ha
  clear ha
  go_enter Try.func61, Try.ntmps61
  go_wp2_with (at_make; refine wpList_make_full _ rfl _ _ 30 rfl w.heap.size 4 i0 (.bool false) 1 Try.underlying30 hi hz0 hz1 _ _ _ _ n rfl rfl rfl rfl (by rw [hz2]; omega) (by unfold maxLen; omega) (Nat.le_refl _) ?_; intro w1 hown hgrow)
  go_loopw [4] (fun i wr => ∃ k : Nat, k ≤ n ∧ i = .int .i64 k ∧ wr.ownsRow w.heap.size 4 1 (.slice (some ⟨w.heap.size, 0, none⟩) n n) n ((part xs k).map Value.bool) ∧ Below w.heap.size w wr) (fun i _ => n - (intOf i).toNat)
  case atStart => exact ⟨0, Nat.zero_le _, rfl, by rw [part_zero, ← HN.out]; have h := hown; rw [show (Value.bool false).cells = #[.bool false] from rfl, toList_madeCells_one] at h; simpa using h, (Below.refl _ _).grown hgrow (Nat.le_refl _) (by simp)⟩
  case round =>
    obtain ⟨k, hk, rfl, hown, hbel⟩ := hrel
    by_cases hlt : k < n
    · obtain ⟨b, off, rfl, hc⟩ := HA.out k (by rw [← HN.out]; exact hlt)
      have hbl := World.block_lt_of_cell? w _ hc
      have hc1 : wr.cell? ⟨b, off + k, none⟩ = some (.bool (xs.getD k false)) := (hbel.cell (p := ⟨b, off + k, none⟩) hbl).trans hc
      have hf := hown.frozenAt k
      have hd : wr.cell? ⟨w.heap.size, k, none⟩ = some (.bool ((part xs k).getD k false)) := by rw [hown.cellAt k (by omega)]; simp [part_len, ← HN.out, hlt]
      go_wp2
      go_roundw
      case rel => exact ⟨k + 1, by omega, by go_num, owns_step HN.out hlt hown, hbel.setCell (Nat.le_refl _) _⟩
      case measure => simp [intOf]; omega
    · obtain rfl : k = n := by omega
      go_wp2
      go_ret
      exact ⟨rfl, by unfold OwnsB; rw [← HN.out]; have h := hown; rw [HN.out, part_all, ← HN.out] at h; exact h, hbel⟩

theorem OwnsB.lower {w : World} {B B' : Nat} {v : Value} {xs : List Bool} (h : OwnsB w B v xs) (hB : B' ≤ B) : OwnsB w B' v xs :=
  ⟨h.1, h.2.elim Or.inl (fun ⟨g, cap, cur, hv, hg, r⟩ => Or.inr ⟨g, cap, cur, hv, Nat.le_trans hB hg, r⟩)⟩

theorem OwnsB.setBelow {w : World} {B : Nat} {v : Value} {xs : List Bool} (h : OwnsB w B v xs) {p : Addr} (hp : p.block < B) (u : Value) : OwnsB (w.setCell p u) B v xs :=
  ownsRow_setCell_below h hp u

set_option maxHeartbeats 400000 in
theorem toRegion_any (W T : Int) (a : Option Addr) (n cap : Nat) (xs : List Bool) (w : World) (hn : n = xs.length) (hn' : n ≤ 1048576) (ha : BoolsAt w a xs) :
    Calls Try.prog 28 #[.agg #[.int .i64 W, .int .i64 T, .slice a n cap]] w fun e w' => ∃ g, e = .returned (.agg #[.int .i64 W, .int .i64 T, .slice (some ⟨g, 0, none⟩) n n]) ∧ OwnsB w' w.heap.size (.slice (some ⟨g, 0, none⟩) n n) xs ∧ Below w.heap.size w w' := by
  have HN := Lib.hid hn
  clear hn
  have HA := Lib.hid ha
  clear ha
  go_enter Try.func28, Try.ntmps28
  go_wp2_with fail
  refine (toBoolS_any a n cap xs _ HN.out hn' (HA.out.later (B := w.heap.size) ((((Below.refl _ _).alloc (Nat.le_refl _) _).alloc (by simp) _).alloc (by simp; omega) _) (Nat.le_refl _))).mono ?_
  rintro e w1 ⟨rfl, ho, hb⟩
  have HO := Lib.hid ho
  clear ho
  obtain ⟨hc, hf⟩ := bcell hb
  have hz : w.heap.size + 3 ≤ w1.heap.size := by have := hb.size; simp at this; omega
  go_wp2
  refine bodyPost_ret (v := .agg #[.int .i64 W, .int .i64 T, .slice (some ⟨w.heap.size + 1 + 1 + 1, 0, none⟩) n n]) (by simp [results, Try.results28, go_sem, hc, hz]) rfl ⟨_, rfl, ?_, ?_⟩
  · have HO' : OwnsB w1 (w.heap.size + 1 + 1 + 1) (.slice (some ⟨w.heap.size + 1 + 1 + 1, 0, none⟩) n n) xs := by simpa using HO.out
    exact ((((HO'.setBelow (by simp) _).setBelow (by simp <;> omega) _).setBelow (by simp <;> omega) _).setBelow (by simp <;> omega) _).lower (by omega)
  · exact (((((((Below.refl _ _).alloc (Nat.le_refl _) _).alloc (by simp) _).alloc (by simp <;> omega) _).trans (hb.mono (by simp <;> omega))).setCell (by simp <;> omega) _).setCell (by simp) _ |>.setCell (by simp) _).setCell (by simp) _
end Go.Proofs.Ytnpmnjmjbpfipaa
