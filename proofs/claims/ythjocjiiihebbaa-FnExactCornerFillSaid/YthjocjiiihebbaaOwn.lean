/- Memory predicates for lists of truths that came in or that the call made, and small facts about worlds; no statement is proved here. Merged of: Base, Sz, To, Eq, Own, More. -/
import Derived.Test.YthjocjiiihebbaaProg
import Derived.WalkKit
import Derived.WalkSpells
import Derived.WalkLawsBesides
import Derived.Lib.Hide
import Derived.BigQuiet
import Derived.Deep.QuietTactic
import Derived.StillTailTactics
import Derived.Deep.RegionHeld3
namespace Go.Proofs.Ythjocjiiihebbaa
open Go.RowKit
set_option linter.unusedVariables false
set_option maxRecDepth 100000
set_option linter.unusedSimpArgs false

def BoolsAt (w : World) (a : Option Addr) (xs : List Bool) : Prop :=
  ∀ i, i < xs.length → ∃ b off, a = some ⟨b, off, none⟩ ∧ w.cell? ⟨b, off + i, none⟩ = some (.bool (xs.getD i false))

theorem bcell {W w1 : World} (hb : Below W.heap.size W w1) : (∀ b o, b < W.heap.size → w1.cell? ⟨b, o, none⟩ = W.cell? ⟨b, o, none⟩) ∧ (∀ b o, b < W.heap.size → w1.frozen? ⟨b, o, none⟩ = W.frozen? ⟨b, o, none⟩) :=
  ⟨fun b o h => hb.cell (p := ⟨b, o, none⟩) h, fun b o h => hb.frozen (p := ⟨b, o, none⟩) h⟩

theorem ret_int {k : IntKind} {a b : Int} (h : a = b) : Ending.returned (.int k a) = .returned (.int k b) := by rw [h]
theorem ret_bool {a b : Bool} (h : a = b) : Ending.returned (.bool a) = .returned (.bool b) := by rw [h]

theorem BoolsAt.later {w w' : World} {B : Nat} {a : Option Addr} {xs : List Bool} (h : BoolsAt w a xs) (hb : Below B w w') (hB : w.heap.size ≤ B) : BoolsAt w' a xs := by
  intro i hi
  obtain ⟨b, off, rfl, hc⟩ := h i hi
  refine ⟨b, off, rfl, ?_⟩
  have hbl := World.block_lt_of_cell? w _ hc
  exact (hb.cell (p := ⟨b, off + i, none⟩) (Nat.lt_of_lt_of_le hbl hB)).trans hc

theorem below1 (w : World) (o1 : Obj) : Below w.heap.size w (w.alloc o1) := (Below.refl _ _).alloc (Nat.le_refl _) o1
theorem below2 (w : World) (o1 o2 : Obj) : Below w.heap.size w ((w.alloc o1).alloc o2) := (below1 w o1).alloc (by simp) o2
theorem below3 (w : World) (o1 o2 o3 : Obj) : Below w.heap.size w (((w.alloc o1).alloc o2).alloc o3) := (below2 w o1 o2).alloc (by simp <;> omega) o3
theorem BoolsAt.one {w : World} {a : Option Addr} {xs : List Bool} (h : BoolsAt w a xs) (o1 : Obj) : BoolsAt (w.alloc o1) a xs := h.later (below1 w o1) (Nat.le_refl _)
theorem BoolsAt.two {w : World} {a : Option Addr} {xs : List Bool} (h : BoolsAt w a xs) (o1 o2 : Obj) : BoolsAt ((w.alloc o1).alloc o2) a xs := h.later (below2 w o1 o2) (Nat.le_refl _)
theorem BoolsAt.drewN {w : World} {a : Option Addr} {xs : List Bool} (h : BoolsAt w a xs) (k : Nat) : BoolsAt (w.drewN k) a xs := h
theorem BoolsAt.below {w w' : World} {a : Option Addr} {xs : List Bool} (h : BoolsAt w a xs) (hb : Below w.heap.size w w') : BoolsAt w' a xs := h.later hb (Nat.le_refl _)
/-- Two steps, each of which keeps what was there when it began. -/
theorem below_seq {a b c : World} (h : Below a.heap.size a b) (k : Below b.heap.size b c) : Below a.heap.size a c := h.trans (k.mono h.size)

theorem heap_later {w w' : World} {b : Nat} {o : Obj} (h : w.heap[b]? = some o) (hb : Below w.heap.size w w') : w'.heap[b]? = some o := by
  have hl : b < w.heap.size := by
    rcases Nat.lt_or_ge b w.heap.size with h' | h'
    · exact h'
    · rw [Array.getElem?_eq_none h'] at h; cases h
  rw [hb.block b hl]; exact h
theorem heap_new (w : World) (o : Obj) : (w.alloc o).heap[w.heap.size]? = some o := heap_alloc_new w o
theorem heap_lt {w : World} {b : Nat} {o : Obj} (h : w.heap[b]? = some o) : b < w.heap.size := by
  rcases Nat.lt_or_ge b w.heap.size with h' | h'
  · exact h'
  · rw [Array.getElem?_eq_none h'] at h; cases h
/-- A struct of three cells in a block of its own. -/
theorem cells3 {w : World} {b : Nat} {x y z : Value} {t : TypeId} (h : w.heap[b]? = some (.cells #[x, y, z] t (0, 0))) :
    w.cell? ⟨b, 0, none⟩ = some x ∧ w.cell? ⟨b, 1, none⟩ = some y ∧ w.cell? ⟨b, 2, none⟩ = some z := by
  simp [World.cell?, h]

theorem free3 {w : World} {b : Nat} {cs : Array Value} {t : TypeId} (h : w.heap[b]? = some (.cells cs t (0, 0))) (i : Nat) : w.frozen? ⟨b, i, none⟩ = false := by simp [World.frozen?, h]

theorem block_setCell {w : World} {g i : Nat} {cs : Array Value} {t : TypeId} {fr : Nat × Nat} (h : w.heap[g]? = some (.cells cs t fr)) (v : Value) : (w.setCell ⟨g, i, none⟩ v).heap[g]? = some (.cells (cs.setIfInBounds i v) t fr) := by
  rw [setCell_eq_setRow w g i cs t fr v h]
  exact setRow_heap w g _ _ t _ h

theorem drew_below (w : World) : Below w.heap.size w w.drew := (Below.refl _ _).drew
theorem drewN_below (w : World) (k : Nat) : Below w.heap.size w (w.drewN k) := below_drewN (Below.refl _ _) k

end Go.Proofs.Ythjocjiiihebbaa

namespace Go.Proofs.Ythjocjiiihebbaa
open Go.RowKit
set_option linter.unusedVariables false
set_option maxRecDepth 100000
set_option linter.unusedSimpArgs false

def szB (n : Nat) (left : Int) : Int := if left - n < 0 then -1 else left - n

theorem szBoolS_any (a : Option Addr) (n cap : Nat) (left : Int) (w : World) (h0 : 0 ≤ left) (h1 : left ≤ 1048576) (hn : n ≤ maxLen) :
    Calls Try.prog 48 #[.slice a n cap, .int .i64 left] w fun e w' => e = .returned (.int .i64 (szB n left)) ∧ w = w' := by
  unfold maxLen at hn
  by_cases h : left - n < 0
  all_goals
    go_enter Try.func48, Try.ntmps48
    go_wp2
    go_ret
    exact ⟨ret_int (by unfold szB; first | rw [if_pos (by omega)] | rw [if_neg (by omega)]), rfl⟩


set_option maxHeartbeats 400000 in
theorem szRegion_any (W T : Int) (a : Option Addr) (n cap : Nat) (left : Int) (w : World) (h0 : 0 ≤ left) (h1 : left ≤ 1048576) (hn : n ≤ maxLen) :
    Calls Try.prog 17 #[.agg #[.int .i64 W, .int .i64 T, .slice a n cap], .int .i64 left] w fun e w' => e = .returned (.int .i64 (szB n left)) ∧ Below w.heap.size w w' := by
  by_cases h : szB n left < 0
  all_goals
    have h' : Hid (szB n left = szB n left) := rfl
    go_enter Try.func17, Try.ntmps17
    go_wp2_with (go_at_call 48; refine (szBoolS_any _ _ _ _ _ h0 h1 hn).mono ?_; rintro e w1 ⟨rfl, rfl⟩)
    go_outline
    go_ret
    exact ⟨ret_int (by unfold szB at h ⊢; split at h <;> omega), (Below.refl _ _).alloc (Nat.le_refl _) _⟩
end Go.Proofs.Ythjocjiiihebbaa

namespace Go.Proofs.Ythjocjiiihebbaa
open Go.RowKit
set_option linter.unusedVariables false
set_option maxRecDepth 100000
set_option linter.unusedSimpArgs false

def OwnsB (w : World) (B : Nat) (v : Value) (xs : List Bool) : Prop := w.ownsRow B 4 1 v xs.length (xs.map Value.bool)

theorem infoBool : (Try.prog.info? 4).map (fun i => (i.zero, i.size, i.bytes)) = some (some (.bool false), 1, 1) := by kernel_rfl

/-- What the loop has copied behind k rounds. -/
def part (xs : List Bool) (k : Nat) : List Bool := (List.range xs.length).map fun i => decide (i < k) && xs.getD i false

theorem part_len (xs : List Bool) (k : Nat) : (part xs k).length = xs.length := by simp [part]

theorem part_step (xs : List Bool) (k : Nat) : (part xs k).set k (xs.getD k false) = part xs (k + 1) := by
  apply List.ext_getElem
  · simp [part]
  · intro i h1 h2
    simp only [part, List.length_map, List.length_range] at h2
    simp only [part, List.getElem_set, List.getElem_map, List.getElem_range]
    by_cases e : k = i
    · subst e; simp
    · have : (i < k) = (i < k + 1) := by apply propext; omega
      simp [e, this]

theorem part_zero (xs : List Bool) : part xs 0 = List.replicate xs.length false := by
  apply List.ext_getElem <;> simp [part]
theorem part_all (xs : List Bool) : part xs xs.length = xs := by
  apply List.ext_getElem
  · simp [part]
  · intro i h1 h2; simp [part, h2]

theorem owns_step {w : World} {B g cap k n : Nat} {xs : List Bool} (hn : n = xs.length) (hk : k < n) (h : w.ownsRow B 4 1 (.slice (some ⟨g, 0, none⟩) n cap) n ((part xs k).map Value.bool)) :
    (w.setCell ⟨g, k, none⟩ (.bool (xs.getD k false))).ownsRow B 4 1 (.slice (some ⟨g, 0, none⟩) n cap) n ((part xs (k + 1)).map Value.bool) := by
  have := h.stored k (.bool (xs.getD k false))
  rw [← List.map_set, part_step xs k] at this
  exact this.1

set_option maxHeartbeats 400000 in
theorem toBoolS_any (a : Option Addr) (n cap : Nat) (xs : List Bool) (w : World) (hn : n = xs.length) (hn' : n ≤ 1048576) (ha : BoolsAt w a xs) :
    Calls Try.prog 50 #[.slice a n cap] w fun e w' => e = .returned (.slice (some ⟨w.heap.size, 0, none⟩) n n) ∧ OwnsB w' w.heap.size (.slice (some ⟨w.heap.size, 0, none⟩) n n) xs ∧ Below w.heap.size w w' := by
  obtain ⟨i0, hi, hz0, hz1, hz2⟩ := info_parts infoBool
  have HN := Lib.hid hn
  clear hn
  have HA := Lib.hid ha
  clear ha
  go_enter Try.func50, Try.ntmps50
  go_wp2_with (at_make; refine wpList_make_full _ rfl _ _ 29 rfl w.heap.size 4 i0 (.bool false) 1 Try.underlying29 hi hz0 hz1 _ _ _ _ n rfl rfl rfl rfl (by rw [hz2]; omega) (by unfold maxLen; omega) (Nat.le_refl _) ?_; intro w1 hown hgrow)
  go_loopw [4] (fun i wr => ∃ k : Nat, k ≤ n ∧ i = .int .i64 k ∧ wr.ownsRow w.heap.size 4 1 (.slice (some ⟨w.heap.size, 0, none⟩) n n) n ((part xs k).map Value.bool) ∧ Below w.heap.size w wr) (fun i _ => n - (intOf i).toNat)
  case atStart => exact ⟨0, Nat.zero_le _, rfl, by rw [part_zero, ← HN.out]; have h := hown; rw [show (Value.bool false).cells = #[.bool false] from rfl, toList_madeCells_one] at h; simpa using h, (Below.refl _ _).grown hgrow (Nat.le_refl _) (by simp)⟩
  case round =>
    obtain ⟨k, hk, rfl, hown, hbel⟩ := hrel
    by_cases hlt : k < n
    · obtain ⟨b, off, rfl, hc⟩ := HA.out k (by rw [← HN.out]; exact hlt)
      have hbl := World.block_lt_of_cell? w _ hc
      have hc1 : wr.cell? ⟨b, off + k, none⟩ = some (.bool (xs.getD k false)) := (hbel.cell (p := ⟨b, off + k, none⟩) hbl).trans hc
      have hf := hown.frozenAt k
      have hd : wr.cell? ⟨w.heap.size, k, none⟩ = some (.bool ((part xs k).getD k false)) := by rw [hown.cellAt k (by omega)]; simp [part_len, ← HN.out, hlt]
      go_wp2
      go_roundw
      case rel => exact ⟨k + 1, by omega, by go_num, owns_step HN.out hlt hown, hbel.setCell (Nat.le_refl _) _⟩
      case measure => simp [intOf]; omega
    · obtain rfl : k = n := by omega
      go_wp2
      go_ret
      exact ⟨rfl, by unfold OwnsB; rw [← HN.out]; have h := hown; rw [HN.out, part_all, ← HN.out] at h; exact h, hbel⟩

theorem OwnsB.lower {w : World} {B B' : Nat} {v : Value} {xs : List Bool} (h : OwnsB w B v xs) (hB : B' ≤ B) : OwnsB w B' v xs :=
  ⟨h.1, h.2.elim Or.inl (fun ⟨g, cap, cur, hv, hg, r⟩ => Or.inr ⟨g, cap, cur, hv, Nat.le_trans hB hg, r⟩)⟩

theorem OwnsB.setBelow {w : World} {B : Nat} {v : Value} {xs : List Bool} (h : OwnsB w B v xs) {p : Addr} (hp : p.block < B) (u : Value) : OwnsB (w.setCell p u) B v xs :=
  ownsRow_setCell_below h hp u

set_option maxHeartbeats 400000 in
theorem toRegion_any (W T : Int) (a : Option Addr) (n cap : Nat) (xs : List Bool) (w : World) (hn : n = xs.length) (hn' : n ≤ 1048576) (ha : BoolsAt w a xs) :
    Calls Try.prog 19 #[.agg #[.int .i64 W, .int .i64 T, .slice a n cap]] w fun e w' => ∃ g, e = .returned (.agg #[.int .i64 W, .int .i64 T, .slice (some ⟨g, 0, none⟩) n n]) ∧ OwnsB w' w.heap.size (.slice (some ⟨g, 0, none⟩) n n) xs ∧ Below w.heap.size w w' := by
  have HN := Lib.hid hn
  clear hn
  have HA := Lib.hid ha
  clear ha
  go_enter Try.func19, Try.ntmps19
  go_wp2_with fail
  refine (toBoolS_any a n cap xs _ HN.out hn' (HA.out.later (B := w.heap.size) ((((Below.refl _ _).alloc (Nat.le_refl _) _).alloc (by simp) _).alloc (by simp; omega) _) (Nat.le_refl _))).mono ?_
  rintro e w1 ⟨rfl, ho, hb⟩
  have HO := Lib.hid ho
  clear ho
  obtain ⟨hc, hf⟩ := bcell hb
  have hz : w.heap.size + 3 ≤ w1.heap.size := by have := hb.size; simp at this; omega
  go_wp2
  refine bodyPost_ret (v := .agg #[.int .i64 W, .int .i64 T, .slice (some ⟨w.heap.size + 1 + 1 + 1, 0, none⟩) n n]) (by simp [results, Try.results19, go_sem, hc, hz]) rfl ⟨_, rfl, ?_, ?_⟩
  · have HO' : OwnsB w1 (w.heap.size + 1 + 1 + 1) (.slice (some ⟨w.heap.size + 1 + 1 + 1, 0, none⟩) n n) xs := by simpa using HO.out
    exact ((((HO'.setBelow (by simp) _).setBelow (by simp <;> omega) _).setBelow (by simp <;> omega) _).setBelow (by simp <;> omega) _).lower (by omega)
  · exact (((((((Below.refl _ _).alloc (Nat.le_refl _) _).alloc (by simp) _).alloc (by simp <;> omega) _).trans (hb.mono (by simp <;> omega))).setCell (by simp <;> omega) _).setCell (by simp) _ |>.setCell (by simp) _).setCell (by simp) _
end Go.Proofs.Ythjocjiiihebbaa

namespace Go.Proofs.Ythjocjiiihebbaa
open Go.RowKit
set_option linter.unusedVariables false
set_option maxRecDepth 100000
set_option linter.unusedSimpArgs false

theorem OwnsB.at {w : World} {B : Nat} {a : Option Addr} {n cap : Nat} {xs : List Bool} (h : OwnsB w B (.slice a n cap) xs) : BoolsAt w a xs := by
  intro i hi
  rcases h.2 with ⟨_, h0⟩ | ⟨g, cap', cur, hv, _⟩
  · omega
  · simp only [Value.slice.injEq] at hv
    obtain ⟨rfl, rfl, rfl⟩ := hv
    refine ⟨g, 0, rfl, ?_⟩
    rw [Nat.zero_add, World.ownsRow.cellAt (xs := xs.map Value.bool) h i (by omega)]
    simp [hi]


/-- Two lists that hold the same are told to be equal. -/
theorem eqBoolS_same (a b : Option Addr) (n cap cap' : Nat) (xs : List Bool) (w : World) (hn : n = xs.length) (hn' : n ≤ 1048576) (ha : BoolsAt w a xs) (hb : BoolsAt w b xs) :
    Calls Try.prog 52 #[.slice a n cap, .slice b n cap'] w fun e w' => e = .returned (.bool true) ∧ ∃ k, w' = w.drewN k := by
  have HN := Lib.hid hn; clear hn
  have HA := Lib.hid ha; clear ha
  have HB := Lib.hid hb; clear hb
  go_enter Try.func52, Try.ntmps52
  go_wp2
  go_loopw [5] (fun i wr => ∃ k : Nat, k ≤ n ∧ i = .int .i64 k ∧ ∃ q, wr = w.drewN q) (fun i _ => n - (intOf i).toNat)
  case atStart => exact ⟨0, Nat.zero_le _, rfl, 0, rfl⟩
  case round =>
    obtain ⟨k, hk, rfl, q, rfl⟩ := hrel
    by_cases hlt : k < n
    · obtain ⟨b1, o1, rfl, hc1⟩ := HA.out k (by rw [← HN.out]; exact hlt)
      obtain ⟨b2, o2, rfl, hc2⟩ := HB.out k (by rw [← HN.out]; exact hlt)
      have e1 : (k : Int) < n := by omega
      have e0 : (0 : Int) ≤ k := by omega
      go_wp2
      go_quiet (fail)
      go_wp2
      go_roundw
      case rel => exact ⟨k + 1, by omega, by go_num, _, rfl⟩
      case measure => simp [intOf]; omega
    · go_wp2
      go_ret
      exact ⟨rfl, _, rfl⟩


set_option maxHeartbeats 400000 in
theorem eqRegion_same (W T : Int) (a b : Option Addr) (n cap cap' : Nat) (xs : List Bool) (w : World) (hn : n = xs.length) (hn' : n ≤ 1048576) (ha : BoolsAt w a xs) (hb : BoolsAt w b xs) :
    Calls Try.prog 22 #[.agg #[.int .i64 W, .int .i64 T, .slice a n cap], .agg #[.int .i64 W, .int .i64 T, .slice b n cap']] w fun e w' => e = .returned (.bool true) ∧ Below w.heap.size w w' := by
  have HN := Lib.hid hn; clear hn
  have HA := Lib.hid ha; clear ha
  have HB := Lib.hid hb; clear hb
  go_enter Try.func22, Try.ntmps22
  go_wp2_with (go_at_call 52; refine (eqBoolS_same _ _ _ _ _ xs _ HN.out hn' (HA.out.two _ _) (HB.out.two _ _)).mono ?_; rintro e w1 ⟨rfl, q, rfl⟩)
  go_ret
  exact ⟨rfl, below_seq (below2 _ _ _) (drewN_below _ _)⟩

/-- The marks of n entries, counted from k. -/
def marks (n : Nat) (k : Int) : List Bool := (List.range n).map fun i : Nat => (k + (i : Int)) % 3 == 0
def marked (xs : List Bool) (j : Nat) (k : Int) : List Bool := (List.range xs.length).map fun i : Nat => if i < j then (k + (i : Int)) % 3 == 0 else xs.getD i false
theorem marked_zero (xs : List Bool) (k : Int) : marked xs 0 k = xs := by
  apply List.ext_getElem
  · simp [marked]
  · intro i h1 h2; simp [marked, h2]
theorem marked_all (xs : List Bool) (k : Int) : marked xs xs.length k = marks xs.length k := by
  apply List.ext_getElem
  · simp [marked, marks]
  · intro i h1 h2; simp [marks] at h2; simp [marked, marks, h2]
theorem marked_step (xs : List Bool) (j : Nat) (k : Int) : (marked xs j k).set j ((k + (j : Int)) % 3 == 0) = marked xs (j + 1) k := by
  apply List.ext_getElem
  · simp [marked]
  · intro i h1 h2
    simp only [marked, List.length_map, List.length_range] at h2
    simp only [marked, List.getElem_set, List.getElem_map, List.getElem_range]
    by_cases e : j = i
    · subst e; simp
    · have : (i < j) = (i < j + 1) := by apply propext; omega
      simp [e, this]
theorem marks_len (n : Nat) (k : Int) : (marks n k).length = n := by simp [marks]
theorem marked_len (xs : List Bool) (j : Nat) (k : Int) : (marked xs j k).length = xs.length := by simp [marked]

theorem owns_mark {w : World} {B g cap j n : Nat} {k : Int} {xs : List Bool} (h : w.ownsRow B 4 1 (.slice (some ⟨g, 0, none⟩) n cap) n ((marked xs j k).map Value.bool)) :
    (w.setCell ⟨g, j, none⟩ (.bool ((k + (j : Int)) % 3 == 0))).ownsRow B 4 1 (.slice (some ⟨g, 0, none⟩) n cap) n ((marked xs (j + 1) k).map Value.bool) ∧ w.grownBy (w.setCell ⟨g, j, none⟩ (.bool ((k + (j : Int)) % 3 == 0))) (some g) := by
  have := h.stored j (.bool ((k + (j : Int)) % 3 == 0))
  rw [← List.map_set, marked_step xs j] at this
  exact this

theorem grownBy_trans {a b c : World} {row : Option Nat} (h : a.grownBy b row) (h2 : b.grownBy c row) : a.grownBy c row :=
  ⟨h2.os.trans h.os, h2.tape.trans h.tape, h2.output.trans h.output, Nat.le_trans h.size h2.size, fun k hk hr => (h2.block k (Nat.lt_of_lt_of_le hk h.size) hr).trans (h.block k hk hr)⟩

set_option maxHeartbeats 400000 in
theorem markBoolS_some (g n cap B : Nat) (k : Int) (xs : List Bool) (w : World) (hn : n = xs.length) (hn' : n ≤ 1048576) (hk0 : 0 ≤ k) (hk1 : k ≤ 4194304) (ho : OwnsB w B (.slice (some ⟨g, 0, none⟩) n cap) xs) :
    Calls Try.prog 58 #[.slice (some ⟨g, 0, none⟩) n cap, .int .i64 k] w fun e w' => e = .returned (.int .i64 (k + n)) ∧ OwnsB w' B (.slice (some ⟨g, 0, none⟩) n cap) (marks n k) ∧ w.grownBy w' (some g) := by
  have HN := Lib.hid hn; clear hn
  have HO := Lib.hid ho; clear ho
  go_enter Try.func58, Try.ntmps58
  go_wp2
  go_loopw [5, 1] (fun i kv wr => ∃ j : Nat, j ≤ n ∧ i = .int .i64 j ∧ kv = .int .i64 (k + j) ∧ wr.ownsRow B 4 1 (.slice (some ⟨g, 0, none⟩) n cap) n ((marked xs j k).map Value.bool) ∧ w.grownBy wr (some g)) (fun i _ _ => n - (intOf i).toNat)
  case atStart => exact ⟨0, Nat.zero_le _, rfl, by go_num, by rw [marked_zero]; have h := HO.out; unfold OwnsB at h; rw [← HN.out] at h; exact h, World.grownBy.refl _ _⟩
  case round =>
    obtain ⟨j, hj, rfl, rfl, hown, hg⟩ := hrel
    by_cases hlt : j < n
    · have hf := hown.frozenAt j
      have hd : wr.cell? ⟨g, j, none⟩ = some (.bool ((marked xs j k).getD j false)) := by rw [hown.cellAt j (by omega)]; simp [marked_len, ← HN.out, hlt]
      have HOW := Lib.hid hown; clear hown
      have HG := Lib.hid hg; clear hg
      go_wp2
      go_roundw
      case rel => exact ⟨j + 1, by omega, by go_num, by go_num, (owns_mark HOW.out).1, grownBy_trans HG.out (owns_mark HOW.out).2⟩
      case measure => simp [intOf]; omega
    · obtain rfl : j = n := by omega
      go_wp2
      go_ret
      exact ⟨rfl, by unfold OwnsB; rw [marks_len]; have h := hown; rw [HN.out, marked_all, ← HN.out] at h; exact h, hg⟩

theorem markRegion_some (W T : Int) (g n cap B : Nat) (k : Int) (xs : List Bool) (w : World) (hn : n = xs.length) (hn' : n ≤ 1048576) (hk0 : 0 ≤ k) (hk1 : k ≤ 4194304) (hB : B ≤ w.heap.size) (ho : OwnsB w B (.slice (some ⟨g, 0, none⟩) n cap) xs) :
    Calls Try.prog 26 #[.agg #[.int .i64 W, .int .i64 T, .slice (some ⟨g, 0, none⟩) n cap], .int .i64 k] w fun e w' => e = .returned (.int .i64 (k + n)) ∧ OwnsB w' B (.slice (some ⟨g, 0, none⟩) n cap) (marks n k) ∧ w.grownBy w' (some g) := by
  have HN := Lib.hid hn; clear hn
  have HO := Lib.hid ho; clear ho
  go_enter Try.func26, Try.ntmps26
  go_wp2_with (go_at_call 58; refine (markBoolS_some _ _ _ B _ xs _ HN.out hn' hk0 hk1 (World.ownsRow.alloc HO.out _)).mono ?_; rintro e w1 ⟨rfl, ho, hg⟩)
  go_ret
  exact ⟨rfl, ho, grownBy_trans (World.grownBy_alloc _ _ _) hg⟩

end Go.Proofs.Ythjocjiiihebbaa

namespace Go.Proofs.Ythjocjiiihebbaa
open Go.RowKit
set_option linter.unusedVariables false
set_option maxRecDepth 100000
set_option linter.unusedSimpArgs false

/-- A region that the call made: its truths lie in a row of the call's own, from block B on, or it has none. -/
def RegV (w : World) (B : Nat) (v : Value) (W T : Int) (xs : List Bool) : Prop :=
  ∃ (a : Option Addr) (n cap : Nat), v = .agg #[.int .i64 W, .int .i64 T, .slice a n cap] ∧ n = xs.length ∧ OwnsB w B (.slice a n cap) xs

theorem OwnsB.nil (w : World) (B : Nat) : OwnsB w B (.slice none 0 0) [] := World.ownsRow_nil _ _ _ _

theorem OwnsB.below {w w' : World} {B : Nat} {v : Value} {xs : List Bool} (h : OwnsB w B v xs) (hb : Below w.heap.size w w') : OwnsB w' B v xs := by
  refine ⟨h.1, ?_⟩
  rcases h.2 with h2 | ⟨g, cap, cur, hv, hg, hh, r⟩
  · exact Or.inl h2
  · exact Or.inr ⟨g, cap, cur, hv, hg, heap_later hh hb, r⟩

theorem OwnsB.forms {w : World} {B : Nat} {v : Value} {xs : List Bool} (h : OwnsB w B v xs) : (v = .slice none 0 0 ∧ xs = []) ∨ ∃ g cap, v = .slice (some ⟨g, 0, none⟩) xs.length cap ∧ B ≤ g ∧ g < w.heap.size := by
  rcases h.2 with ⟨h1, h2⟩ | ⟨g, cap, cur, hv, hg, hh, _⟩
  · exact Or.inl ⟨h1, List.length_eq_zero_iff.1 h2⟩
  · exact Or.inr ⟨g, cap, hv, hg, heap_lt hh⟩

/-- Behind writes to one row, another owned slice is as it was. -/
theorem OwnsB.keptBy {w w' : World} {B : Nat} {v : Value} {xs : List Bool} {row : Option Nat} (h : OwnsB w B v xs) (hg : w.grownBy w' row) (hr : ∀ k, row = some k → k < B) : OwnsB w' B v xs := by
  refine ⟨h.1, ?_⟩
  rcases h.2 with h2 | ⟨g, cap, cur, hv, hgB, hh, r⟩
  · exact Or.inl h2
  · refine Or.inr ⟨g, cap, cur, hv, hgB, ?_, r⟩
    rw [hg.block g (heap_lt hh) (fun e => by have := hr g e.symm; omega)]; exact hh

theorem heap_grown {w w' : World} {b : Nat} {o : Obj} {row : Option Nat} (h : w.heap[b]? = some o) (hg : w.grownBy w' row) (hr : row ≠ some b) : w'.heap[b]? = some o := by
  rw [hg.block b (heap_lt h) (fun e => hr e.symm)]; exact h

theorem BoolsAt.empty (w : World) (a : Option Addr) : BoolsAt w a [] := fun i hi => absurd hi (Nat.not_lt_zero i)

set_option maxHeartbeats 400000 in
theorem markBoolS_nil (k : Int) (w : World) :
    Calls Try.prog 58 #[.slice none 0 0, .int .i64 k] w fun e w' => e = .returned (.int .i64 k) ∧ w = w' := by
  go_enter Try.func58, Try.ntmps58
  go_wp2
  refine wp_loop_rounds 1 ?_
  rw [rounds_succ]
  go_wp2
  go_ret
  exact ⟨rfl, rfl⟩

theorem markRegion_own (W T : Int) (a : Option Addr) (n cap B : Nat) (k : Int) (xs : List Bool) (w : World) (hn : n = xs.length) (hn' : n ≤ 1048576) (hk0 : 0 ≤ k) (hk1 : k ≤ 4194304) (hB : B ≤ w.heap.size) (ho : OwnsB w B (.slice a n cap) xs) :
    Calls Try.prog 26 #[.agg #[.int .i64 W, .int .i64 T, .slice a n cap], .int .i64 k] w fun e w' => e = .returned (.int .i64 (k + n)) ∧ OwnsB w' B (.slice a n cap) (marks n k) ∧ w.grownBy w' (Value.ownBlock (.slice a n cap)) := by
  rcases ho.forms with ⟨h1, rfl⟩ | ⟨g, cap', h1, hg, hl⟩
  · simp only [Value.slice.injEq] at h1
    obtain ⟨rfl, rfl, rfl⟩ := h1
    clear ho hn
    go_enter Try.func26, Try.ntmps26
    go_wp2_with (go_at_call 58; refine (markBoolS_nil _ _).mono ?_; rintro e w1 ⟨rfl, rfl⟩)
    go_ret
    exact ⟨ret_int (by simp), OwnsB.nil _ _, World.grownBy_alloc _ _ _⟩
  · simp only [Value.slice.injEq] at h1
    obtain ⟨rfl, _, rfl⟩ := h1
    exact markRegion_some W T g n cap B k xs w hn hn' hk0 hk1 hB ho

/-- What owned marks are, seen where they lie. -/
theorem marks_at {w : World} {B : Nat} {a : Option Addr} {n cap : Nat} {k : Int} (h : OwnsB w B (.slice a n cap) (marks n k)) : BoolsAt w a (marks n k) :=
  OwnsB.at (n := n) h

theorem below_set3 {B : Nat} {a w : World} (h : Below B a w) {b : Nat} (hb : B ≤ b) (x y z : Value) : Below B a (((w.setCell ⟨b, 0, none⟩ x).setCell ⟨b, 1, none⟩ y).setCell ⟨b, 2, none⟩ z) :=
  ((h.setCell (p := ⟨b, 0, none⟩) hb x).setCell (p := ⟨b, 1, none⟩) hb y).setCell (p := ⟨b, 2, none⟩) hb z
theorem OwnsB.set3 {w : World} {B : Nat} {v : Value} {xs : List Bool} (h : OwnsB w B v xs) {b : Nat} (hb : b < B) (x y z : Value) : OwnsB (((w.setCell ⟨b, 0, none⟩ x).setCell ⟨b, 1, none⟩ y).setCell ⟨b, 2, none⟩ z) B v xs :=
  ((h.setBelow (p := ⟨b, 0, none⟩) hb x).setBelow (p := ⟨b, 1, none⟩) hb y).setBelow (p := ⟨b, 2, none⟩) hb z
theorem grown_below {w w' : World} (h : w.grownBy w' none) : Below w.heap.size w w' := (Below.refl _ _).grown h (Nat.le_refl _) (by simp)
theorem grownOwn_below {w w' : World} {B : Nat} {row : Option Nat} (h : w.grownBy w' row) (hB : B ≤ w.heap.size) (hr : ∀ k, row = some k → B ≤ k) : Below B w w' := (Below.refl _ _).grown h hB hr

/-- A list by its index. -/
def tab (N : Nat) (f : Nat → Bool) : List Bool := (List.range N).map f
theorem tab_len (N : Nat) (f : Nat → Bool) : (tab N f).length = N := by simp [tab]
theorem tab_getD {N : Nat} (f : Nat → Bool) {i : Nat} (h : i < N) : (tab N f).getD i false = f i := by simp [tab, h]
theorem tab_congr {N : Nat} {f g : Nat → Bool} (h : ∀ i, i < N → f i = g i) : tab N f = tab N g := by
  unfold tab; exact List.map_congr_left fun i hi => h i (List.mem_range.1 hi)
theorem tab_set (N : Nat) (f : Nat → Bool) (k : Nat) (v : Bool) : (tab N f).set k v = tab N fun i => if i = k then v else f i := by
  apply List.ext_getElem
  · simp [tab]
  · intro i h1 h2
    simp only [tab, List.getElem_set, List.getElem_map, List.getElem_range]
    by_cases e : k = i
    · subst e; simp
    · simp [e, show ¬ i = k from fun h => e h.symm]
theorem tab_of (xs : List Bool) : tab xs.length (fun i => xs.getD i false) = xs := by
  apply List.ext_getElem
  · simp [tab]
  · intro i h1 h2; simp [tab, h2]
theorem tab_const (N : Nat) (v : Bool) : tab N (fun _ => v) = List.replicate N v := by
  apply List.ext_getElem <;> simp [tab]

/-- A row of truths of the call's own in block g, by its index. -/
def RowB (w : World) (B g N cap : Nat) (f : Nat → Bool) : Prop := w.ownsRow B 4 1 (.slice (some ⟨g, 0, none⟩) N cap) N ((tab N f).map Value.bool)
theorem RowB.of {w : World} {B g N cap : Nat} {xs : List Bool} (h : OwnsB w B (.slice (some ⟨g, 0, none⟩) N cap) xs) (hN : N = xs.length) : RowB w B g N cap (fun i => xs.getD i false) := by
  unfold RowB; subst hN; rw [tab_of]; exact h
theorem RowB.owns {w : World} {B g N cap : Nat} {f : Nat → Bool} (h : RowB w B g N cap f) : OwnsB w B (.slice (some ⟨g, 0, none⟩) N cap) (tab N f) := by
  unfold OwnsB; rw [tab_len]; exact h
theorem RowB.cell {w : World} {B g N cap : Nat} {f : Nat → Bool} (h : RowB w B g N cap f) {k : Nat} (hk : k < N) : w.cell? ⟨g, k, none⟩ = some (.bool (f k)) := by
  rw [World.ownsRow.cellAt h k (by omega)]; simp [tab, hk]
theorem RowB.free {w : World} {B g N cap : Nat} {f : Nat → Bool} (h : RowB w B g N cap f) (k : Nat) : w.frozen? ⟨g, k, none⟩ = false := World.ownsRow.frozenAt h k
theorem RowB.set {w : World} {B g N cap : Nat} {f : Nat → Bool} (h : RowB w B g N cap f) (k : Nat) (v : Bool) :
    RowB (w.setCell ⟨g, k, none⟩ (.bool v)) B g N cap (fun i => if i = k then v else f i) ∧ w.grownBy (w.setCell ⟨g, k, none⟩ (.bool v)) (some g) := by
  have := World.ownsRow.stored h k (.bool v)
  rw [← List.map_set, tab_set] at this
  exact this
theorem RowB.congr {w : World} {B g N cap : Nat} {f f' : Nat → Bool} (h : RowB w B g N cap f) (e : ∀ i, i < N → f i = f' i) : RowB w B g N cap f' := by
  unfold RowB; rw [← tab_congr e]; exact h
theorem RowB.keptBy {w w' : World} {B g N cap : Nat} {f : Nat → Bool} {row : Option Nat} (h : RowB w B g N cap f) (hg : w.grownBy w' row) (hr : row ≠ some g) : RowB w' B g N cap f :=
  World.ownsRow.kept h hg (Or.inr (fun e => hr e.symm))
theorem RowB.below {w w' : World} {B g N cap : Nat} {f : Nat → Bool} (h : RowB w B g N cap f) (hb : Below w.heap.size w w') : RowB w' B g N cap f := by
  have := (RowB.owns h).below hb
  unfold OwnsB at this; rw [tab_len] at this; exact this
theorem RowB.base {w : World} {B g N cap : Nat} {f : Nat → Bool} (h : RowB w B g N cap f) : B ≤ g ∧ g < w.heap.size := World.ownsRow.lt h g rfl
theorem heap_set_other {w : World} {b : Nat} {o : Obj} (h : w.heap[b]? = some o) {p : Addr} (hp : b ≠ p.block) (u : Value) : (w.setCell p u).heap[b]? = some o := by
  rw [Below.heap_setCell _ _ _ _ hp]; exact h

/-- One truth, just laid to be appended. -/
theorem new_bool (w : World) (b : Bool) : ∀ j u, [Value.bool b][j]? = some u → (w.alloc (.cells #[.bool b] 4)).cell? ((⟨w.heap.size, 0, none⟩ : Addr).add j) = some u := cell_one_new _ _ _
theorem one_bool (b : Bool) : ∀ u ∈ [Value.bool b], u.oneCell' = true := by intro u hu; simp at hu; subst hu; rfl
theorem OwnsB.row {w : World} {B : Nat} {v : Value} {xs : List Bool} (h : OwnsB w B v xs) {n : Nat} (hn : xs.length = n) : w.ownsRow B 4 1 v n (xs.map Value.bool) := by subst hn; exact h
theorem OwnsB.ofRow {w : World} {B : Nat} {v : Value} {xs : List Bool} {n : Nat} {cs : List Value} (h : w.ownsRow B 4 1 v n cs) (hc : cs = xs.map Value.bool) (hn : xs.length = n) : OwnsB w B v xs := by subst hn; subst hc; exact h
theorem OwnsB.alloc {w : World} {B : Nat} {v : Value} {xs : List Bool} (h : OwnsB w B v xs) (o : Obj) : OwnsB (w.alloc o) B v xs := h.below (below1 _ _)
theorem OwnsB.ownBlock {w : World} {B : Nat} {v : Value} {xs : List Bool} (h : OwnsB w B v xs) {b : Nat} (hb : b < B) : v.ownBlock ≠ some b := fun e => by
  have := World.ownsRow.lt h b e; omega
theorem form_pos {w : World} {base n : Nat} {e : TypeId} {v : Value} {xs : List Value} (h : w.ownsRow base e 1 v n xs) (hn : 0 < n) : ∃ g cap, v = .slice (some ⟨g, 0, none⟩) n cap := by
  rcases h.2 with ⟨_, h0⟩ | ⟨g, cap, _, hv, _⟩
  · omega
  · exact ⟨g, cap, hv⟩
theorem rep_snoc (k : Nat) (b : Bool) : (List.replicate k b).map Value.bool ++ [Value.bool b] = (List.replicate (k + 1) b).map Value.bool := by
  rw [List.replicate_succ']; simp

theorem grown_tail {w wr w1 : World} {o : Obj} {v : Value} {B : Nat} (hbel : Below B w wr) (hgrow : (wr.alloc o).grownBy w1 v.ownBlock) (hB : B ≤ wr.heap.size) (hv : ∀ k, v.ownBlock = some k → B ≤ k) : Below B w w1 :=
  (hbel.alloc hB o).grown hgrow (by simp; omega) hv
theorem OwnsB.ownAt {w : World} {B : Nat} {v : Value} {xs : List Bool} (h : OwnsB w B v xs) {B' : Nat} (hB : B' ≤ B) : ∀ k, v.ownBlock = some k → B' ≤ k := fun k e => Nat.le_trans hB (World.ownsRow.lt h k e).1

/-- What lay there before a row was made is as it was behind writes to that row. -/
theorem BoolsAt.grown {w0 w w' : World} {a : Option Addr} {xs : List Bool} {row : Option Nat} (h : BoolsAt w a xs) (h0 : BoolsAt w0 a xs) (hg : w.grownBy w' row) (hr : ∀ k, row = some k → w0.heap.size ≤ k) : BoolsAt w' a xs := by
  intro i hi
  obtain ⟨b, off, rfl, hc⟩ := h i hi
  obtain ⟨b', off', he, hc'⟩ := h0 i hi
  simp only [Option.some.injEq, Addr.mk.injEq, and_true] at he
  obtain ⟨rfl, rfl⟩ := he
  have hb' := World.block_lt_of_cell? w0 _ hc'
  simp only at hb'
  exact ⟨b, off, rfl, hg.cell hc (fun e => by have := hr b e.symm; omega)⟩
theorem below_grown {B : Nat} {a w w' : World} {row : Option Nat} (h : Below B a w) (hg : w.grownBy w' row) (hB : B ≤ a.heap.size) (hr : ∀ k, row = some k → B ≤ k) : Below B a w' :=
  h.grown hg (Nat.le_trans hB h.size) hr

theorem OwnsB.blkLt {w : World} {B : Nat} {v : Value} {xs : List Bool} (h : OwnsB w B v xs) : ∀ k, v.ownBlock = some k → k < w.heap.size := fun k e => (World.ownsRow.lt h k e).2

end Go.Proofs.Ythjocjiiihebbaa

namespace Go.Proofs.Ythjocjiiihebbaa
open Go.RowKit
set_option linter.unusedVariables false
set_option maxRecDepth 100000

theorem heap_new2 (w : World) (o1 o2 : Obj) : ((w.alloc o1).alloc o2).heap[w.heap.size + 1]? = some o2 := by simpa using heap_new (w.alloc o1) o2
theorem heap_new3 (w : World) (o1 o2 o3 : Obj) : (((w.alloc o1).alloc o2).alloc o3).heap[w.heap.size + 2]? = some o3 := by simpa using heap_new ((w.alloc o1).alloc o2) o3
end Go.Proofs.Ythjocjiiihebbaa
