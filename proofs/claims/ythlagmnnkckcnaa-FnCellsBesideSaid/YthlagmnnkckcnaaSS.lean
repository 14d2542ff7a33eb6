/- Lists of lists: what a call owns; contract of slices.AppendSeq over the iterator over all tilings. -/
import Derived.Test.YthlagmnnkckcnaaRangeIt
import Derived.RangeFuncBox
namespace Go.Proofs.Ythlagmnnkckcnaa
open Go.RowKit Go.Shelf
set_option linter.unusedVariables false
set_option maxRecDepth 100000
set_option linter.unusedSimpArgs false

/-- The values ws are lists of the call's own, from block B on, no two in one block. -/
structure RowsI (w : World) (B : Nat) (ws : List Value) (rows : List (List Int)) : Prop where
  len : ws.length = rows.length
  own : ∀ i, i < rows.length → OwnsI w B (ws.getD i (.slice none 0 0)) (rows.getD i [])
  apart : ∀ i j, i < j → j < rows.length → ∀ k, (ws.getD i (.slice none 0 0)).ownBlock = some k → (ws.getD j (.slice none 0 0)).ownBlock ≠ some k

/-- A list of lists that the call owns from block B on. -/
def OwnsSS (w : World) (B : Nat) (v : Value) (rows : List (List Int)) : Prop := ∃ ws, w.ownsRow B 27 1 v rows.length ws ∧ RowsI w B ws rows

theorem infoSl : (Try.prog.info? 27).map (fun i => (i.zero, i.size, i.bytes)) = some (some (.slice none 0 0), 1, 24) := by kernel_rfl

theorem RowsI.nil (w : World) (B : Nat) : RowsI w B [] [] := ⟨rfl, fun i h => absurd h (Nat.not_lt_zero i), fun i j _ h => absurd h (Nat.not_lt_zero j)⟩
theorem OwnsSS.nil (w : World) (B : Nat) : OwnsSS w B (.slice none 0 0) [] := ⟨[], World.ownsRow_nil _ _ _ _, RowsI.nil w B⟩
theorem RowsI.lower {w : World} {B B' : Nat} {ws : List Value} {rows : List (List Int)} (h : RowsI w B ws rows) (hB : B' ≤ B) : RowsI w B' ws rows := ⟨h.len, fun i hi => (h.own i hi).lower hB, h.apart⟩
theorem ownsRow_lower {w : World} {B B' n size : Nat} {e : TypeId} {v : Value} {xs : List Value} (h : w.ownsRow B e size v n xs) (hB : B' ≤ B) : w.ownsRow B' e size v n xs := by
  refine ⟨h.1, ?_⟩
  rcases h.2 with hn | ⟨g, cap, cur, hv, hb, r⟩
  · exact .inl hn
  · exact .inr ⟨g, cap, cur, hv, Nat.le_trans hB hb, r⟩
theorem OwnsSS.lower {w : World} {B B' : Nat} {v : Value} {rows : List (List Int)} (h : OwnsSS w B v rows) (hB : B' ≤ B) : OwnsSS w B' v rows := by
  obtain ⟨ws, h1, h2⟩ := h
  exact ⟨ws, ownsRow_lower h1 hB, h2.lower hB⟩
/-- A step that turns none of the lists' own blocks. -/
theorem RowsI.kept {w w' : World} {B : Nat} {ws : List Value} {rows : List (List Int)} {row : Option Nat} (h : RowsI w B ws rows) (hg : w.grownBy w' row) (hr : ∀ i, i < rows.length → ∀ k, (ws.getD i (.slice none 0 0)).ownBlock = some k → row ≠ some k) : RowsI w' B ws rows :=
  ⟨h.len, fun i hi => World.ownsRow.kept (h.own i hi) hg (by
    cases hk : (ws.getD i (.slice none 0 0)).ownBlock with
    | none => exact Or.inl rfl
    | some k => exact Or.inr (fun e => hr i hi k hk e.symm)), h.apart⟩
theorem RowsI.below {w w' : World} {B : Nat} {ws : List Value} {rows : List (List Int)} (h : RowsI w B ws rows) (hb : Below w.heap.size w w') : RowsI w' B ws rows := ⟨h.len, fun i hi => (h.own i hi).below hb, h.apart⟩
theorem OwnsSS.below {w w' : World} {B : Nat} {v : Value} {rows : List (List Int)} (h : OwnsSS w B v rows) (hb : Below w.heap.size w w') : OwnsSS w' B v rows := by
  obtain ⟨ws, h1, h2⟩ := h
  refine ⟨ws, ?_, h2.below hb⟩
  exact h1.kept (grown_of_below hb none) (by cases v.ownBlock <;> simp)
/-- A list more. -/
theorem RowsI.snoc {w : World} {B : Nat} {ws : List Value} {rows : List (List Int)} {v : Value} {M : List Int} (h : RowsI w B ws rows) (ho : OwnsI w B v M) (hf : ∀ i, i < rows.length → ∀ k, (ws.getD i (.slice none 0 0)).ownBlock = some k → v.ownBlock ≠ some k) : RowsI w B (ws ++ [v]) (rows ++ [M]) := by
  have gl : ∀ i, i < rows.length → (ws ++ [v]).getD i (.slice none 0 0) = ws.getD i (.slice none 0 0) := fun i hi => by
    simp [List.getD, List.getElem?_append_left (show i < ws.length by rw [h.len]; exact hi)]
  have gr : ∀ i, i < rows.length → (rows ++ [M]).getD i [] = rows.getD i [] := fun i hi => by
    simp [List.getD, List.getElem?_append_left hi]
  have gv : (ws ++ [v]).getD rows.length (.slice none 0 0) = v := by rw [← h.len]; simp [List.getD]
  have gm : (rows ++ [M]).getD rows.length [] = M := by simp [List.getD]
  refine ⟨by simp [h.len], fun i hi => ?_, fun i j hij hj k hk => ?_⟩
  · rw [List.length_append, List.length_singleton] at hi
    by_cases e : i < rows.length
    · rw [gl i e, gr i e]; exact h.own i e
    · obtain rfl : i = rows.length := by omega
      rw [gv, gm]; exact ho
  · rw [List.length_append, List.length_singleton] at hj
    rw [gl i (by omega)] at hk
    by_cases e : j < rows.length
    · rw [gl j e]; exact h.apart i j hij e k hk
    · obtain rfl : j = rows.length := by omega
      rw [gv]; exact hf i hij k hk
/-- The blocks of the lists lie in the heap, from B on, and hold integers. -/
theorem RowsI.block {w : World} {B : Nat} {ws : List Value} {rows : List (List Int)} (h : RowsI w B ws rows) {i k : Nat} (hi : i < rows.length) (hk : (ws.getD i (.slice none 0 0)).ownBlock = some k) : B ≤ k ∧ ∃ cs, w.heap[k]? = some (.cells cs 3 (0, 0)) := by
  have ho := h.own i hi
  refine ⟨(World.ownsRow.lt ho k hk).1, ?_⟩
  rcases ho.2 with ⟨e, _⟩ | ⟨g, cap, cur, e, _, hh, _⟩
  · rw [e] at hk; cases hk
  · rw [e] at hk
    obtain rfl : g = k := by simpa [Value.ownBlock] using hk
    exact ⟨cur, hh⟩
theorem row_block {w : World} {B n size k : Nat} {e : TypeId} {v : Value} {xs : List Value} (h : w.ownsRow B e size v n xs) (hk : v.ownBlock = some k) : ∃ cs, w.heap[k]? = some (.cells cs e (0, 0)) := by
  rcases h.2 with ⟨e, _⟩ | ⟨g, cap, cur, e, _, hh, _⟩
  · rw [e] at hk; cases hk
  · rw [e] at hk
    obtain rfl : g = k := by simpa [Value.ownBlock] using hk
    exact ⟨cur, hh⟩

theorem OwnsSS.put {w : World} {B : Nat} {v : Value} {rows : List (List Int)} (h : OwnsSS w B v rows) {D : Nat} {o : Obj} (o' : Obj) (hd : w.heap[D]? = some o) (ho : o.isCells = false) : OwnsSS (w.putObj D o') B v rows := by
  obtain ⟨ws, h1, h2⟩ := h
  have hne : ∀ k, (∃ (cs : Array Value) (t : TypeId), w.heap[k]? = some (.cells cs t (0, 0))) → some D ≠ some k := by
    rintro k ⟨cs, t, hc⟩ e
    cases e
    rw [hd] at hc; cases hc; cases ho
  refine ⟨ws, h1.kept (grownBy_putObj' w D o') ?_, h2.kept (grownBy_putObj' w D o') (fun i hi k hk => hne k ((h2.block hi hk).2.imp fun cs h => ⟨_, h⟩))⟩
  cases hk : v.ownBlock with
  | none => exact Or.inl rfl
  | some k => exact Or.inr (fun e => hne k ((row_block h1 hk).imp fun cs h => ⟨_, h⟩) e.symm)
theorem OwnsSS.keptBy {w w' : World} {B : Nat} {v : Value} {rows : List (List Int)} {row : Option Nat} (h : OwnsSS w B v rows) (hg : w.grownBy w' row) (hr : ∀ k, row = some k → k < B) : OwnsSS w' B v rows := by
  obtain ⟨ws, h1, h2⟩ := h
  refine ⟨ws, h1.kept hg ?_, h2.kept hg (fun i hi k hk e => by
    have h3 := (h2.block hi hk).1
    have := hr k e
    omega)⟩
  cases hk : v.ownBlock with
  | none => exact Or.inl rfl
  | some k => exact Or.inr (fun e => by
      have h3 := (World.ownsRow.lt h1 k hk).1
      have := hr k e.symm
      omega)
theorem not_same {w : World} {k : Nat} {cs ds : Array Value} {t u : TypeId} (h : w.heap[k]? = some (.cells cs t (0, 0))) (h2 : w.heap[k]? = some (.cells ds u (0, 0))) (hne : t ≠ u) : False := by
  rw [h] at h2; cases h2; exact hne rfl
end Go.Proofs.Ythlagmnnkckcnaa
