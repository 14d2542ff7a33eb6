/- Lists of lists: what a call owns; contract of slices.AppendSeq over the iterator over all tilings. -/
import Derived.Test.YthjocjiiihebbaaRangeIt
import Derived.RangeFuncBox
namespace Go.Proofs.Ythjocjiiihebbaa
open Go.RowKit Go.Shelf
set_option linter.unusedVariables false
set_option maxRecDepth 100000
set_option linter.unusedSimpArgs false

/-- The values ws are lists of the call's own, from block B on, no two in one block. -/
structure RowsI (w : World) (B : Nat) (ws : List Value) (rows : List (List Int)) : Prop where
  len : ws.length = rows.length
  own : ∀ i, i < rows.length → OwnsI w B (ws.getD i (.slice none 0 0)) (rows.getD i [])
  apart : ∀ i j, i < j → j < rows.length → ∀ k, (ws.getD i (.slice none 0 0)).ownBlock = some k → (ws.getD j (.slice none 0 0)).ownBlock ≠ some k

/-- A list of lists that the call owns from block B on. -/
def OwnsSS (w : World) (B : Nat) (v : Value) (rows : List (List Int)) : Prop := ∃ ws, w.ownsRow B 32 1 v rows.length ws ∧ RowsI w B ws rows

theorem infoSl : (Try.prog.info? 32).map (fun i => (i.zero, i.size, i.bytes)) = some (some (.slice none 0 0), 1, 24) := by kernel_rfl

theorem RowsI.nil (w : World) (B : Nat) : RowsI w B [] [] := ⟨rfl, fun i h => absurd h (Nat.not_lt_zero i), fun i j _ h => absurd h (Nat.not_lt_zero j)⟩
theorem OwnsSS.nil (w : World) (B : Nat) : OwnsSS w B (.slice none 0 0) [] := ⟨[], World.ownsRow_nil _ _ _ _, RowsI.nil w B⟩
theorem RowsI.lower {w : World} {B B' : Nat} {ws : List Value} {rows : List (List Int)} (h : RowsI w B ws rows) (hB : B' ≤ B) : RowsI w B' ws rows := ⟨h.len, fun i hi => (h.own i hi).lower hB, h.apart⟩
theorem ownsRow_lower {w : World} {B B' n size : Nat} {e : TypeId} {v : Value} {xs : List Value} (h : w.ownsRow B e size v n xs) (hB : B' ≤ B) : w.ownsRow B' e size v n xs := by
  refine ⟨h.1, ?_⟩
  rcases h.2 with hn | ⟨g, cap, cur, hv, hb, r⟩
  · exact .inl hn
  · exact .inr ⟨g, cap, cur, hv, Nat.le_trans hB hb, r⟩
theorem OwnsSS.lower {w : World} {B B' : Nat} {v : Value} {rows : List (List Int)} (h : OwnsSS w B v rows) (hB : B' ≤ B) : OwnsSS w B' v rows := by
  obtain ⟨ws, h1, h2⟩ := h
  exact ⟨ws, ownsRow_lower h1 hB, h2.lower hB⟩
/-- A step that turns none of the lists' own blocks. -/
theorem RowsI.kept {w w' : World} {B : Nat} {ws : List Value} {rows : List (List Int)} {row : Option Nat} (h : RowsI w B ws rows) (hg : w.grownBy w' row) (hr : ∀ i, i < rows.length → ∀ k, (ws.getD i (.slice none 0 0)).ownBlock = some k → row ≠ some k) : RowsI w' B ws rows :=
  ⟨h.len, fun i hi => World.ownsRow.kept (h.own i hi) hg (by
    cases hk : (ws.getD i (.slice none 0 0)).ownBlock with
    | none => exact Or.inl rfl
    | some k => exact Or.inr (fun e => hr i hi k hk e.symm)), h.apart⟩
theorem RowsI.below {w w' : World} {B : Nat} {ws : List Value} {rows : List (List Int)} (h : RowsI w B ws rows) (hb : Below w.heap.size w w') : RowsI w' B ws rows := ⟨h.len, fun i hi => (h.own i hi).below hb, h.apart⟩
theorem OwnsSS.below {w w' : World} {B : Nat} {v : Value} {rows : List (List Int)} (h : OwnsSS w B v rows) (hb : Below w.heap.size w w') : OwnsSS w' B v rows := by
  obtain ⟨ws, h1, h2⟩ := h
  refine ⟨ws, ?_, h2.below hb⟩
  exact h1.kept (grown_of_below hb none) (by cases v.ownBlock <;> simp)
/-- A list more. -/
theorem RowsI.snoc {w : World} {B : Nat} {ws : List Value} {rows : List (List Int)} {v : Value} {M : List Int} (h : RowsI w B ws rows) (ho : OwnsI w B v M) (hf : ∀ i, i < rows.length → ∀ k, (ws.getD i (.slice none 0 0)).ownBlock = some k → v.ownBlock ≠ some k) : RowsI w B (ws ++ [v]) (rows ++ [M]) := by
  have gl : ∀ i, i < rows.length → (ws ++ [v]).getD i (.slice none 0 0) = ws.getD i (.slice none 0 0) := fun i hi => by
    simp [List.getD, List.getElem?_append_left (show i < ws.length by rw [h.len]; exact hi)]
  have gr : ∀ i, i < rows.length → (rows ++ [M]).getD i [] = rows.getD i [] := fun i hi => by
    simp [List.getD, List.getElem?_append_left hi]
  have gv : (ws ++ [v]).getD rows.length (.slice none 0 0) = v := by rw [← h.len]; simp [List.getD]
  have gm : (rows ++ [M]).getD rows.length [] = M := by simp [List.getD]
  refine ⟨by simp [h.len], fun i hi => ?_, fun i j hij hj k hk => ?_⟩
  · rw [List.length_append, List.length_singleton] at hi
    by_cases e : i < rows.length
    · rw [gl i e, gr i e]; exact h.own i e
    · obtain rfl : i = rows.length := by omega
      rw [gv, gm]; exact ho
  · rw [List.length_append, List.length_singleton] at hj
    rw [gl i (by omega)] at hk
    by_cases e : j < rows.length
    · rw [gl j e]; exact h.apart i j hij e k hk
    · obtain rfl : j = rows.length := by omega
      rw [gv]; exact hf i hij k hk
/-- The blocks of the lists lie in the heap, from B on, and hold integers. -/
theorem RowsI.block {w : World} {B : Nat} {ws : List Value} {rows : List (List Int)} (h : RowsI w B ws rows) {i k : Nat} (hi : i < rows.length) (hk : (ws.getD i (.slice none 0 0)).ownBlock = some k) : B ≤ k ∧ ∃ cs, w.heap[k]? = some (.cells cs 3 (0, 0)) := by
  have ho := h.own i hi
  refine ⟨(World.ownsRow.lt ho k hk).1, ?_⟩
  rcases ho.2 with ⟨e, _⟩ | ⟨g, cap, cur, e, _, hh, _⟩
  · rw [e] at hk; cases hk
  · rw [e] at hk
    obtain rfl : g = k := by simpa [Value.ownBlock] using hk
    exact ⟨cur, hh⟩
theorem row_block {w : World} {B n size k : Nat} {e : TypeId} {v : Value} {xs : List Value} (h : w.ownsRow B e size v n xs) (hk : v.ownBlock = some k) : ∃ cs, w.heap[k]? = some (.cells cs e (0, 0)) := by
  rcases h.2 with ⟨e, _⟩ | ⟨g, cap, cur, e, _, hh, _⟩
  · rw [e] at hk; cases hk
  · rw [e] at hk
    obtain rfl : g = k := by simpa [Value.ownBlock] using hk
    exact ⟨cur, hh⟩

/-- What AppendSeq's rounds keep: the box holds a list of the lists that have come, in blocks behind the iterator's. -/
def ApInv (w : World) (hi : Nat) (pre : List (List Int)) (W : World) : Prop :=
  (∃ v, Boxed W w.heap.size 93 v ∧ OwnsSS W hi v pre) ∧ Below w.heap.size w W ∧ w.heap.size ≤ hi

theorem apInv_call (w : World) : CallInv (w.heap.size + 1) (w.heap.size + 3) (ApInv w) := by
  intro hi pre A D row h hg hr
  obtain ⟨⟨v, hb, ws, h1, h2⟩, hbel, hle⟩ := h
  have hne : ∀ k, hi ≤ k → (∃ (cs : Array Value) (t : TypeId), A.heap[k]? = some (.cells cs t (0, 0))) → row ≠ some k := by
    rintro k hk ⟨cs, t, hc⟩ e
    rcases hr k e with ⟨_, h4⟩ | ⟨_, o, ho, h5⟩
    · omega
    · rw [hc] at ho; cases ho; cases h5
  have hbx : Boxed D w.heap.size 93 v := hb.kept hg (fun e => by
    rcases hr _ e.symm with ⟨h3, _⟩ | ⟨h3, _⟩ <;> omega)
  refine ⟨⟨v, hbx, ws, h1.kept hg ?_, h2.kept hg ?_⟩, hbel.grown hg hbel.size (fun k e => by rcases hr k e with ⟨h3, _⟩ | ⟨h3, _⟩ <;> omega), hle⟩
  · cases hk : v.ownBlock with
    | none => exact Or.inl rfl
    | some k =>
      obtain ⟨cs, hc⟩ := row_block h1 hk
      exact Or.inr (fun e => hne k (World.ownsRow.lt h1 k hk).1 ⟨cs, _, hc⟩ e.symm)
  · intro i hi' k hk
    obtain ⟨h3, cs, hc⟩ := h2.block hi' hk
    exact hne k h3 ⟨cs, _, hc⟩
theorem OwnsSS.put {w : World} {B : Nat} {v : Value} {rows : List (List Int)} (h : OwnsSS w B v rows) {D : Nat} {o : Obj} (o' : Obj) (hd : w.heap[D]? = some o) (ho : o.isCells = false) : OwnsSS (w.putObj D o') B v rows := by
  obtain ⟨ws, h1, h2⟩ := h
  have hne : ∀ k, (∃ (cs : Array Value) (t : TypeId), w.heap[k]? = some (.cells cs t (0, 0))) → some D ≠ some k := by
    rintro k ⟨cs, t, hc⟩ e
    cases e
    rw [hd] at hc; cases hc; cases ho
  refine ⟨ws, h1.kept (grownBy_putObj' w D o') ?_, h2.kept (grownBy_putObj' w D o') (fun i hi k hk => hne k ((h2.block hi hk).2.imp fun cs h => ⟨_, h⟩))⟩
  cases hk : v.ownBlock with
  | none => exact Or.inl rfl
  | some k => exact Or.inr (fun e => hne k ((row_block h1 hk).imp fun cs h => ⟨_, h⟩) e.symm)
theorem OwnsSS.keptBy {w w' : World} {B : Nat} {v : Value} {rows : List (List Int)} {row : Option Nat} (h : OwnsSS w B v rows) (hg : w.grownBy w' row) (hr : ∀ k, row = some k → k < B) : OwnsSS w' B v rows := by
  obtain ⟨ws, h1, h2⟩ := h
  refine ⟨ws, h1.kept hg ?_, h2.kept hg (fun i hi k hk e => by
    have h3 := (h2.block hi hk).1
    have := hr k e
    omega)⟩
  cases hk : v.ownBlock with
  | none => exact Or.inl rfl
  | some k => exact Or.inr (fun e => by
      have h3 := (World.ownsRow.lt h1 k hk).1
      have := hr k e.symm
      omega)
theorem not_same {w : World} {k : Nat} {cs ds : Array Value} {t u : TypeId} (h : w.heap[k]? = some (.cells cs t (0, 0))) (h2 : w.heap[k]? = some (.cells ds u (0, 0))) (hne : t ≠ u) : False := by
  rw [h] at h2; cases h2; exact hne rfl
/-- Behind an append of a list to the list in the box. -/
theorem ap_step {w W w1 : World} {hi : Nat} {S0 : Nat → Prop} {u v v' : Value} {ws : List Value} {pre : List (List Int)} {M : List Int} (hS : ∀ k, S0 k → k < w.heap.size) (hb : Boxed W w.heap.size 93 u) (hrow : W.ownsRow hi 32 1 u pre.length ws) (hnew : RowsI W hi (ws ++ [v]) (pre ++ [M]))
    (hbel : Below w.heap.size w W) (hhi : w.heap.size + 3 ≤ hi) (hown' : w1.ownsRow hi 32 1 v' (pre.length + 1) (ws ++ [v])) (hgrow : (W.alloc (.cells #[v] 32)).grownBy w1 u.ownBlock) :
    KeepsOthers W (w1.setCell ⟨w.heap.size, 0, none⟩ v') ∧ ItKeeps (fun k => S0 k ∨ w.heap.size + 3 ≤ k ∧ k < hi) W (w1.setCell ⟨w.heap.size, 0, none⟩ v') ∧ ApInv w hi (pre ++ [M]) (w1.setCell ⟨w.heap.size, 0, none⟩ v') := by
  have hb1 : Boxed w1 w.heap.size 93 u := (hb.alloc _).kept hgrow (hb.not_row (by decide) hrow)
  have hub : ∀ k, u.ownBlock = some k → hi ≤ k ∧ k < W.heap.size := fun k e => World.ownsRow.lt hrow k e
  refine ⟨?_, ⟨?_, ?_⟩, ⟨v', hb1.set v', ws ++ [v], ?_, ?_⟩, ?_, by omega⟩
  · refine ((KeepsOthers.alloc W _).trans (KeepsOthers.of_grownBy hgrow fun j o ej hj => ?_)).trans (KeepsOthers.setCell _ _ _)
    obtain ⟨cs, hc⟩ := row_block (hrow.alloc (.cells #[v] 32)) ej
    rw [hc] at hj; cases hj; rfl
  · have h1 := hgrow.size
    simp only [World.size_alloc] at h1
    have h2 : (w1.setCell ⟨w.heap.size, 0, none⟩ v').heap.size = w1.heap.size := by simp [World.setCell]
    omega
  · intro k hk hlt
    have hkh : k ≠ w.heap.size ∧ k < hi := by
      rcases hk with h | h
      · have := hS k h
        exact ⟨by omega, by omega⟩
      · exact ⟨by omega, h.2⟩
    have hkr : some k ≠ u.ownBlock := by
      intro e
      have := hub k e.symm
      omega
    rw [Below.heap_setCell _ _ _ _ hkh.1, hgrow.block k (by rw [World.size_alloc]; omega) hkr]
    exact Below.heap_alloc W _ k hlt
  · rw [List.length_append, List.length_singleton]
    exact hown'.kept (grownBy_setCell' w1 w.heap.size v') (Or.inr (hb1.not_row (by decide) hown').symm)
  · refine ((hnew.below (below1 W (.cells #[v] 32))).kept hgrow (fun i h k hk e => ?_)).kept (grownBy_setCell' w1 w.heap.size v') (fun i h k hk e => ?_)
    · obtain ⟨_, cs, hc⟩ := (hnew.below (below1 W (.cells #[v] 32))).block h hk
      obtain ⟨ds, hd⟩ := row_block (hrow.alloc (.cells #[v] 32)) e
      exact not_same hc hd (by decide)
    · obtain ⟨h3, _⟩ := hnew.block h hk
      cases e
      omega
  · exact ((hbel.alloc hbel.size _).grown hgrow (by simp; exact Nat.le_trans hbel.size (by omega)) (fun k e => by have := hub k e; omega)).setCell (p := ⟨w.heap.size, 0, none⟩) (Nat.le_refl _) _
end Go.Proofs.Ythjocjiiihebbaa
