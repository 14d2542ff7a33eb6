/- Lists of lists in the laws: equal ones, marked ones, held ones. -/
import Derived.Test.YthjocjiiihebbaaAllS
namespace Go.Proofs.Ythjocjiiihebbaa
open Go.RowKit
set_option linter.unusedVariables false
set_option maxRecDepth 100000
set_option linter.unusedSimpArgs false

/-- At a lie lists that read so. -/
def RowsAt (w : World) (a : Option Addr) (rows : List (List Int)) : Prop :=
  ∀ i, i < rows.length → ∃ b off a' cap, a = some ⟨b, off, none⟩ ∧ w.cell? ⟨b, off + i, none⟩ = some (.slice a' (rows.getD i []).length cap) ∧ IntsAt w a' (rows.getD i [])
theorem RowsAt.later {w w' : World} {B : Nat} {a : Option Addr} {rows : List (List Int)} (h : RowsAt w a rows) (hb : Below B w w') (hB : w.heap.size ≤ B) : RowsAt w' a rows := by
  intro i hi
  obtain ⟨b, off, a', cap, e, hc, hx⟩ := h i hi
  have hlt := World.block_lt_of_cell? w _ hc
  simp only at hlt
  exact ⟨b, off, a', cap, e, (hb.cell (p := ⟨b, off + i, none⟩) (by show b < B; omega)).trans hc, hx.later hb hB⟩
theorem RowsAt.below {w w' : World} {a : Option Addr} {rows : List (List Int)} (h : RowsAt w a rows) (hb : Below w.heap.size w w') : RowsAt w' a rows := h.later hb (Nat.le_refl _)
theorem RowsAt.one {w : World} {a : Option Addr} {rows : List (List Int)} (h : RowsAt w a rows) (o : Obj) : RowsAt (w.alloc o) a rows := h.below (below1 w o)
theorem RowsAt.empty (w : World) (a : Option Addr) : RowsAt w a [] := fun i hi => absurd hi (Nat.not_lt_zero i)
theorem own_form {w : World} {B : Nat} {v : Value} {M : List Int} (h : OwnsI w B v M) : ∃ a cap, v = .slice a M.length cap ∧ IntsAt w a M := by
  obtain ⟨a, cap, rfl⟩ := h.form2
  exact ⟨a, cap, rfl, OwnsI.at h⟩
theorem OwnsSS.at {w : World} {B : Nat} {a : Option Addr} {n cap : Nat} {rows : List (List Int)} (h : OwnsSS w B (.slice a n cap) rows) : RowsAt w a rows := by
  obtain ⟨ws, h1, h2⟩ := h
  intro i hi
  obtain ⟨a', cap', e, hx⟩ := own_form (h2.own i hi)
  rcases h1.2 with ⟨_, h0⟩ | ⟨g, cap2, cur, hv, _⟩
  · omega
  · simp only [Value.slice.injEq] at hv
    obtain ⟨rfl, rfl, rfl⟩ := hv
    refine ⟨g, 0, a', cap', rfl, ?_, hx⟩
    have hl : i < ws.length := by rw [h2.len]; exact hi
    rw [Nat.zero_add, World.ownsRow.cellAt (xs := ws) h1 i (by omega)]
    have e2 : ws.getD i (.slice none 0 0) = ws[i] := by simp [List.getD, hl]
    rw [e2] at e
    rw [List.getElem?_eq_getElem hl, e]
theorem RowsAt.cell {w : World} {a : Option Addr} {rows : List (List Int)} (h : RowsAt w a rows) {i : Nat} (hi : i < rows.length) {b off : Nat} (e : a = some ⟨b, off, none⟩) : ∃ a' cap, w.cell? ⟨b, off + i, none⟩ = some (.slice a' (rows.getD i []).length cap) ∧ IntsAt w a' (rows.getD i []) := by
  obtain ⟨b', off', a', cap, e', hc, hx⟩ := h i hi
  rw [e] at e'
  cases e'
  exact ⟨a', cap, hc, hx⟩

/-- How many entries the first lists have together. -/
def offN (rows : List (List Int)) (j : Nat) : Nat := sumN j fun i => (rows.getD i []).length
theorem offN_succ (rows : List (List Int)) (j : Nat) : offN rows (j + 1) = offN rows j + (rows.getD j []).length := sumN_succ _ _
theorem offN_mono (rows : List (List Int)) : ∀ {i j : Nat}, i ≤ j → offN rows i ≤ offN rows j
  | i, 0, h => by obtain rfl : i = 0 := by omega
                  exact Nat.le_refl _
  | i, j + 1, h => by
    by_cases e : i = j + 1
    · rw [e]; exact Nat.le_refl _
    · have := offN_mono rows (show i ≤ j by omega)
      rw [offN_succ]; omega
/-- The lists, marked from k on; those before j of them. -/
def markedSS (rows : List (List Int)) (j : Nat) (k : Int) : List (List Int) := (List.range rows.length).map fun i => if i < j then marksI (rows.getD i []).length (k + offN rows i) else rows.getD i []
theorem markedSS_len (rows : List (List Int)) (j : Nat) (k : Int) : (markedSS rows j k).length = rows.length := by simp [markedSS]
theorem markedSS_at (rows : List (List Int)) (j : Nat) (k : Int) {i : Nat} (hi : i < rows.length) : (markedSS rows j k).getD i [] = if i < j then marksI (rows.getD i []).length (k + offN rows i) else rows.getD i [] := by simp [markedSS, hi]
theorem markedSS_zero (rows : List (List Int)) (k : Int) : markedSS rows 0 k = rows := by
  apply List.ext_getElem
  · simp [markedSS]
  · intro i h1 h2; simp [markedSS, h2]

/-- As RetSS, the number of lists by a name. -/
def RetSSn (w : World) (n : Nat) (rows : List (List Int)) (e : Ending) (w' : World) : Prop :=
  ∃ a cap, e = .returned (.slice a n cap) ∧ OwnsSS w' w.heap.size (.slice a n cap) rows ∧ Below w.heap.size w w'
theorem heap_under {w w' : World} {B b : Nat} {o : Obj} (h : w.heap[b]? = some o) (hb : Below B w w') (hlt : b < B) : w'.heap[b]? = some o := (hb.block b hlt).trans h
theorem offN_le (rows : List (List Int)) (c : Nat) (h : ∀ i, i < rows.length → (rows.getD i []).length ≤ c) : ∀ j, j ≤ rows.length → offN rows j ≤ j * c
  | 0, _ => by rw [show offN rows 0 = 0 from rfl]; omega
  | j + 1, hj => by
    have h1 := offN_le rows c h j (by omega)
    have h2 := h j (by omega)
    rw [offN_succ, Nat.succ_mul]
    omega
theorem allF_off (W T : Int) (xs : List Bool) : offN (allF W T xs) (allF W T xs).length ≤ 147456 := by
  have h1 := offN_le (allF W T xs) 36 (fun i hi => by
    have hr := allF_valid hi
    obtain ⟨v1, v2, v3, v4, v5, _⟩ := rv_true hr
    rw [(allF_row hi).1]
    have : W * T ≤ 6 * 6 := Int.mul_le_mul (by omega) (by omega) (by omega) (by omega)
    omega) _ (Nat.le_refl _)
  have h2 := allF_count W T xs
  omega
end Go.Proofs.Ythjocjiiihebbaa
