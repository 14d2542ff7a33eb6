/- All tilings of a region: how many there are at most; what a call that returns them does. Merged of: AllM, AllS. -/
import Derived.Test.YthlagmnnkckcnaaSS
import Derived.Test.YthlagmnnkckcnaaLaidP
import Derived.Test.YthlagmnnkckcnaaFlipM
namespace Go.Proofs.Ythlagmnnkckcnaa
open Go.RowKit
set_option linter.unusedVariables false
set_option maxRecDepth 100000
set_option linter.unusedSimpArgs false

theorem cnt_range (xs : List Bool) : cnt xs = (List.range xs.length).countP (fun i => xs.getD i false) := by
  rw [cnt_sum, countP_sumN]
  apply sumN_congr
  intro i _
  unfold b2n
  cases xs.getD i false <;> rfl
theorem countP_split {n : Nat} {p q r : Nat → Bool} (h : ∀ i, i < n → (if p i then 1 else 0) + (if q i then 1 else 0) = (if r i then 1 else 0 : Nat)) : (List.range n).countP p + (List.range n).countP q = (List.range n).countP r := by
  rw [countP_sumN, countP_sumN, countP_sumN, ← sumN_add]
  exact sumN_congr h
/-- The free cells and those with a domino are all cells. -/
theorem free_cnt {W T : Int} {xs : List Bool} {L : List Int} (h : lok W T xs L = true) : freeN xs L + nzN L L.length = cnt xs := by
  obtain ⟨hr, hlen, _⟩ := lok_rv h
  rw [cnt_range]
  unfold freeN nzN
  rw [hlen]
  apply countP_split
  intro i hi
  by_cases hz : L.getD i 0 = 0
  · have e : freeB xs L i = xs.getD i false := by unfold freeB; rw [hz]; simp
    rw [e, hz]; simp
  · obtain ⟨o, _, _, _, hx, _⟩ := lok_at h hi hz
    have e0 : (L.getD i 0 == 0) = false := by simpa using hz
    have e1 : (L.getD i 0 != 0) = true := by simpa using hz
    have e : freeB xs L i = false := by unfold freeB; rw [e0, Bool.and_false]
    rw [e, e1, hx]
    rfl
theorem free_two {W T : Int} {xs : List Bool} {L : List Int} {k way : Int} (h : lok W T xs L = true) (hc : canLay W T xs L k way = true) : freeN xs (laidL W T xs L k way) + 2 = freeN xs L := by
  have h1 := free_cnt h
  have h2 := free_cnt (lok_laid h hc)
  have h3 := nz_twice h
  have h4 := nz_twice (lok_laid h hc)
  have h5 := laid_more h hc
  omega
theorem pow_half {a b : Nat} (h : a + 2 = b) : 2 ^ (a / 2) + 2 ^ (a / 2) ≤ 2 ^ (b / 2) := by
  subst h
  rw [show (a + 2) / 2 = a / 2 + 1 by omega, Nat.pow_succ]
  omega
theorem allL_count {W T : Int} {xs : List Bool} : ∀ (f : Nat) (L : List Int), lok W T xs L = true → (allL W T xs f L).length ≤ 2 ^ (freeN xs L / 2)
  | 0, L, _ => by simp [allL]
  | f + 1, L, h => by
    have hp : 0 < 2 ^ (freeN xs L / 2) := Nat.pow_pos (by omega)
    by_cases h0 : firstI xs L 0 xs.length < 0
    · rw [allL_done rfl h0]
      simp only [List.length_cons, List.length_nil]
      omega
    · rw [allL_succ rfl h0, List.length_append]
      have part : ∀ way : Int, (if canLay W T xs L (firstI xs L 0 xs.length) way = true then allL W T xs f (laidL W T xs L (firstI xs L 0 xs.length) way) else []).length ≤ (if canLay W T xs L (firstI xs L 0 xs.length) way = true then 2 ^ (freeN xs (laidL W T xs L (firstI xs L 0 xs.length) way) / 2) else 0) := by
        intro way
        split
        · rename_i hc
          exact allL_count f _ (lok_laid h hc)
        · simp
      have p1 := part 1
      have p2 := part 2
      have q : ∀ way : Int, canLay W T xs L (firstI xs L 0 xs.length) way = true → 2 ^ (freeN xs (laidL W T xs L (firstI xs L 0 xs.length) way) / 2) + 2 ^ (freeN xs (laidL W T xs L (firstI xs L 0 xs.length) way) / 2) ≤ 2 ^ (freeN xs L / 2) := fun way hc => pow_half (free_two h hc)
      by_cases c1 : canLay W T xs L (firstI xs L 0 xs.length) 1 = true
      · have q1 := q 1 c1
        simp only [if_pos c1] at p1 ⊢
        by_cases c2 : canLay W T xs L (firstI xs L 0 xs.length) 2 = true
        · have q2 := q 2 c2
          simp only [if_pos c2] at p2 ⊢
          omega
        · simp only [if_neg c2] at p2 ⊢
          omega
      · simp only [if_neg c1] at p1 ⊢
        by_cases c2 : canLay W T xs L (firstI xs L 0 xs.length) 2 = true
        · have q2 := q 2 c2
          simp only [if_pos c2] at p2 ⊢
          omega
        · simp only [if_neg c2] at p2 ⊢
          omega
/-- All tilings of a region, in order. -/
def allF (W T : Int) (xs : List Bool) : List (List Int) := if rv W T xs then allL W T xs (xs.length + 1) (bareL W T xs) else []
theorem allF_count (W T : Int) (xs : List Bool) : (allF W T xs).length ≤ 4096 := by
  unfold allF
  split
  · rename_i h
    have h1 := allL_count (W := W) (T := T) (xs := xs) (xs.length + 1) (bareL W T xs) (by rw [lok_bareL]; exact h)
    have h2 := free_cnt (W := W) (T := T) (xs := xs) (L := bareL W T xs) (by rw [lok_bareL]; exact h)
    obtain ⟨_, _, _, _, _, h3⟩ := rv_true h
    have h4 : 2 ^ (freeN xs (bareL W T xs) / 2) ≤ 2 ^ 12 := Nat.pow_le_pow_right (by omega) (by omega)
    omega
  · simp
/-- Every list that comes has as many entries, and is a tiling. -/
theorem allL_each {W T : Int} {xs : List Bool} : ∀ (f : Nat) (L : List Int), lok W T xs L = true → ∀ M, M ∈ allL W T xs f L → M.length = xs.length ∧ tok W T xs M = true
  | 0, L, _, M, hM => by simp [allL] at hM
  | f + 1, L, h, M, hM => by
    by_cases h0 : firstI xs L 0 xs.length < 0
    · rw [allL_done rfl h0] at hM
      simp only [List.mem_cons, List.not_mem_nil, or_false] at hM
      subst hM
      obtain ⟨_, hlen, _⟩ := lok_rv h
      refine ⟨hlen, ?_⟩
      unfold tok
      rw [h, hlen]
      simpa using h0
    · rw [allL_succ rfl h0, List.mem_append] at hM
      rcases hM with hM | hM
      all_goals
        split at hM
        · rename_i hc
          exact allL_each f _ (lok_laid h hc) M hM
        · simp at hM
theorem allF_each {W T : Int} {xs : List Bool} {M : List Int} (hM : M ∈ allF W T xs) : M.length = xs.length ∧ tok W T xs M = true := by
  unfold allF at hM
  split at hM
  · rename_i h
    exact allL_each _ _ (by rw [lok_bareL]; exact h) M hM
  · simp at hM

/-- A call returns a list of lists of its own. -/
def RetSS (w : World) (rows : List (List Int)) (e : Ending) (w' : World) : Prop :=
  ∃ a cap, e = .returned (.slice a rows.length cap) ∧ OwnsSS w' w.heap.size (.slice a rows.length cap) rows ∧ Below w.heap.size w w'
theorem OwnsSS.form {w : World} {B : Nat} {v : Value} {rows : List (List Int)} (h : OwnsSS w B v rows) : ∃ (a : Option Addr) (cap : Nat), v = .slice a rows.length cap := by
  obtain ⟨ws, h1, _⟩ := h
  rcases h1.2 with ⟨e, h0⟩ | ⟨g, cap, cur, e, _⟩
  · exact ⟨none, 0, by rw [e, h0]⟩
  · exact ⟨_, cap, e⟩
theorem ret_slS {a : Option Addr} {n n' cap : Nat} (h : n = n') : Ending.returned (.slice a n cap) = .returned (.slice a n' cap) := by rw [h]

/-- Lists behind lists. -/
theorem RowsI.append {w : World} {B B2 : Nat} {ws us : List Value} {rows qs : List (List Int)} (h : RowsI w B ws rows) (k : RowsI w B2 us qs) (hB : B ≤ B2) (hlt : ∀ i, i < rows.length → ∀ b, (ws.getD i (.slice none 0 0)).ownBlock = some b → b < B2) : RowsI w B (ws ++ us) (rows ++ qs) := by
  have gl : ∀ i, i < rows.length → (ws ++ us).getD i (.slice none 0 0) = ws.getD i (.slice none 0 0) := fun i hi => by
    simp [List.getD, List.getElem?_append_left (show i < ws.length by rw [h.len]; exact hi)]
  have gr : ∀ i, i < rows.length → (rows ++ qs).getD i [] = rows.getD i [] := fun i hi => by
    simp [List.getD, List.getElem?_append_left hi]
  have hl : ∀ i, rows.length ≤ i → (ws ++ us).getD i (.slice none 0 0) = us.getD (i - rows.length) (.slice none 0 0) := fun i hi => by
    simp [List.getD, List.getElem?_append_right (show ws.length ≤ i by rw [h.len]; exact hi), h.len]
  have hr : ∀ i, rows.length ≤ i → (rows ++ qs).getD i [] = qs.getD (i - rows.length) [] := fun i hi => by
    simp [List.getD, List.getElem?_append_right hi]
  refine ⟨by simp [h.len, k.len], fun i hi => ?_, fun i j hij hj b hb => ?_⟩
  · rw [List.length_append] at hi
    by_cases e : i < rows.length
    · rw [gl i e, gr i e]; exact h.own i e
    · rw [hl i (by omega), hr i (by omega)]; exact (k.own _ (by omega)).lower hB
  · rw [List.length_append] at hj
    by_cases e : j < rows.length
    · rw [gl i (by omega)] at hb
      rw [gl j e]; exact h.apart i j hij e b hb
    · rw [hl j (by omega)]
      by_cases e2 : i < rows.length
      · rw [gl i e2] at hb
        intro hb2
        have h1 := hlt i e2 b hb
        have h2 := (k.block (i := j - rows.length) (by omega) hb2).1
        omega
      · rw [hl i (by omega)] at hb
        exact k.apart (i - rows.length) (j - rows.length) (by omega) (by omega) b hb
theorem BoolsAt.lt {w : World} {a : Option Addr} {n : Nat} {xs : List Bool} {W T : Int} {L : List Int} (h : BoolsAt w a xs) (hn : n = xs.length) (hl' : L.length = n) (hl : lok W T xs L = true) {b off : Nat} (e : a = some ⟨b, off, none⟩) : b < w.heap.size := by
  obtain ⟨hr, _, _⟩ := lok_rv hl
  obtain ⟨v1, v2, v3, v4, v5, _⟩ := rv_true hr
  have hn0 : 0 < n := rv_pos v1 v3 (by rw [hn]; exact v5)
  obtain ⟨b', off', e', hc⟩ := h 0 (by omega)
  rw [e'] at e
  cases e
  exact World.block_lt_of_cell? w _ hc
theorem RowsI.lt {w : World} {B : Nat} {ws : List Value} {rows : List (List Int)} (h : RowsI w B ws rows) {i b : Nat} (hi : i < rows.length) (hb : (ws.getD i (.slice none 0 0)).ownBlock = some b) : b < w.heap.size := by
  obtain ⟨_, cs, hc⟩ := h.block hi hb
  exact heap_lt hc
theorem RowsI.one {w : World} {B : Nat} {v : Value} {M : List Int} (h : OwnsI w B v M) : RowsI w B [v] [M] :=
  RowsI.snoc (RowsI.nil w B) h (fun i hi => absurd hi (Nat.not_lt_zero i))

theorem allF_len (W T : Int) (xs : List Bool) : (allF W T xs).length ≤ 1048576 := by have := allF_count W T xs; omega
theorem allF_valid {W T : Int} {xs : List Bool} {i : Nat} (hi : i < (allF W T xs).length) : rv W T xs = true := by
  unfold allF at hi
  split at hi
  · assumption
  · simp at hi
theorem allF_row {W T : Int} {xs : List Bool} {i : Nat} (hi : i < (allF W T xs).length) : ((allF W T xs).getD i []).length = xs.length ∧ tok W T xs ((allF W T xs).getD i []) = true := by
  have e : (allF W T xs).getD i [] = (allF W T xs)[i] := by simp [List.getD, hi]
  rw [e]
  exact allF_each (List.getElem_mem hi)
theorem allF_col (W T : Int) (xs : List Bool) : ∀ i, i < (allF W T xs).length → ((allF W T xs).getD i []).length ≤ 1048576 := by
  intro i hi
  have hr := allF_valid hi
  obtain ⟨v1, v2, v3, v4, v5, _⟩ := rv_true hr
  rw [(allF_row hi).1]
  have : W * T ≤ 6 * 6 := Int.mul_le_mul (by omega) (by omega) (by omega) (by omega)
  omega
end Go.Proofs.Ythlagmnnkckcnaa

namespace Go.Proofs.Ythlagmnnkckcnaa
open Go.RowKit
set_option linter.unusedVariables false
set_option maxRecDepth 100000
set_option linter.unusedSimpArgs false

/-- The call returns a list of lists; the list lies in a block of its own, the lists themselves at B or beyond. -/
def RetAll (B : Nat) (w : World) (rows : List (List Int)) (e : Ending) (w' : World) : Prop :=
  ∃ g cap ws, e = .returned (.slice (some ⟨g, 0, none⟩) rows.length cap) ∧ w'.ownsRow w.heap.size 27 1 (.slice (some ⟨g, 0, none⟩) rows.length cap) rows.length ws ∧ RowsI w' B ws rows ∧ Below w.heap.size w w'
theorem rows_one (v : Value) (h : v.oneCell' = true) : ∀ u ∈ [v], u.oneCell' = true := by intro u hu; simp at hu; subst hu; exact h
theorem own_oneCell {w : World} {B : Nat} {v : Value} {M : List Int} (h : OwnsI w B v M) : v.oneCell' = true := by
  rcases h.2 with ⟨e, _⟩ | ⟨g, cap, cur, e, _⟩ <;> rw [e] <;> rfl
theorem RowsI.oneCell {w : World} {B : Nat} {ws : List Value} {rows : List (List Int)} (h : RowsI w B ws rows) : ∀ u ∈ ws, u.oneCell' = true := by
  intro u hu
  obtain ⟨i, hi, rfl⟩ := List.mem_iff_getElem.1 hu
  have := own_oneCell (h.own i (by rw [← h.len]; exact hi))
  simpa [List.getD, hi] using this
theorem row_some {w : World} {B n size : Nat} {e : TypeId} {g cap : Nat} {ws : List Value} {v' : Value} (h : w.ownsRow B e size v' n ws) (hne : v' ≠ .slice none 0 0) : ∃ g cap, v' = .slice (some ⟨g, 0, none⟩) n cap := by
  rcases h.2 with ⟨e, _⟩ | ⟨g, cap, cur, e, _⟩
  · exact absurd e hne
  · exact ⟨g, cap, e⟩
theorem made_empty (w : World) (o : Obj) {w1 : World} (hb : Below ((w.alloc o).alloc (.cells #[] 27)).heap.size ((w.alloc o).alloc (.cells #[] 27)) w1) : w1.ownsRow w.heap.size 27 1 (.slice (some ⟨w.heap.size + 1, 0, none⟩) 0 0) 0 [] := by
  have h := World.ownsRow_made (w.alloc o) #[] 0 (base := w.heap.size) (e := 27) (size := 1) (by simp) (Nat.zero_le _) rfl
  rw [World.size_alloc] at h
  exact h.kept (grown_of_below hb none) (Or.inr (by simp [Value.ownBlock]))
/-- The lists that have come when so many directions have been tried. -/
def partsB (A1 A2 : List (List Int)) : Nat → List (List Int)
  | 0 => []
  | 1 => []
  | 2 => A1
  | _ => A1 ++ A2

end Go.Proofs.Ythlagmnnkckcnaa
