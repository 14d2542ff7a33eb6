/- Contract of spec.l2Complete: a list is completed, the east first. -/
import Derived.Test.YthlagmnnkckcnaaLaid
import Derived.Test.YthlagmnnkckcnaaLayOne
import Derived.Test.YthlagmnnkckcnaaTill
namespace Go.Proofs.Ythlagmnnkckcnaa
open Go.RowKit
set_option linter.unusedVariables false
set_option maxRecDepth 100000
set_option linter.unusedSimpArgs false

/-- The call returns a list that lies at B or beyond, and a mark. -/
def RetLB (B : Nat) (w : World) (n : Nat) (ys : List Int) (ok : Bool) (e : Ending) (w' : World) : Prop :=
  ∃ a cap, e = .returned (.tuple #[.slice a n cap, .bool ok]) ∧ OwnsI w' B (.slice a n cap) ys ∧ Below w.heap.size w w'

/-- The first completion, and whether there is one; f is more than there are free cells. -/
def compL (W T : Int) (xs : List Bool) : Nat → List Int → List Int × Bool
  | 0, _ => ([], false)
  | f + 1, L =>
    if firstI xs L 0 xs.length < 0 then (L, true)
    else if ((layF W T xs L (firstI xs L 0 xs.length) 1).2 && (compL W T xs f (layF W T xs L (firstI xs L 0 xs.length) 1).1).2) = true then compL W T xs f (layF W T xs L (firstI xs L 0 xs.length) 1).1
    else if ((layF W T xs L (firstI xs L 0 xs.length) 2).2 && (compL W T xs f (layF W T xs L (firstI xs L 0 xs.length) 2).1).2) = true then compL W T xs f (layF W T xs L (firstI xs L 0 xs.length) 2).1
    else ([], false)
theorem compL_succ {W T : Int} {xs : List Bool} {f : Nat} {L : List Int} {c : Int} (h : firstI xs L 0 xs.length = c) (h0 : ¬ c < 0) : compL W T xs (f + 1) L =
    if ((layF W T xs L c 1).2 && (compL W T xs f (layF W T xs L c 1).1).2) = true then compL W T xs f (layF W T xs L c 1).1
      else if ((layF W T xs L c 2).2 && (compL W T xs f (layF W T xs L c 2).1).2) = true then compL W T xs f (layF W T xs L c 2).1 else ([], false) := by
  subst h
  have e : compL W T xs (f + 1) L = if firstI xs L 0 xs.length < 0 then (L, true)
    else if ((layF W T xs L (firstI xs L 0 xs.length) 1).2 && (compL W T xs f (layF W T xs L (firstI xs L 0 xs.length) 1).1).2) = true then compL W T xs f (layF W T xs L (firstI xs L 0 xs.length) 1).1
    else if ((layF W T xs L (firstI xs L 0 xs.length) 2).2 && (compL W T xs f (layF W T xs L (firstI xs L 0 xs.length) 2).1).2) = true then compL W T xs f (layF W T xs L (firstI xs L 0 xs.length) 2).1
    else ([], false) := rfl
  rw [e, if_neg h0]
theorem compL_len (W T : Int) (xs : List Bool) : ∀ f L, (compL W T xs f L).1.length ≤ L.length
  | 0, L => by simp [compL]
  | f + 1, L => by
    unfold compL
    split
    · exact Nat.le_refl _
    · split
      · exact Nat.le_trans (compL_len W T xs f _) (layF_len _ _ _ _ _ _)
      · split
        · exact Nat.le_trans (compL_len W T xs f _) (layF_len _ _ _ _ _ _)
        · simp
/-- How many cells are free. -/
def freeN (xs : List Bool) (L : List Int) : Nat := (List.range xs.length).countP (freeB xs L)
theorem freeN_le (xs : List Bool) (L : List Int) : freeN xs L ≤ xs.length := by
  have := List.countP_le_length (p := freeB xs L) (l := List.range xs.length)
  rwa [List.length_range] at this
theorem layF_yes {W T : Int} {xs : List Bool} {L : List Int} {k way : Int} (h : (layF W T xs L k way).2 = true) : lok W T xs L = true ∧ canLay W T xs L k way = true ∧ (layF W T xs L k way).1 = laidL W T xs L k way := by
  unfold layF at h ⊢
  by_cases hl : lok W T xs L = true
  · rw [if_pos hl] at h ⊢; exact ⟨hl, h, rfl⟩
  · rw [if_neg hl] at h; cases h
theorem layF_length {W T : Int} {xs : List Bool} {L : List Int} {k way : Int} (h : (layF W T xs L k way).2 = true) : (layF W T xs L k way).1.length = L.length := by
  rw [(layF_yes h).2.2, laidL_len]
theorem free_drop {W T : Int} {xs : List Bool} {L : List Int} {k way : Int} (hw : way = 1 ∨ way = 2) (h : (layF W T xs L k way).2 = true) : freeN xs (layF W T xs L k way).1 < freeN xs L := by
  obtain ⟨hl, hc, e⟩ := layF_yes h
  rw [e]
  obtain ⟨hr, hlen, _⟩ := lok_rv hl
  obtain ⟨v1, v2, v3, v4, v5, _⟩ := rv_true hr
  have hc0 := hc
  unfold canLay at hc
  simp only [Bool.and_eq_true, decide_eq_true_eq] at hc
  obtain ⟨⟨h0, h1⟩, h2⟩ := hc
  obtain ⟨k0, k1, o1, ok, hway⟩ := cellB_bd (W := W) (T := T) (n := xs.length) v1 v5 h0
  obtain ⟨kn, rfl⟩ := Int.eq_ofNat_of_zero_le k0
  obtain ⟨on, ho⟩ := Int.eq_ofNat_of_zero_le h0
  rw [ho] at h2 o1 ok
  simp only [Int.toNat_natCast] at h1 h2
  unfold laidL
  rw [if_pos hc0, ho]
  simp only [Int.toNat_natCast]
  have hb : backI way ≠ 0 := by unfold backI; omega
  have hw0 : way ≠ 0 := by omega
  unfold freeN
  refine countP_lt _ _ _ (fun j _ hj => ?_) kn (List.mem_range.2 (by omega)) ?_ h1
  · unfold freeB at hj ⊢
    rw [getD_set1, getD_set1] at hj
    simp only [Bool.and_eq_true, beq_iff_eq] at hj ⊢
    refine ⟨hj.1, ?_⟩
    have h3 := hj.2
    split at h3
    · exact absurd h3 hb
    · split at h3
      · exact absurd h3 hw0
      · exact h3
  · unfold freeB
    rw [getD_set1, getD_set1]
    have hne : ¬ kn = on := by intro e; apply ok; rw [e]
    rw [if_neg (fun q => hne q.1), if_pos ⟨rfl, by omega⟩]
    simp [hw0]
theorem ret_slC {a : Option Addr} {n n' cap : Nat} {b b' : Bool} (h : n = n') (hb : b = b') : Ending.returned (.tuple #[.slice a n cap, .bool b]) = .returned (.tuple #[.slice a n' cap, .bool b']) := by rw [h, hb]

end Go.Proofs.Ythlagmnnkckcnaa
