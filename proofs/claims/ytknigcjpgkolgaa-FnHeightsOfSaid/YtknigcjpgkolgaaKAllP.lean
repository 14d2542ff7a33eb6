/- Lists of dominoes turned and mirrored: they are right for the field turned and mirrored. Merged of: TurnP, TokP, AllP. -/
import Derived.Test.YtknigcjpgkolgaaKLatF
namespace Go.Proofs.Ytknigcjpgkolgaa
open Go.RowKit
set_option linter.unusedVariables false
set_option maxRecDepth 100000
set_option linter.unusedSimpArgs false

end Go.Proofs.Ytknigcjpgkolgaa

namespace Go.Proofs.Ytknigcjpgkolgaa
open Go.RowKit
set_option linter.unusedVariables false
set_option maxRecDepth 100000
set_option linter.unusedSimpArgs false

theorem lok_of {W T : Int} {xs : List Bool} {L : List Int} (hr : rv W T xs = true) (hl : L.length = xs.length) (h : ∀ k, k < xs.length → L.getD k 0 ≠ 0 → ∃ o : Nat, stepI W T k (L.getD k 0) = o ∧ xs.getD k false = true ∧ xs.getD o false = true ∧ L.getD o 0 = backI (L.getD k 0)) : lok W T xs L = true := by
  unfold lok goodN
  rw [hr, hl]
  simp only [BEq.rfl, Bool.true_and, List.all_eq_true]
  intro k hk
  have hk' := List.mem_range.1 hk
  unfold goodB bothB
  by_cases h0 : L.getD k 0 = 0
  · rw [h0]; rfl
  · obtain ⟨o, h1, h2, h3, h4⟩ := h k hk' h0
    rw [h1]
    simp only [Int.toNat_natCast]
    rw [h2, h3, h4]
    simp [-List.getD_eq_getElem?_getD]
theorem lok_bare {W T : Int} {xs : List Bool} (hr : rv W T xs = true) : lok W T xs (List.replicate xs.length 0) = true := by
  refine lok_of hr (by simp) fun k hk h0 => absurd ?_ h0
  simp [List.getD, hk]
theorem lok_bareL (W T : Int) (xs : List Bool) : lok W T xs (bareL W T xs) = rv W T xs := by
  unfold bareL
  cases h : rv W T xs
  · unfold lok; rw [h]; rfl
  · rw [if_pos rfl]; exact lok_bare h
/-- What a domino that can be laid tells. -/
theorem canLay_at {W T : Int} {xs : List Bool} {L : List Int} {k way : Int} (hr : rv W T xs = true) (hl : L.length = xs.length) (h : canLay W T xs L k way = true) :
    ∃ kn o : Nat, k = kn ∧ kn < xs.length ∧ o < xs.length ∧ o ≠ kn ∧ stepI W T kn way = o ∧ freeB xs L kn = true ∧ freeB xs L o = true ∧ 1 ≤ way ∧ way ≤ 4 ∧ stepI W T o (backI way) = kn ∧ laidL W T xs L k way = (L.set kn way).set o (backI way) := by
  obtain ⟨v1, v2, v3, v4, v5, _⟩ := rv_true hr
  have hc := h
  unfold canLay at h
  simp only [Bool.and_eq_true, decide_eq_true_eq] at h
  obtain ⟨⟨h0, h1⟩, h2⟩ := h
  obtain ⟨k0, k1, o1, ok, hway⟩ := cellB_bd (W := W) (T := T) (n := xs.length) v1 v5 h0
  obtain ⟨kn, rfl⟩ := Int.eq_ofNat_of_zero_le k0
  obtain ⟨o, ho⟩ := Int.eq_ofNat_of_zero_le h0
  have hcs : cellB W T xs.length kn way = stepI W T kn way := by unfold cellB; rw [if_pos ⟨k0, k1⟩]
  have hst : stepI W T kn way = o := by rw [← hcs]; exact ho
  have hrb := rk_back (W := W) (T := T) (k := (kn : Int)) (way := way) v1 v2 (by omega) (by rw [← v5]; omega) (by simp only [okOf, decide_eq_true_eq] at hway; omega) (by rw [hst]; omega)
  rw [hst] at hrb
  rw [ho] at h2 o1 ok
  simp only [Int.toNat_natCast] at h1 h2
  simp only [okOf, decide_eq_true_eq] at hway
  refine ⟨kn, o, rfl, by omega, by omega, fun e => ok (by rw [e]), hst, h1, h2, by omega, by omega, hrb, ?_⟩
  unfold laidL
  rw [if_pos hc, ho]
  simp
theorem lok_laid {W T : Int} {xs : List Bool} {L : List Int} {k way : Int} (h : lok W T xs L = true) (hc : canLay W T xs L k way = true) : lok W T xs (laidL W T xs L k way) = true := by
  obtain ⟨hr, hlen, _⟩ := lok_rv h
  obtain ⟨kn, o, rfl, hk, ho, hne, hs, hf, hfo, w1, w4, hb, e⟩ := canLay_at hr hlen hc
  rw [e]
  exact lok_lay h hk ho hne hf hfo ⟨w1, w4⟩ hs hb
theorem free_zero {xs : List Bool} {L : List Int} {k : Nat} (h : freeB xs L k = true) : xs.getD k false = true ∧ L.getD k 0 = 0 := by
  unfold freeB at h; rw [Bool.and_eq_true, beq_iff_eq] at h; exact h
end Go.Proofs.Ytknigcjpgkolgaa

namespace Go.Proofs.Ytknigcjpgkolgaa
open Go.RowKit
set_option linter.unusedVariables false
set_option maxRecDepth 100000
set_option linter.unusedSimpArgs false

end Go.Proofs.Ytknigcjpgkolgaa

namespace Go.Proofs.Ytknigcjpgkolgaa
open Go.RowKit
set_option linter.unusedVariables false
set_option maxRecDepth 100000
set_option linter.unusedSimpArgs false

end Go.Proofs.Ytknigcjpgkolgaa

namespace Go.Proofs.Ytknigcjpgkolgaa
open Go.RowKit
set_option linter.unusedVariables false
set_option maxRecDepth 100000
set_option linter.unusedSimpArgs false

end Go.Proofs.Ytknigcjpgkolgaa

namespace Go.Proofs.Ytknigcjpgkolgaa
open Go.RowKit
set_option linter.unusedVariables false
set_option maxRecDepth 100000
set_option linter.unusedSimpArgs false

/-- How many cells are free. -/
def freeN (xs : List Bool) (L : List Int) : Nat := (List.range xs.length).countP (freeB xs L)
theorem freeN_le (xs : List Bool) (L : List Int) : freeN xs L ≤ xs.length := by
  have := List.countP_le_length (p := freeB xs L) (l := List.range xs.length)
  rwa [List.length_range] at this
theorem layF_yes {W T : Int} {xs : List Bool} {L : List Int} {k way : Int} (h : (layF W T xs L k way).2 = true) : lok W T xs L = true ∧ canLay W T xs L k way = true ∧ (layF W T xs L k way).1 = laidL W T xs L k way := by
  unfold layF at h ⊢
  by_cases hl : lok W T xs L = true
  · rw [if_pos hl] at h ⊢; exact ⟨hl, h, rfl⟩
  · rw [if_neg hl] at h; cases h
theorem free_drop {W T : Int} {xs : List Bool} {L : List Int} {k way : Int} (hw : way = 1 ∨ way = 2) (h : (layF W T xs L k way).2 = true) : freeN xs (layF W T xs L k way).1 < freeN xs L := by
  obtain ⟨hl, hc, e⟩ := layF_yes h
  rw [e]
  obtain ⟨hr, hlen, _⟩ := lok_rv hl
  obtain ⟨v1, v2, v3, v4, v5, _⟩ := rv_true hr
  have hc0 := hc
  unfold canLay at hc
  simp only [Bool.and_eq_true, decide_eq_true_eq] at hc
  obtain ⟨⟨h0, h1⟩, h2⟩ := hc
  obtain ⟨k0, k1, o1, ok, hway⟩ := cellB_bd (W := W) (T := T) (n := xs.length) v1 v5 h0
  obtain ⟨kn, rfl⟩ := Int.eq_ofNat_of_zero_le k0
  obtain ⟨on, ho⟩ := Int.eq_ofNat_of_zero_le h0
  rw [ho] at h2 o1 ok
  simp only [Int.toNat_natCast] at h1 h2
  unfold laidL
  rw [if_pos hc0, ho]
  simp only [Int.toNat_natCast]
  have hb : backI way ≠ 0 := by unfold backI; omega
  have hw0 : way ≠ 0 := by omega
  unfold freeN
  refine countP_lt _ _ _ (fun j _ hj => ?_) kn (List.mem_range.2 (by omega)) ?_ h1
  · unfold freeB at hj ⊢
    rw [getD_set1, getD_set1] at hj
    simp only [Bool.and_eq_true, beq_iff_eq] at hj ⊢
    refine ⟨hj.1, ?_⟩
    have h3 := hj.2
    split at h3
    · exact absurd h3 hb
    · split at h3
      · exact absurd h3 hw0
      · exact h3
  · unfold freeB
    rw [getD_set1, getD_set1]
    have hne : ¬ kn = on := by intro e; apply ok; rw [e]
    rw [if_neg (fun q => hne q.1), if_pos ⟨rfl, by omega⟩]
    simp [hw0]
end Go.Proofs.Ytknigcjpgkolgaa

namespace Go.Proofs.Ytknigcjpgkolgaa
open Go.RowKit
set_option linter.unusedVariables false
set_option maxRecDepth 100000
set_option linter.unusedSimpArgs false

theorem step_three {W T k o : Int} (h : stepI W T k 3 = o) (h0 : 0 ≤ o) : o = k - 1 := by
  unfold stepI at h; simp at h; split at h <;> omega
theorem step_four {W T k o : Int} (h : stepI W T k 4 = o) (h0 : 0 ≤ o) : o = k - W := by
  unfold stepI at h; simp at h; split at h <;> omega
end Go.Proofs.Ytknigcjpgkolgaa

namespace Go.Proofs.Ytknigcjpgkolgaa
open Go.RowKit
set_option linter.unusedVariables false
set_option maxRecDepth 100000
set_option linter.unusedSimpArgs false

/-- All tilings with the dominoes of a list, in order; f is more than there are free cells. -/
def allL (W T : Int) (xs : List Bool) : Nat → List Int → List (List Int)
  | 0, _ => []
  | f + 1, L =>
    if firstI xs L 0 xs.length < 0 then [L]
    else (if canLay W T xs L (firstI xs L 0 xs.length) 1 = true then allL W T xs f (laidL W T xs L (firstI xs L 0 xs.length) 1) else []) ++
      (if canLay W T xs L (firstI xs L 0 xs.length) 2 = true then allL W T xs f (laidL W T xs L (firstI xs L 0 xs.length) 2) else [])
theorem allL_done {W T : Int} {xs : List Bool} {f : Nat} {L : List Int} {c : Int} (h : firstI xs L 0 xs.length = c) (h0 : c < 0) : allL W T xs (f + 1) L = [L] := by
  subst h
  have e : allL W T xs (f + 1) L = if firstI xs L 0 xs.length < 0 then [L]
    else (if canLay W T xs L (firstI xs L 0 xs.length) 1 = true then allL W T xs f (laidL W T xs L (firstI xs L 0 xs.length) 1) else []) ++
      (if canLay W T xs L (firstI xs L 0 xs.length) 2 = true then allL W T xs f (laidL W T xs L (firstI xs L 0 xs.length) 2) else []) := rfl
  rw [e, if_pos h0]
theorem allL_succ {W T : Int} {xs : List Bool} {f : Nat} {L : List Int} {c : Int} (h : firstI xs L 0 xs.length = c) (h0 : ¬ c < 0) : allL W T xs (f + 1) L =
    (if canLay W T xs L c 1 = true then allL W T xs f (laidL W T xs L c 1) else []) ++ (if canLay W T xs L c 2 = true then allL W T xs f (laidL W T xs L c 2) else []) := by
  subst h
  have e : allL W T xs (f + 1) L = if firstI xs L 0 xs.length < 0 then [L]
    else (if canLay W T xs L (firstI xs L 0 xs.length) 1 = true then allL W T xs f (laidL W T xs L (firstI xs L 0 xs.length) 1) else []) ++
      (if canLay W T xs L (firstI xs L 0 xs.length) 2 = true then allL W T xs f (laidL W T xs L (firstI xs L 0 xs.length) 2) else []) := rfl
  rw [e, if_neg h0]
theorem layF_of {W T : Int} {xs : List Bool} {L : List Int} {k way : Int} (hl : lok W T xs L = true) : layF W T xs L k way = (laidL W T xs L k way, canLay W T xs L k way) := by
  unfold layF; rw [if_pos hl]
theorem free_drop' {W T : Int} {xs : List Bool} {L : List Int} {k way : Int} (hw : way = 1 ∨ way = 2) (hl : lok W T xs L = true) (hc : canLay W T xs L k way = true) : freeN xs (laidL W T xs L k way) < freeN xs L := by
  have := free_drop (W := W) (T := T) (xs := xs) (L := L) (k := k) hw (by rw [layF_of hl]; exact hc)
  rwa [layF_of hl] at this
end Go.Proofs.Ytknigcjpgkolgaa

namespace Go.Proofs.Ytknigcjpgkolgaa
open Go.RowKit Go.Shelf
set_option linter.unusedVariables false
set_option maxRecDepth 100000
set_option linter.unusedSimpArgs false
attribute [local go_sem] Oper.semAt_some

end Go.Proofs.Ytknigcjpgkolgaa

namespace Go.Proofs.Ytknigcjpgkolgaa
open Go.RowKit Go.Shelf
set_option linter.unusedVariables false
set_option maxRecDepth 100000
set_option linter.unusedSimpArgs false

end Go.Proofs.Ytknigcjpgkolgaa

namespace Go.Proofs.Ytknigcjpgkolgaa
open Go.RowKit Go.Shelf
set_option linter.unusedVariables false
set_option maxRecDepth 100000
set_option linter.unusedSimpArgs false
attribute [local go_sem] Oper.semAt_some

end Go.Proofs.Ytknigcjpgkolgaa

namespace Go.Proofs.Ytknigcjpgkolgaa
open Go.RowKit
set_option linter.unusedVariables false
set_option maxRecDepth 100000
set_option linter.unusedSimpArgs false

/-- Every list that comes has as many entries, and is a tiling. -/
theorem allL_each {W T : Int} {xs : List Bool} : ∀ (f : Nat) (L : List Int), lok W T xs L = true → ∀ M, M ∈ allL W T xs f L → M.length = xs.length ∧ tok W T xs M = true
  | 0, L, _, M, hM => by simp [allL] at hM
  | f + 1, L, h, M, hM => by
    by_cases h0 : firstI xs L 0 xs.length < 0
    · rw [allL_done rfl h0] at hM
      simp only [List.mem_cons, List.not_mem_nil, or_false] at hM
      subst hM
      obtain ⟨_, hlen, _⟩ := lok_rv h
      refine ⟨hlen, ?_⟩
      unfold tok
      rw [h, hlen]
      simpa using h0
    · rw [allL_succ rfl h0, List.mem_append] at hM
      rcases hM with hM | hM
      all_goals
        split at hM
        · rename_i hc
          exact allL_each f _ (lok_laid h hc) M hM
        · simp at hM
end Go.Proofs.Ytknigcjpgkolgaa

namespace Go.Proofs.Ytknigcjpgkolgaa
open Go.RowKit
set_option linter.unusedVariables false
set_option maxRecDepth 100000
set_option linter.unusedSimpArgs false

end Go.Proofs.Ytknigcjpgkolgaa

namespace Go.Proofs.Ytknigcjpgkolgaa
open Go.RowKit
set_option linter.unusedVariables false
set_option maxRecDepth 100000
set_option linter.unusedSimpArgs false

end Go.Proofs.Ytknigcjpgkolgaa

namespace Go.Proofs.Ytknigcjpgkolgaa
open Go.RowKit
set_option linter.unusedVariables false
set_option maxRecDepth 100000
set_option linter.unusedSimpArgs false

theorem tok_lokP {W T : Int} {xs : List Bool} {L : List Int} (h : tok W T xs L = true) : lok W T xs L = true := by unfold tok at h; simp only [Bool.and_eq_true] at h; exact h.1
theorem tok_cell {W T : Int} {xs : List Bool} {L : List Int} (h : tok W T xs L = true) {i : Nat} (hi : i < xs.length) (hx : xs.getD i false = true) : L.getD i 0 ≠ 0 := by
  have hl := tok_lokP h
  obtain ⟨_, hlen, _⟩ := lok_rv hl
  intro h0
  have hf : freeB xs L i = true := by unfold freeB; rw [hx, h0]; rfl
  unfold tok at h
  rw [hl, Bool.true_and, decide_eq_true_eq] at h
  rcases first_cases xs L 0 L.length with ⟨_, hno⟩ | ⟨k, _, _, hk, _⟩
  · have := hno i (Nat.zero_le _) (by omega)
    rw [hf] at this; cases this
  · rw [hk] at h; omega
end Go.Proofs.Ytknigcjpgkolgaa

namespace Go.Proofs.Ytknigcjpgkolgaa
open Go.RowKit
set_option linter.unusedVariables false
set_option maxRecDepth 100000
set_option linter.unusedSimpArgs false

/-- M has all dominoes of L. -/
def Has (L M : List Int) : Prop := ∀ k, L.getD k 0 ≠ 0 → M.getD k 0 = L.getD k 0
theorem canLay_of {W T : Int} {xs : List Bool} {L : List Int} {c o : Nat} {way : Int} (hr : rv W T xs = true) (hc : c < xs.length) (hs : stepI W T c way = o) (h1 : freeB xs L c = true) (h2 : freeB xs L o = true) : canLay W T xs L c way = true ∧ laidL W T xs L c way = (L.set c way).set o (backI way) := by
  have hcell : cellB W T xs.length c way = o := by unfold cellB; rw [if_pos ⟨by omega, by omega⟩]; exact hs
  have h : canLay W T xs L c way = true := canLay_yes (by rw [hcell]; omega) (by simpa using h1) (by rw [hcell]; simpa using h2)
  refine ⟨h, ?_⟩
  unfold laidL
  rw [if_pos h, hcell]
  rfl
theorem allL_mem {W T : Int} {xs : List Bool} : ∀ (f : Nat) (L M : List Int), freeN xs L < f → lok W T xs L = true → tok W T xs M = true → Has L M → M ∈ allL W T xs f L
  | 0, L, M, h, _, _, _ => absurd h (Nat.not_lt_zero _)
  | f + 1, L, M, hf, hl, hM, hh => by
    have hlM := tok_lokP hM
    obtain ⟨hr, hlen, _⟩ := lok_rv hl
    obtain ⟨_, hlenM, _⟩ := lok_rv hlM
    obtain ⟨v1, v2, v3, v4, v5, _⟩ := rv_true hr
    rcases first_cases xs L 0 xs.length with ⟨h0, hno⟩ | ⟨c, _, hc, h0, hfc, hno⟩
    · rw [allL_done h0 (by omega)]
      have e : M = L := by
        refine ext_getD (by rw [hlenM, hlen]) fun k hk => ?_
        rw [hlenM] at hk
        by_cases hz : L.getD k 0 = 0
        · have hx : xs.getD k false = false := by
            cases hx : xs.getD k false
            · rfl
            · have h1 := hno k (Nat.zero_le _) hk
              unfold freeB at h1
              rw [hx, hz] at h1; cases h1
          rw [hz]
          by_cases hm : M.getD k 0 = 0
          · exact hm
          · obtain ⟨_, _, _, _, hx', _⟩ := lok_at hlM hk hm
            rw [hx] at hx'; cases hx'
        · exact hh k hz
      rw [e]; exact List.mem_cons_self
    · rw [allL_succ h0 (by omega)]
      obtain ⟨hxc, hLc⟩ := free_zero hfc
      have hMc := tok_cell hM hc hxc
      obtain ⟨o, hs, ho, hne, _, hxo, hMo, hback, w1, w4⟩ := lok_at hlM hc hMc
      have hLo : L.getD o 0 = 0 := by
        by_cases hz : L.getD o 0 = 0
        · exact hz
        · exfalso
          have e1 := hh o hz
          obtain ⟨o2, hs2, _, _, _, _, hb2, _, _, _⟩ := lok_at hl ho hz
          rw [← e1, hMo, hback] at hs2
          have : o2 = c := by omega
          subst this
          rw [← e1, hMo, back_back ⟨w1, w4⟩] at hb2
          exact hMc (by rw [← hb2]; exact hLc)
      have hfo : freeB xs L o = true := by unfold freeB; rw [hxo, hLo]; rfl
      have hway : M.getD c 0 = 1 ∨ M.getD c 0 = 2 := by
        have hoc : c < o := by
          rcases Nat.lt_or_ge o c with h | h
          · have := hno o (Nat.zero_le _) h
            rw [hfo] at this; cases this
          · omega
        have : M.getD c 0 = 1 ∨ M.getD c 0 = 2 ∨ M.getD c 0 = 3 ∨ M.getD c 0 = 4 := by omega
        rcases this with e | e | e | e
        · exact Or.inl e
        · exact Or.inr e
        · rw [e] at hs; have := step_three hs (by omega); omega
        · rw [e] at hs; have := step_four hs (by omega); omega
      obtain ⟨hcan, hlaid⟩ := canLay_of hr hc hs hfc hfo
      have hhas : Has (laidL W T xs L c (M.getD c 0)) M := by
        rw [hlaid]
        intro k hk
        rw [getD_set2 (by rw [hlen]; exact hc) (by rw [hlen]; exact ho)] at hk ⊢
        by_cases e1 : k = o
        · rw [if_pos e1, e1, hMo]
        · rw [if_neg e1] at hk ⊢
          by_cases e2 : k = c
          · rw [if_pos e2, e2]
          · rw [if_neg e2] at hk ⊢; exact hh k hk
      have hrec := allL_mem f (laidL W T xs L c (M.getD c 0)) M (by have := free_drop' hway hl hcan; omega) (lok_laid hl hcan) hM hhas
      rw [List.mem_append]
      rcases hway with e | e
      · rw [e] at hcan hrec
        exact Or.inl (by rw [if_pos hcan]; exact hrec)
      · rw [e] at hcan hrec
        exact Or.inr (by rw [if_pos hcan]; exact hrec)
end Go.Proofs.Ytknigcjpgkolgaa
