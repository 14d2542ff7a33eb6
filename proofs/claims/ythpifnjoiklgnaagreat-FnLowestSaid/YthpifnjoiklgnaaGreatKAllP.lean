/- Lists of dominoes turned and mirrored: they are right for the field turned and mirrored. Merged of: TurnP, TokP, AllP. -/
import Derived.Test.YthpifnjoiklgnaaGreatKAllS
namespace Go.Proofs.YthpifnjoiklgnaaGreat
open Go.RowKit
set_option linter.unusedVariables false
set_option maxRecDepth 100000
set_option linter.unusedSimpArgs false

end Go.Proofs.YthpifnjoiklgnaaGreat

namespace Go.Proofs.YthpifnjoiklgnaaGreat
open Go.RowKit
set_option linter.unusedVariables false
set_option maxRecDepth 100000
set_option linter.unusedSimpArgs false

theorem tok_lokP {W T : Int} {xs : List Bool} {L : List Int} (h : tok W T xs L = true) : lok W T xs L = true := by unfold tok at h; simp only [Bool.and_eq_true] at h; exact h.1
theorem tok_cell {W T : Int} {xs : List Bool} {L : List Int} (h : tok W T xs L = true) {i : Nat} (hi : i < xs.length) (hx : xs.getD i false = true) : L.getD i 0 ≠ 0 := by
 have hl := tok_lokP h
 obtain ⟨_, hlen, _⟩ := lok_rv hl
 intro h0
 have hf : freeB xs L i = true := by unfold freeB; rw [hx, h0]; rfl
 unfold tok at h
 rw [hl, Bool.true_and, decide_eq_true_eq] at h
 rcases first_cases xs L 0 L.length with ⟨_, hno⟩ | ⟨k, _, _, hk, _⟩
 · have := hno i (Nat.zero_le _) (by omega)
   rw [hf] at this; cases this
 · rw [hk] at h; omega
end Go.Proofs.YthpifnjoiklgnaaGreat

namespace Go.Proofs.YthpifnjoiklgnaaGreat
open Go.RowKit
set_option linter.unusedVariables false
set_option maxRecDepth 100000
set_option linter.unusedSimpArgs false

def Has (L M : List Int) : Prop := ∀ k, L.getD k 0 ≠ 0 → M.getD k 0 = L.getD k 0
theorem canLay_of {W T : Int} {xs : List Bool} {L : List Int} {c o : Nat} {way : Int} (hr : rv W T xs = true) (hc : c < xs.length) (hs : stepI W T c way = o) (h1 : freeB xs L c = true) (h2 : freeB xs L o = true) : canLay W T xs L c way = true ∧ laidL W T xs L c way = (L.set c way).set o (backI way) := by
 have hcell : cellB W T xs.length c way = o := by unfold cellB; rw [if_pos ⟨by omega, by omega⟩]; exact hs
 have h : canLay W T xs L c way = true := canLay_yes (by rw [hcell]; omega) (by simpa using h1) (by rw [hcell]; simpa using h2)
 refine ⟨h, ?_⟩
 unfold laidL
 rw [if_pos h, hcell]
 rfl
theorem allL_mem {W T : Int} {xs : List Bool} : ∀ (f : Nat) (L M : List Int), freeN xs L < f → lok W T xs L = true → tok W T xs M = true → Has L M → M ∈ allL W T xs f L
 | 0, L, M, h, _, _, _ => absurd h (Nat.not_lt_zero _)
 | f + 1, L, M, hf, hl, hM, hh => by
   have hlM := tok_lokP hM
   obtain ⟨hr, hlen, _⟩ := lok_rv hl
   obtain ⟨_, hlenM, _⟩ := lok_rv hlM
   obtain ⟨v1, v2, v3, v4, v5, _⟩ := rv_true hr
   rcases first_cases xs L 0 xs.length with ⟨h0, hno⟩ | ⟨c, _, hc, h0, hfc, hno⟩
   · rw [allL_done h0 (by omega)]
     have e : M = L := by
      refine ext_getD (by rw [hlenM, hlen]) fun k hk => ?_
      rw [hlenM] at hk
      by_cases hz : L.getD k 0 = 0
      · have hx : xs.getD k false = false := by
         cases hx : xs.getD k false
         · rfl
         · have h1 := hno k (Nat.zero_le _) hk
           unfold freeB at h1
           rw [hx, hz] at h1; cases h1
        rw [hz]
        by_cases hm : M.getD k 0 = 0
        · exact hm
        · obtain ⟨_, _, _, _, hx', _⟩ := lok_at hlM hk hm
          rw [hx] at hx'; cases hx'
      · exact hh k hz
     rw [e]; exact List.mem_cons_self
   · rw [allL_succ h0 (by omega)]
     obtain ⟨hxc, hLc⟩ := free_zero hfc
     have hMc := tok_cell hM hc hxc
     obtain ⟨o, hs, ho, hne, _, hxo, hMo, hback, w1, w4⟩ := lok_at hlM hc hMc
     have hLo : L.getD o 0 = 0 := by
      by_cases hz : L.getD o 0 = 0
      · exact hz
      · exfalso
        have e1 := hh o hz
        obtain ⟨o2, hs2, _, _, _, _, hb2, _, _, _⟩ := lok_at hl ho hz
        rw [← e1, hMo, hback] at hs2
        have : o2 = c := by omega
        subst this
        rw [← e1, hMo, back_back ⟨w1, w4⟩] at hb2
        exact hMc (by rw [← hb2]; exact hLc)
     have hfo : freeB xs L o = true := by unfold freeB; rw [hxo, hLo]; rfl
     have hway : M.getD c 0 = 1 ∨ M.getD c 0 = 2 := by
      have hoc : c < o := by
       rcases Nat.lt_or_ge o c with h | h
       · have := hno o (Nat.zero_le _) h
         rw [hfo] at this; cases this
       · omega
      have : M.getD c 0 = 1 ∨ M.getD c 0 = 2 ∨ M.getD c 0 = 3 ∨ M.getD c 0 = 4 := by omega
      rcases this with e | e | e | e
      · exact Or.inl e
      · exact Or.inr e
      · rw [e] at hs; have := step_three hs (by omega); omega
      · rw [e] at hs; have := step_four hs (by omega); omega
     obtain ⟨hcan, hlaid⟩ := canLay_of hr hc hs hfc hfo
     have hhas : Has (laidL W T xs L c (M.getD c 0)) M := by
      rw [hlaid]
      intro k hk
      rw [getD_set2 (by rw [hlen]; exact hc) (by rw [hlen]; exact ho)] at hk ⊢
      by_cases e1 : k = o
      · rw [if_pos e1, e1, hMo]
      · rw [if_neg e1] at hk ⊢
        by_cases e2 : k = c
        · rw [if_pos e2, e2]
        · rw [if_neg e2] at hk ⊢; exact hh k hk
     have hrec := allL_mem f (laidL W T xs L c (M.getD c 0)) M (by have := free_drop' hway hl hcan; omega) (lok_laid hl hcan) hM hhas
     rw [List.mem_append]
     rcases hway with e | e
     · rw [e] at hcan hrec
       exact Or.inl (by rw [if_pos hcan]; exact hrec)
     · rw [e] at hcan hrec
       exact Or.inr (by rw [if_pos hcan]; exact hrec)
theorem bare_zero (W T : Int) (xs : List Bool) (k : Nat) : (bareL W T xs).getD k 0 = 0 := by
 unfold bareL
 split
 · by_cases h : k < xs.length
   · simp [List.getD, h]
   · simp [List.getD, h]
 · simp [List.getD]
theorem mem_allF {W T : Int} {xs : List Bool} {M : List Int} (h : tok W T xs M = true) : M ∈ allF W T xs := by
 have hl := tok_lokP h
 obtain ⟨hr, _, _⟩ := lok_rv hl
 unfold allF
 rw [if_pos hr]
 exact allL_mem _ _ _ (by have := freeN_le xs (bareL W T xs); omega) (by rw [lok_bareL]; exact hr) h (fun k hk => absurd (bare_zero W T xs k) hk)
end Go.Proofs.YthpifnjoiklgnaaGreat
