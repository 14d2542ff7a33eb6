/- Plain facts on the list of all tilings: every tiling is in it, in order, once. -/
import Derived.Test.YtlnnoeojgdeagaaTokP
namespace Go.Proofs.Ytlnnoeojgdeagaa
open Go.RowKit
set_option linter.unusedVariables false
set_option maxRecDepth 100000
set_option linter.unusedSimpArgs false

/-- M has all dominoes of L. -/
def Has (L M : List Int) : Prop := ∀ k, L.getD k 0 ≠ 0 → M.getD k 0 = L.getD k 0
theorem canLay_of {W T : Int} {xs : List Bool} {L : List Int} {c o : Nat} {way : Int} (hr : rv W T xs = true) (hc : c < xs.length) (hs : stepI W T c way = o) (h1 : freeB xs L c = true) (h2 : freeB xs L o = true) : canLay W T xs L c way = true ∧ laidL W T xs L c way = (L.set c way).set o (backI way) := by
  have hcell : cellB W T xs.length c way = o := by unfold cellB; rw [if_pos ⟨by omega, by omega⟩]; exact hs
  have h : canLay W T xs L c way = true := canLay_yes (by rw [hcell]; omega) (by simpa using h1) (by rw [hcell]; simpa using h2)
  refine ⟨h, ?_⟩
  unfold laidL
  rw [if_pos h, hcell]
  rfl
theorem allL_mem {W T : Int} {xs : List Bool} : ∀ (f : Nat) (L M : List Int), freeN xs L < f → lok W T xs L = true → tok W T xs M = true → Has L M → M ∈ allL W T xs f L
  | 0, L, M, h, _, _, _ => absurd h (Nat.not_lt_zero _)
  | f + 1, L, M, hf, hl, hM, hh => by
    have hlM := tok_lokP hM
    obtain ⟨hr, hlen, _⟩ := lok_rv hl
    obtain ⟨_, hlenM, _⟩ := lok_rv hlM
    obtain ⟨v1, v2, v3, v4, v5, _⟩ := rv_true hr
    rcases first_cases xs L 0 xs.length with ⟨h0, hno⟩ | ⟨c, _, hc, h0, hfc, hno⟩
    · rw [allL_done h0 (by omega)]
      have e : M = L := by
        refine ext_getD (by rw [hlenM, hlen]) fun k hk => ?_
        rw [hlenM] at hk
        by_cases hz : L.getD k 0 = 0
        · have hx : xs.getD k false = false := by
            cases hx : xs.getD k false
            · rfl
            · have h1 := hno k (Nat.zero_le _) hk
              unfold freeB at h1
              rw [hx, hz] at h1; cases h1
          rw [hz]
          by_cases hm : M.getD k 0 = 0
          · exact hm
          · obtain ⟨_, _, _, _, hx', _⟩ := lok_at hlM hk hm
            rw [hx] at hx'; cases hx'
        · exact hh k hz
      rw [e]; exact List.mem_cons_self
    · rw [allL_succ h0 (by omega)]
      obtain ⟨hxc, hLc⟩ := free_zero hfc
      have hMc := tok_cell hM hc hxc
      obtain ⟨o, hs, ho, hne, _, hxo, hMo, hback, w1, w4⟩ := lok_at hlM hc hMc
      have hLo : L.getD o 0 = 0 := by
        by_cases hz : L.getD o 0 = 0
        · exact hz
        · exfalso
          have e1 := hh o hz
          obtain ⟨o2, hs2, _, _, _, _, hb2, _, _, _⟩ := lok_at hl ho hz
          rw [← e1, hMo, hback] at hs2
          have : o2 = c := by omega
          subst this
          rw [← e1, hMo, back_back ⟨w1, w4⟩] at hb2
          exact hMc (by rw [← hb2]; exact hLc)
      have hfo : freeB xs L o = true := by unfold freeB; rw [hxo, hLo]; rfl
      have hway : M.getD c 0 = 1 ∨ M.getD c 0 = 2 := by
        have hoc : c < o := by
          rcases Nat.lt_or_ge o c with h | h
          · have := hno o (Nat.zero_le _) h
            rw [hfo] at this; cases this
          · omega
        have : M.getD c 0 = 1 ∨ M.getD c 0 = 2 ∨ M.getD c 0 = 3 ∨ M.getD c 0 = 4 := by omega
        rcases this with e | e | e | e
        · exact Or.inl e
        · exact Or.inr e
        · rw [e] at hs; have := step_three hs (by omega); omega
        · rw [e] at hs; have := step_four hs (by omega); omega
      obtain ⟨hcan, hlaid⟩ := canLay_of hr hc hs hfc hfo
      have hhas : Has (laidL W T xs L c (M.getD c 0)) M := by
        rw [hlaid]
        intro k hk
        rw [getD_set2 (by rw [hlen]; exact hc) (by rw [hlen]; exact ho)] at hk ⊢
        by_cases e1 : k = o
        · rw [if_pos e1, e1, hMo]
        · rw [if_neg e1] at hk ⊢
          by_cases e2 : k = c
          · rw [if_pos e2, e2]
          · rw [if_neg e2] at hk ⊢; exact hh k hk
      have hrec := allL_mem f (laidL W T xs L c (M.getD c 0)) M (by have := free_drop' hway hl hcan; omega) (lok_laid hl hcan) hM hhas
      rw [List.mem_append]
      rcases hway with e | e
      · rw [e] at hcan hrec
        exact Or.inl (by rw [if_pos hcan]; exact hrec)
      · rw [e] at hcan hrec
        exact Or.inr (by rw [if_pos hcan]; exact hrec)
theorem bare_zero (W T : Int) (xs : List Bool) (k : Nat) : (bareL W T xs).getD k 0 = 0 := by
  unfold bareL
  split
  · by_cases h : k < xs.length
    · simp [List.getD, h]
    · simp [List.getD, h]
  · simp [List.getD]
/-- Every tiling is in the list. -/
theorem mem_allF {W T : Int} {xs : List Bool} {M : List Int} (h : tok W T xs M = true) : M ∈ allF W T xs := by
  have hl := tok_lokP h
  obtain ⟨hr, _, _⟩ := lok_rv hl
  unfold allF
  rw [if_pos hr]
  exact allL_mem _ _ _ (by have := freeN_le xs (bareL W T xs); omega) (by rw [lok_bareL]; exact hr) h (fun k hk => absurd (bare_zero W T xs k) hk)
theorem mem_allF_iff {W T : Int} {xs : List Bool} {M : List Int} : M ∈ allF W T xs ↔ tok W T xs M = true := ⟨fun h => (allF_each h).2, mem_allF⟩
/-- What comes has the dominoes that lay. -/
theorem allL_has {W T : Int} {xs : List Bool} : ∀ (f : Nat) (L M : List Int), lok W T xs L = true → M ∈ allL W T xs f L → Has L M
  | 0, L, M, _, h => by simp [allL] at h
  | f + 1, L, M, hl, h => by
    obtain ⟨hr, hlen, _⟩ := lok_rv hl
    rcases first_cases xs L 0 xs.length with ⟨h0, hno⟩ | ⟨c, _, hc, h0, hfc, hno⟩
    · rw [allL_done h0 (by omega)] at h
      simp only [List.mem_cons, List.not_mem_nil, or_false] at h
      subst h
      exact fun k _ => rfl
    · rw [allL_succ h0 (by omega), List.mem_append] at h
      have part : ∀ way : Int, M ∈ (if canLay W T xs L c way = true then allL W T xs f (laidL W T xs L c way) else []) → Has L M := by
        intro way hm
        split at hm
        · rename_i hcan
          obtain ⟨kn, o, e, hk, ho, hne, hs, hf, hfo, w1, w4, hb, el⟩ := canLay_at hr hlen hcan
          have : kn = c := by omega
          subst this
          have h1 := allL_has f _ M (lok_laid hl hcan) hm
          rw [el] at h1
          intro k hk0
          have hkc : k ≠ kn := by intro e2; rw [e2] at hk0; exact hk0 (free_zero hf).2
          have hko : k ≠ o := by intro e2; rw [e2] at hk0; exact hk0 (free_zero hfo).2
          have h2 := h1 k
          rw [getD_set2 (by rw [hlen]; exact hk) (by rw [hlen]; exact ho), if_neg hko, if_neg hkc] at h2
          exact h2 hk0
        · simp at hm
      rcases h with h | h
      · exact part 1 h
      · exact part 2 h
theorem has_at {W T : Int} {xs : List Bool} {L : List Int} {c : Nat} {way : Int} (hl : lok W T xs L = true) (hcan : canLay W T xs L c way = true) : (laidL W T xs L c way).getD c 0 = way ∧ way ≠ 0 := by
  obtain ⟨hr, hlen, _⟩ := lok_rv hl
  obtain ⟨kn, o, e, hk, ho, hne, hs, hf, hfo, w1, w4, hb, el⟩ := canLay_at hr hlen hcan
  have : kn = c := by omega
  subst this
  rw [el, getD_set2 (by rw [hlen]; exact hk) (by rw [hlen]; exact ho), if_neg (Ne.symm hne), if_pos rfl]
  exact ⟨rfl, by omega⟩
/-- The first cell in which two lists differ has the lesser number in A. -/
def Before (A B : List Int) : Prop := ∃ c, c < A.length ∧ c < B.length ∧ (∀ k, k < c → A.getD k 0 = B.getD k 0) ∧ A.getD c 0 < B.getD c 0
theorem allL_sorted {W T : Int} {xs : List Bool} : ∀ (f : Nat) (L : List Int), lok W T xs L = true → (allL W T xs f L).Pairwise Before
  | 0, L, _ => by simp [allL]
  | f + 1, L, hl => by
    obtain ⟨hr, hlen, _⟩ := lok_rv hl
    rcases first_cases xs L 0 xs.length with ⟨h0, hno⟩ | ⟨c, _, hc, h0, hfc, hno⟩
    · rw [allL_done h0 (by omega)]
      simp
    · rw [allL_succ h0 (by omega), List.pairwise_append]
      refine ⟨?_, ?_, ?_⟩
      · split
        · rename_i hcan
          exact allL_sorted f _ (lok_laid hl hcan)
        · simp
      · split
        · rename_i hcan
          exact allL_sorted f _ (lok_laid hl hcan)
        · simp
      · intro A hA B hB
        split at hA
        · rename_i c1
          split at hB
          · rename_i c2
            have a1 := allL_has f _ A (lok_laid hl c1) hA
            have b1 := allL_has f _ B (lok_laid hl c2) hB
            obtain ⟨la, ta⟩ := allL_each f _ (lok_laid hl c1) A hA
            obtain ⟨lb, tb⟩ := allL_each f _ (lok_laid hl c2) B hB
            have a2 := a1 c (by rw [(has_at hl c1).1]; exact (has_at hl c1).2)
            have b2 := b1 c (by rw [(has_at hl c2).1]; exact (has_at hl c2).2)
            rw [(has_at hl c1).1] at a2
            rw [(has_at hl c2).1] at b2
            have hA' : Has L A := allL_has (f + 1) L A hl (by rw [allL_succ h0 (by omega), List.mem_append]; exact Or.inl (by rw [if_pos c1]; exact hA))
            have hB' : Has L B := allL_has (f + 1) L B hl (by rw [allL_succ h0 (by omega), List.mem_append]; exact Or.inr (by rw [if_pos c2]; exact hB))
            refine ⟨c, by omega, by omega, fun k hk => ?_, by rw [a2, b2]; omega⟩
            by_cases hz : L.getD k 0 = 0
            · have hx : xs.getD k false = false := by
                cases hx : xs.getD k false
                · rfl
                · have h1 := hno k (Nat.zero_le _) hk
                  unfold freeB at h1
                  rw [hx, hz] at h1; cases h1
              have zero : ∀ M : List Int, tok W T xs M = true → M.getD k 0 = 0 := by
                intro M hM
                by_cases hm : M.getD k 0 = 0
                · exact hm
                · obtain ⟨_, _, _, _, hx', _⟩ := lok_at (tok_lokP hM) (show k < xs.length by omega) hm
                  rw [hx] at hx'; cases hx'
              rw [zero A ta, zero B tb]
            · rw [hA' k hz, hB' k hz]
          · simp at hB
        · simp at hA
theorem Before.ne {A B : List Int} (h : Before A B) : A ≠ B := by
  obtain ⟨c, _, _, _, h⟩ := h
  intro e; rw [e] at h; omega
theorem allF_sorted (W T : Int) (xs : List Bool) : (allF W T xs).Pairwise Before := by
  unfold allF
  split
  · rename_i h
    exact allL_sorted _ _ (by rw [lok_bareL]; exact h)
  · simp
theorem allF_nodup (W T : Int) (xs : List Bool) : (allF W T xs).Nodup := (allF_sorted W T xs).imp fun h => h.ne

/-- A list without repeats is no longer than one that has all of it. -/
theorem nodup_le {α : Type} [DecidableEq α] : ∀ (l m : List α), l.Nodup → (∀ x, x ∈ l → x ∈ m) → l.length ≤ m.length
  | [], m, _, _ => by simp
  | a :: l, m, hn, hs => by
    have ha := hs a List.mem_cons_self
    have hn' := List.nodup_cons.1 hn
    have h1 := nodup_le l (m.erase a) hn'.2 (fun x hx => by
      have hne : x ≠ a := fun e => hn'.1 (by rw [← e]; exact hx)
      exact (List.mem_erase_of_ne hne).2 (hs x (List.mem_cons_of_mem _ hx)))
    rw [List.length_erase_of_mem ha] at h1
    have := List.length_pos_of_mem ha
    simp only [List.length_cons]
    omega
theorem map_nodup {α β : Type} {g : α → β} : ∀ (l : List α), l.Nodup → (∀ x, x ∈ l → ∀ y, y ∈ l → g x = g y → x = y) → (l.map g).Nodup
  | [], _, _ => by simp
  | a :: l, hn, hi => by
    have hn' := List.nodup_cons.1 hn
    rw [List.map_cons, List.nodup_cons]
    refine ⟨fun hm => ?_, map_nodup l hn'.2 (fun x hx y hy => hi x (List.mem_cons_of_mem _ hx) y (List.mem_cons_of_mem _ hy))⟩
    obtain ⟨y, hy, he⟩ := List.mem_map.1 hm
    have := hi y (List.mem_cons_of_mem _ hy) a List.mem_cons_self he
    exact hn'.1 (by rw [← this]; exact hy)
theorem tok_turned {W T : Nat} {xs : List Bool} {L : List Int} (h : tok W T xs L = true) : tok T W (turned W T xs) (turnedI W T L) = true := by
  have hl := tok_lokP h
  obtain ⟨hr, v1, v2, v3, v4, v5, v6⟩ := lok_parts hl
  have hW : 0 < W := by omega
  have hT : 0 < T := by omega
  refine tok_ofAll (lok_turned hl) fun j hj hx => ?_
  rw [turned_len] at hj
  rw [turned_at xs hj] at hx
  rw [turnedI_at L hj]
  have := tok_cell h (by rw [v5]; exact tSrc_lt hW hT hj) hx
  unfold turnW
  rw [if_neg this]
  omega
theorem tok_flipped {W T : Nat} {xs : List Bool} {L : List Int} (h : tok W T xs L = true) : tok W T (flipped W T xs) (flippedI W T L) = true := by
  have hl := tok_lokP h
  obtain ⟨hr, v1, v2, v3, v4, v5, v6⟩ := lok_parts hl
  have hW : 0 < W := by omega
  refine tok_ofAll (lok_flipped hl) fun j hj hx => ?_
  rw [flipped_len] at hj
  rw [flipped_at xs hj] at hx
  rw [flippedI_at L hj]
  have h0 := tok_cell h (by rw [v5]; exact fIdx_lt hW hj) hx
  have hw := lok_way hl (k := fIdx W j) (by rw [v6]; exact fIdx_lt hW hj)
  unfold flipW backI
  split <;> omega
theorem all_turned_le {W T : Nat} {xs : List Bool} : (allF W T xs).length ≤ (allF T W (turned W T xs)).length := by
  have e0 : ((allF W T xs).map (turnedI W T)).length = (allF W T xs).length := by simp
  rw [← e0]
  refine nodup_le _ _ (map_nodup _ (allF_nodup _ _ _) fun A hA B hB e => ?_) fun M hM => ?_
  · have h1 := turned_four (tok_lokP (allF_each hA).2)
    have h2 := turned_four (tok_lokP (allF_each hB).2)
    rw [← h1, ← h2, e]
  · obtain ⟨A, hA, rfl⟩ := List.mem_map.1 hM
    exact mem_allF (tok_turned (allF_each hA).2)
theorem all_flipped_le {W T : Nat} {xs : List Bool} : (allF W T xs).length ≤ (allF W T (flipped W T xs)).length := by
  have e0 : ((allF W T xs).map (flippedI W T)).length = (allF W T xs).length := by simp
  rw [← e0]
  refine nodup_le _ _ (map_nodup _ (allF_nodup _ _ _) fun A hA B hB e => ?_) fun M hM => ?_
  · have h1 := flipped_two (tok_lokP (allF_each hA).2)
    have h2 := flipped_two (tok_lokP (allF_each hB).2)
    rw [← h1, ← h2, e]
  · obtain ⟨A, hA, rfl⟩ := List.mem_map.1 hM
    exact mem_allF (tok_flipped (allF_each hA).2)
theorem turned_four_b {W T : Nat} {xs : List Bool} (hW : W ≤ 6) (hT : T ≤ 6) (hW0 : 0 < W) (hT0 : 0 < T) (hl : xs.length = W * T) : turned T W (turned W T (turned T W (turned W T xs))) = xs := by
  refine list_ext (by rw [turned_len, hl, Nat.mul_comm]) fun j hj => ?_
  rw [turned_len, Nat.mul_comm] at hj
  have h1 : tSrc T W j < T * W := tSrc_lt hT0 hW0 (by rw [Nat.mul_comm]; exact hj)
  have h2 : tSrc W T (tSrc T W j) < W * T := tSrc_lt hW0 hT0 (by rw [Nat.mul_comm]; exact h1)
  have h3 : tSrc T W (tSrc W T (tSrc T W j)) < T * W := tSrc_lt hT0 hW0 (by rw [Nat.mul_comm]; exact h2)
  rw [turned_at _ (by rw [Nat.mul_comm]; exact hj), turned_at _ (by rw [Nat.mul_comm]; exact h1), turned_at _ (by rw [Nat.mul_comm]; exact h2), turned_at _ (by rw [Nat.mul_comm]; exact h3), four_src hW hT hj]
/-- Turned and mirrored a region has as many tilings. -/
theorem all_turned {W T : Nat} {xs : List Bool} (h : rv W T xs = true) : (allF T W (turned W T xs)).length = (allF W T xs).length := by
  obtain ⟨v1, v2, v3, v4, v5, v6⟩ := rv_parts.1 h
  have a1 := all_turned_le (W := W) (T := T) (xs := xs)
  have a2 := all_turned_le (W := T) (T := W) (xs := turned W T xs)
  have a3 := all_turned_le (W := W) (T := T) (xs := turned T W (turned W T xs))
  have a4 := all_turned_le (W := T) (T := W) (xs := turned W T (turned T W (turned W T xs)))
  rw [turned_four_b v2 v4 (by omega) (by omega) v5] at a4
  omega
theorem all_flipped {W T : Nat} {xs : List Bool} (h : rv W T xs = true) : (allF W T (flipped W T xs)).length = (allF W T xs).length := by
  obtain ⟨v1, v2, v3, v4, v5, v6⟩ := rv_parts.1 h
  have a1 := all_flipped_le (W := W) (T := T) (xs := xs)
  have a2 := all_flipped_le (W := W) (T := T) (xs := flipped W T xs)
  rw [flipped_flipped (by omega) v5] at a2
  omega
end Go.Proofs.Ytlnnoeojgdeagaa
