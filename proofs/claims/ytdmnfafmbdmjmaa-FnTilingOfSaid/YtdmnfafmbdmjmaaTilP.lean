/- Plain facts: the list of all tilings is as long as the count of tilings says. Merged of: AllDp, TilP. -/
import Derived.Test.YtdmnfafmbdmjmaaAllP
import Derived.Test.YtdmnfafmbdmjmaaDpY
import Derived.Test.YtdmnfafmbdmjmaaRankP
namespace Go.Proofs.Ytdmnfafmbdmjmaa
open Go.RowKit
set_option linter.unusedVariables false
set_option maxRecDepth 100000
set_option linter.unusedSimpArgs false

/-- The cells that no domino covers. -/
def freeL (xs : List Bool) (L : List Int) : List Bool := tab xs.length (freeB xs L)
theorem freeL_len (xs : List Bool) (L : List Int) : (freeL xs L).length = xs.length := tab_len _ _
theorem freeL_at {xs : List Bool} {L : List Int} {i : Nat} (h : i < xs.length) : (freeL xs L).getD i false = freeB xs L i := tab_getD _ h
theorem freeL_off {xs : List Bool} {L : List Int} {i : Nat} (h : ¬ i < xs.length) : (freeL xs L).getD i false = false := by
  have : (freeL xs L).length ≤ i := by rw [freeL_len]; omega
  simp [List.getD, List.getElem?_eq_none this]
theorem dp_none {W T : Int} {ys : List Bool} (h : ∀ i, i < ys.length → ys.getD i false = false) : dpT W T ys = 1 := by
  unfold dpT
  rw [skip_eq ys.length (Nat.le_refl _) h, Nat.sub_self]
  rfl
theorem free_less {xs : List Bool} {L : List Int} {a o : Nat} {x y : Int} (ha : a < L.length) (ho : o < L.length) (hl : L.length = xs.length) (hx : x ≠ 0) (hy : y ≠ 0) : freeL xs ((L.set a x).set o y) = lessB (freeL xs L) [a, o] := by
  refine list_ext (by rw [freeL_len]; unfold lessB; rw [tab_len, freeL_len]) fun i hi => ?_
  rw [freeL_len] at hi
  rw [lessB_two, freeL_at hi, freeL_at hi]
  unfold freeB
  rw [getD_set2 ha ho]
  by_cases e1 : i = o
  · rw [if_pos e1, e1]
    have : (y == 0) = false := by simpa using hy
    rw [this]; simp
  · rw [if_neg e1]
    by_cases e2 : i = a
    · rw [if_pos e2, e2]
      have : (x == 0) = false := by simpa using hx
      rw [this]; simp
    · rw [if_neg e2]; simp [e1, e2]
theorem allL_dp {W T : Int} {xs : List Bool} : ∀ (f : Nat) (L : List Int), freeN xs L < f → lok W T xs L = true → (allL W T xs f L).length = dpT W T (freeL xs L)
  | 0, L, h, _ => absurd h (Nat.not_lt_zero _)
  | f + 1, L, hf, hl => by
    obtain ⟨hr, hlen, _⟩ := lok_rv hl
    obtain ⟨v1, v2, v3, v4, v5, _⟩ := rv_true hr
    have h36 : xs.length ≤ 36 := by
      have : W * T ≤ 6 * 6 := Int.mul_le_mul v2 v4 (by omega) (by omega)
      omega
    rcases first_cases xs L 0 xs.length with ⟨h0, hno⟩ | ⟨c, _, hc, h0, hfc, hno⟩
    · rw [allL_done h0 (by omega), dp_none]
      · rfl
      · intro i hi
        rw [freeL_len] at hi
        rw [freeL_at hi]; exact hno i (Nat.zero_le _) hi
    · rw [allL_succ h0 (by omega), List.length_append]
      rw [dp_split v1 v2 (c := c) (by rw [freeL_len]; exact v5) (by rw [freeL_len]; exact h36) (by rw [freeL_len]; exact hc) (fun i hi => by rw [freeL_at (by omega)]; exact hno i (Nat.zero_le _) hi) (by rw [freeL_at hc]; exact hfc)]
      have part : ∀ way : Int, way = 1 ∨ way = 2 → (if canLay W T xs L c way = true then allL W T xs f (laidL W T xs L c way) else []).length = withN W T (freeL xs L) c way := by
        intro way hw
        by_cases hcan : canLay W T xs L c way = true
        · rw [if_pos hcan]
          obtain ⟨kn, o, e, hk, ho, hne, hs, hfk, hfo, w1, w4, hb, el⟩ := canLay_at hr hlen hcan
          have : kn = c := by omega
          subst this
          rw [allL_dp f _ (by have := free_drop' hw hl hcan; omega) (lok_laid hl hcan)]
          rw [(can_of (ys := freeL xs L) (kn := kn) (on := o) (by rw [freeL_len]; exact hk) hs (by rw [freeL_at hk]; exact hfk) (by rw [freeL_at ho]; exact hfo)).2]
          rw [el, free_less (by omega) (by omega) hlen (by omega) (by unfold backI; omega)]
        · rw [if_neg hcan]
          by_cases ht : canTake W T (freeL xs L) c way = true
          · exfalso
            obtain ⟨kn, on, e, hs, hk, ho, hne, h1, h2, w1, w4, _⟩ := can_parts v1 (by rw [freeL_len]; exact v5) ht
            have : kn = c := by omega
            subst this
            rw [freeL_len] at hk ho
            rw [freeL_at hk] at h1
            rw [freeL_at ho] at h2
            exact hcan (canLay_of hr hk hs h1 h2).1
          · unfold withN
            rw [if_neg ht]; rfl
      rw [part 1 (Or.inl rfl), part 2 (Or.inr rfl)]
/-- As many tilings are counted as there are in the list. -/
theorem allF_dp {W T : Int} {xs : List Bool} (h : rv W T xs = true) : (allF W T xs).length = dpT W T xs := by
  unfold allF
  rw [if_pos h, allL_dp _ _ (by have := freeN_le xs (bareL W T xs); omega) (by rw [lok_bareL]; exact h)]
  congr 1
  refine list_ext (freeL_len _ _) fun i hi => ?_
  rw [freeL_len] at hi
  rw [freeL_at hi]
  unfold freeB
  rw [bare_zero]
  simp
end Go.Proofs.Ytdmnfafmbdmjmaa

namespace Go.Proofs.Ytdmnfafmbdmjmaa
open Go.RowKit
set_option linter.unusedVariables false
set_option maxRecDepth 100000
set_option linter.unusedSimpArgs false

theorem allL_part {W T : Int} {xs : List Bool} {f : Nat} {M : List Int} {c : Nat} {way : Int} (hf : freeN xs M < f + 1) (hl : lok W T xs M = true) (hw : way = 1 ∨ way = 2) (hc : c < xs.length) :
    (if canLay W T xs M c way = true then allL W T xs f (laidL W T xs M c way) else []).length = withN W T (freeL xs M) c way := by
  obtain ⟨hr, hlen, _⟩ := lok_rv hl
  obtain ⟨v1, v2, v3, v4, v5, _⟩ := rv_true hr
  by_cases hcan : canLay W T xs M c way = true
  · rw [if_pos hcan]
    obtain ⟨kn, o, e, hk, ho, hne, hs, hfk, hfo, w1, w4, hb, el⟩ := canLay_at hr hlen hcan
    have : kn = c := by omega
    subst this
    rw [allL_dp f _ (by have := free_drop' hw hl hcan; omega) (lok_laid hl hcan)]
    rw [(can_of (ys := freeL xs M) (kn := kn) (on := o) (by rw [freeL_len]; exact hk) hs (by rw [freeL_at hk]; exact hfk) (by rw [freeL_at ho]; exact hfo)).2]
    rw [el, free_less (by omega) (by omega) hlen (by omega) (by unfold backI; omega)]
  · rw [if_neg hcan]
    by_cases ht : canTake W T (freeL xs M) c way = true
    · exfalso
      obtain ⟨kn, on, e, hs, hk, ho, hne, h1, h2, w1, w4, _⟩ := can_parts v1 (by rw [freeL_len]; exact v5) ht
      have : kn = c := by omega
      subst this
      rw [freeL_len] at hk ho
      rw [freeL_at hk] at h1
      rw [freeL_at ho] at h2
      exact hcan (canLay_of hr hk hs h1 h2).1
    · unfold withN
      rw [if_neg ht]; rfl
theorem getD_app {l m : List (List Int)} {i : Nat} : (l ++ m).getD i [] = if i < l.length then l.getD i [] else m.getD (i - l.length) [] := by
  by_cases h : i < l.length
  · rw [if_pos h]; simp [List.getD, List.getElem?_append_left h]
  · rw [if_neg h]; simp [List.getD, List.getElem?_append_right (Nat.le_of_not_lt h)]
theorem til_walk {W T : Int} {xs : List Bool} {r : Nat} (hr : rv W T xs = true) (hq : r < dpT W T xs) : ∀ k, k ≤ xs.length → ∃ f, freeN xs (tlS W T xs r k).M < f ∧ (allF W T xs).getD r [] = (allL W T xs f (tlS W T xs r k).M).getD (tlS W T xs r k).q []
  | 0, _ => by
    have e : bareL W T xs = List.replicate xs.length 0 := by unfold bareL; rw [if_pos hr]
    refine ⟨xs.length + 1, ?_, ?_⟩
    · have := freeN_le xs (tlS W T xs r 0).M; omega
    · unfold allF
      rw [if_pos hr, e]
      rfl
  | k + 1, hk => by
    obtain ⟨f, hf, hE⟩ := til_walk hr hq k (by omega)
    obtain ⟨h1, h2⟩ := tlS_inv hr hq k (by omega)
    cases hy : (tlS W T xs r k).ys.getD k false
    · rw [tlS_skip hy]; exact ⟨f, hf, hE⟩
    · obtain ⟨v1, v2, v3, v4, v5, _⟩ := rv_true hr
      have hkn : k < xs.length := by omega
      have hfk : freeB xs (tlS W T xs r k).M k = true := by rw [h1.free k hkn]; exact hy
      have hfl : freeL xs (tlS W T xs r k).M = (tlS W T xs r k).ys := by
        refine list_ext (by rw [freeL_len, h1.ly]) fun i hi => ?_
        rw [freeL_len] at hi
        rw [freeL_at hi]; exact h1.free i hi
      rcases f with _ | f
      · exact absurd hf (Nat.not_lt_zero _)
      have hfirst : firstI xs (tlS W T xs r k).M 0 xs.length = (k : Int) := by
        rcases first_cases xs (tlS W T xs r k).M 0 xs.length with ⟨_, hno⟩ | ⟨c, _, hc, h0, hfc, hno⟩
        · have := hno k (Nat.zero_le _) hkn
          rw [hfk] at this; cases this
        · rcases Nat.lt_trichotomy c k with e | e | e
          · rw [h1.free c hc, h1.done c e] at hfc; cases hfc
          · rw [h0, e]
          · have := hno k (Nat.zero_le _) e
            rw [hfk] at this; cases this
      have p1 := allL_part (f := f) (way := 1) hf h1.ok (Or.inl rfl) hkn
      have p2 := allL_part (f := f) (way := 2) hf h1.ok (Or.inr rfl) hkn
      rw [hfl] at p1 p2
      rw [allL_succ hfirst (by omega), getD_app, p1] at hE
      rw [tlS_go hy]
      have h36 : xs.length ≤ 36 := by
        have h1 : W * T ≤ 6 * 6 := Int.mul_le_mul v2 v4 (by omega) (by omega)
        omega
      have hsp := dp_split (W := W) (T := T) (ys := (tlS W T xs r k).ys) (c := k) v1 v2 (by rw [h1.ly]; exact v5) (by rw [h1.ly]; exact h36) (by rw [h1.ly]; omega) h1.done hy
      have free_lt : ∀ way : Int, way = 1 ∨ way = 2 → canLay W T xs (tlS W T xs r k).M k way = true → freeN xs (laidL W T xs (tlS W T xs r k).M k way) < f := fun way hw hcan => by
        have := free_drop' hw h1.ok hcan; omega
      by_cases hle : withN W T (tlS W T xs r k).ys k 1 ≤ (tlS W T xs r k).q
      · rw [if_pos hle]
        rw [if_neg (by omega)] at hE
        have hcan : canLay W T xs (tlS W T xs r k).M k 2 = true := by
          by_cases hc : canLay W T xs (tlS W T xs r k).M k 2 = true
          · exact hc
          · rw [if_neg hc] at p2
            have : (0 : Nat) = withN W T (tlS W T xs r k).ys k 2 := p2
            omega
        rw [if_pos hcan] at hE
        exact ⟨f, free_lt 2 (Or.inr rfl) hcan, hE⟩
      · rw [if_neg hle]
        rw [if_pos (by omega)] at hE
        have hcan : canLay W T xs (tlS W T xs r k).M k 1 = true := by
          by_cases hc : canLay W T xs (tlS W T xs r k).M k 1 = true
          · exact hc
          · rw [if_neg hc] at p1
            have : (0 : Nat) = withN W T (tlS W T xs r k).ys k 1 := p1
            omega
        rw [if_pos hcan] at hE
        exact ⟨f, free_lt 1 (Or.inl rfl) hcan, hE⟩
/-- The tiling of rank r is the r-th of all. -/
theorem til_at {W T : Int} {xs : List Bool} {r : Nat} (hr : rv W T xs = true) (hq : r < dpT W T xs) : tilOf W T xs r = ((allF W T xs).getD r [], true) := by
  obtain ⟨f, hf, hE⟩ := til_walk hr hq xs.length (Nat.le_refl _)
  obtain ⟨h1, h2⟩ := tlS_inv hr hq xs.length (Nat.le_refl _)
  have hn : ∀ j, j < xs.length → freeB xs (tlS W T xs r xs.length).M j = false := fun j hj => by rw [h1.free j hj]; exact h1.done j hj
  have hq0 : (tlS W T xs r xs.length).q = 0 := by
    rw [dp_none (fun i hi => h1.done i (by rw [← h1.ly]; exact hi))] at h2
    omega
  rcases f with _ | f
  · exact absurd hf (Nat.not_lt_zero _)
  rcases first_cases xs (tlS W T xs r xs.length).M 0 xs.length with ⟨h0, _⟩ | ⟨c, _, hc, _, hfc, _⟩
  · rw [allL_done h0 (by omega), hq0] at hE
    unfold tilOf
    rw [if_pos ⟨hr, by omega, by omega⟩, Int.toNat_natCast, hE]
    rfl
  · rw [hn c hc] at hfc; cases hfc
/-- The rank of the tiling of rank r is r. -/
theorem rank_til {W T : Int} {xs : List Bool} {r : Nat} (hr : rv W T xs = true) (hq : r < dpT W T xs) : tok W T xs ((allF W T xs).getD r []) = true ∧ rankF W T xs ((allF W T xs).getD r []) = r := by
  have hlen := allF_dp hr
  have ht := (allF_row (W := W) (T := T) (xs := xs) (i := r) (by omega)).2
  refine ⟨ht, ?_⟩
  obtain ⟨e1, e2, e3⟩ := til_rank ht
  obtain ⟨q, hq'⟩ : ∃ q : Nat, rankF W T xs ((allF W T xs).getD r []) = q := ⟨_, (Int.toNat_of_nonneg e3).symm⟩
  rw [hq'] at e1 e2 ⊢
  have hqn : q < dpT W T xs := by omega
  rw [til_at hr hqn] at e1
  have e4 : (allF W T xs).getD q [] = (allF W T xs).getD r [] := by injection e1
  have hnd := allF_nodup W T xs
  have h3 : q = r := by
    rcases Nat.lt_trichotomy q r with h | h | h
    · have := List.pairwise_iff_getElem.1 hnd q r (by omega) (by omega) h
      simp only [List.getD, List.getElem?_eq_getElem (show q < (allF W T xs).length by omega), List.getElem?_eq_getElem (show r < (allF W T xs).length by omega), Option.getD_some] at e4
      exact absurd e4 this
    · exact h
    · have := List.pairwise_iff_getElem.1 hnd r q (by omega) (by omega) h
      simp only [List.getD, List.getElem?_eq_getElem (show q < (allF W T xs).length by omega), List.getElem?_eq_getElem (show r < (allF W T xs).length by omega), Option.getD_some] at e4
      exact absurd e4.symm this
  omega
end Go.Proofs.Ytdmnfafmbdmjmaa
