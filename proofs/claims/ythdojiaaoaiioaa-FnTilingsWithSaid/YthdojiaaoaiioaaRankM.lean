/- Plain facts on ranks of tilings; no statement is proved here. -/
import Derived.Test.YthdojiaaoaiioaaWith
import Derived.Test.YthdojiaaoaiioaaLaid
import Derived.Test.YthdojiaaoaiioaaDpS
import Derived.Test.YthdojiaaoaiioaaLayOne
namespace Go.Proofs.Ythdojiaaoaiioaa
open Go.RowKit
set_option linter.unusedVariables false
set_option maxRecDepth 100000
set_option linter.unusedSimpArgs false

/-- What is left of the region, and how many tilings come before, once the cells before the k-th one are done. -/
def restN (W T : Int) (xs : List Bool) (L : List Int) : Nat → List Bool
  | 0 => xs
  | k + 1 => if (restN W T xs L k).getD k false = true then takeB W T (restN W T xs L k) k (L.getD k 0) else restN W T xs L k
def rankN (W T : Int) (xs : List Bool) (L : List Int) : Nat → Nat
  | 0 => 0
  | k + 1 => rankN W T xs L k + (if (restN W T xs L k).getD k false = true ∧ L.getD k 0 = 2 then withN W T (restN W T xs L k) k 1 else 0)
def rankF (W T : Int) (xs : List Bool) (L : List Int) : Int := if tok W T xs L then (rankN W T xs L xs.length : Int) else -1
theorem restN_len (W T : Int) (xs : List Bool) (L : List Int) (k : Nat) : (restN W T xs L k).length = xs.length := by
  induction k with
  | zero => rfl
  | succ k ih =>
    unfold restN
    split
    · rw [takeB_len, ih]
    · exact ih
theorem withN_le' {W T : Int} {xs : List Bool} (h : xs.length ≤ 36) (k way : Int) : withN W T xs k way ≤ 68719476736 := by
  unfold withN
  split
  · exact dpT_le (by rw [lessB_len]; exact h)
  · omega
theorem rankN_leB {W T : Int} {xs : List Bool} {L : List Int} {B : Nat} (h : ∀ k : Nat, withN W T (restN W T xs L k) k 1 ≤ B) : ∀ k, rankN W T xs L k ≤ k * B
  | 0 => Nat.zero_le _
  | k + 1 => by
    have ih := rankN_leB h k
    have h1 := h k
    have e : rankN W T xs L (k + 1) = rankN W T xs L k + (if (restN W T xs L k).getD k false = true ∧ L.getD k 0 = 2 then withN W T (restN W T xs L k) k 1 else 0) := rfl
    rw [e, Nat.add_mul, Nat.one_mul]
    split <;> omega
theorem rankN_le (W T : Int) (xs : List Bool) (L : List Int) (h : xs.length ≤ 36) (k : Nat) (hk : k ≤ 36) : rankN W T xs L k ≤ 2473901162496 := by
  have h1 := rankN_leB (W := W) (T := T) (xs := xs) (L := L) (B := 68719476736) (fun k => withN_le' (by rw [restN_len]; exact h) k 1) k
  have h2 := Nat.mul_le_mul_right 68719476736 hk
  omega

theorem tok_pair {W T : Int} {xs : List Bool} {L : List Int} (h : tok W T xs L = true) {k : Nat} (hk : k < xs.length) (hx : xs.getD k false = true) :
    L.getD k 0 ≠ 0 ∧ ∃ o : Nat, stepI W T k (L.getD k 0) = o ∧ o < xs.length ∧ L.getD o 0 = backI (L.getD k 0) ∧ stepI W T o (L.getD o 0) = k ∧ o ≠ k := by
  unfold tok at h
  rw [Bool.and_eq_true, decide_eq_true_eq] at h
  obtain ⟨hl, hf⟩ := h
  obtain ⟨hr, hlen, hg⟩ := lok_rv hl
  obtain ⟨v1, v2, v3, v4, v5, _⟩ := rv_true hr
  have hnz : L.getD k 0 ≠ 0 := by
    intro h0
    have hfr : freeB xs L k = true := by unfold freeB; rw [hx, h0]; rfl
    rcases first_cases xs L 0 L.length with ⟨_, hn⟩ | ⟨j, _, _, e, _⟩
    · rw [hn k (Nat.zero_le _) (by omega)] at hfr; cases hfr
    · rw [e] at hf; omega
  refine ⟨hnz, ?_⟩
  have hb := lok_both hl (k := k) (by omega) hnz
  have hw := lok_way hl (k := k) (by omega)
  unfold bothB at hb
  simp only [Bool.and_eq_true, decide_eq_true_eq, beq_iff_eq] at hb
  obtain ⟨⟨⟨h0, _⟩, hxo⟩, hbk⟩ := hb
  have hbd := step_bd (W := W) (T := T) (k := (k : Int)) (way := L.getD k 0) v1 (by omega) (by omega)
  obtain ⟨o, ho⟩ : ∃ o : Nat, stepI W T k (L.getD k 0) = o := ⟨(stepI W T k (L.getD k 0)).toNat, by omega⟩
  rw [ho] at hbk hbd h0
  have hback := rk_back (W := W) (T := T) (k := (k : Int)) (way := L.getD k 0) v1 v2 (by omega) (by omega) (by omega) (by rw [ho]; exact h0)
  have hne := step_ne (W := W) (T := T) (k := (k : Int)) (way := L.getD k 0) v1 (by rw [ho]; exact h0) (by omega)
  rw [ho] at hback hne
  simp only [Int.toNat_natCast] at hbk
  refine ⟨o, ho, by omega, hbk, by rw [hbk]; exact hback, by omega⟩

/-- How the list of the model and what is left hang together. -/
structure RInv (W T : Int) (xs : List Bool) (L : List Int) (c : Nat) (M : List Int) (ys : List Bool) : Prop where
  ly : ys.length = xs.length
  lm : M.length = xs.length
  ok : lok W T xs M = true
  free : ∀ j, j < xs.length → freeB xs M j = ys.getD j false
  done : ∀ j, j < c → ys.getD j false = false
  pair : ∀ j o : Nat, ys.getD j false = true → stepI W T j (L.getD j 0) = o → ys.getD o false = true

theorem getD_lt {ys : List Bool} {j : Nat} (h : ys.getD j false = true) : j < ys.length := by
  rcases Nat.lt_or_ge j ys.length with h' | h'
  · exact h'
  · rw [List.getD_eq_getElem?_getD, List.getElem?_eq_none h'] at h
    cases h

theorem RInv.start {W T : Int} {xs : List Bool} {L : List Int} (h : tok W T xs L = true) : RInv W T xs L 0 (List.replicate xs.length 0) xs := by
  have hl : lok W T xs L = true := by unfold tok at h; rw [Bool.and_eq_true] at h; exact h.1
  obtain ⟨hr, hlen, _⟩ := lok_rv hl
  have hz : ∀ k : Nat, (List.replicate xs.length (0 : Int)).getD k 0 = 0 := by
    intro k
    rw [List.getD_eq_getElem?_getD]
    rcases Nat.lt_or_ge k xs.length with h' | h'
    · rw [List.getElem?_replicate_of_lt h']; rfl
    · rw [List.getElem?_eq_none (by simpa using h')]; rfl
  refine ⟨rfl, by simp, ?_, ?_, fun j hj => absurd hj (Nat.not_lt_zero _), ?_⟩
  · unfold lok goodN
    rw [hr]
    simp only [List.length_replicate, BEq.rfl, Bool.true_and, List.all_eq_true]
    intro k _
    unfold goodB
    rw [hz]
    rfl
  · intro j _
    unfold freeB
    rw [hz]
    simp
  · intro j o hj ho
    obtain ⟨_, o', ho', hlt, hb, hs, hne⟩ := tok_pair h (getD_lt hj) hj
    rw [ho] at ho'
    have : o = o' := by omega
    subst this
    have hb2 := lok_both hl (k := j) (by rw [hlen]; exact getD_lt hj) (tok_pair h (getD_lt hj) hj).1
    unfold bothB at hb2
    simp only [Bool.and_eq_true] at hb2
    have := hb2.1.2
    rw [ho] at this
    simpa using this

theorem RInv.skip {W T : Int} {xs : List Bool} {L M : List Int} {c : Nat} {ys : List Bool} (h : RInv W T xs L c M ys) (hc : ys.getD c false = false) : RInv W T xs L (c + 1) M ys :=
  ⟨h.ly, h.lm, h.ok, h.free, fun j hj => by
    by_cases e : j = c
    · rw [e]; exact hc
    · exact h.done j (by omega), h.pair⟩

theorem RInv.can {W T : Int} {xs : List Bool} {L M : List Int} {c : Nat} {ys : List Bool} (h : RInv W T xs L c M ys) (hc : c < xs.length) (way : Int) : canLay W T xs M c way = canTake W T ys c way := by
  obtain ⟨hr, _, _⟩ := lok_rv h.ok
  obtain ⟨v1, v2, v3, v4, v5, _⟩ := rv_true hr
  unfold canLay canTake
  rw [h.ly]
  by_cases h0 : 0 ≤ cellB W T xs.length c way
  · have hbd := cellB_bd (W := W) (T := T) (n := xs.length) (k := (c : Int)) (way := way) v1 v5 h0
    simp only [Int.toNat_natCast]
    rw [h.free c hc, h.free _ (by omega), Bool.and_assoc]
  · rw [decide_eq_false h0]; rfl

theorem RInv.step {W T : Int} {xs : List Bool} {L M : List Int} {c : Nat} {ys : List Bool} (h : RInv W T xs L c M ys) (ht : tok W T xs L = true) (hc : c < xs.length) (hy : ys.getD c false = true) :
    canLay W T xs M c (L.getD c 0) = true ∧ RInv W T xs L (c + 1) (laidL W T xs M c (L.getD c 0)) (takeB W T ys c (L.getD c 0)) := by
  have hfc : freeB xs M c = true := by rw [h.free c hc]; exact hy
  have hxc : xs.getD c false = true := by unfold freeB at hfc; rw [Bool.and_eq_true] at hfc; exact hfc.1
  obtain ⟨hnz, o, hs, ho, hbk, hback, hne⟩ := tok_pair ht hc hxc
  have hyo := h.pair c o hy hs
  have hfo : freeB xs M o = true := by rw [h.free o ho]; exact hyo
  have hl : lok W T xs L = true := by unfold tok at ht; rw [Bool.and_eq_true] at ht; exact ht.1
  have hlen := lok_len' hl
  have hw := lok_way hl (k := c) (by omega)
  obtain ⟨way, hway⟩ : ∃ way, way = L.getD c 0 := ⟨_, rfl⟩
  rw [← hway] at hs hbk hw hnz ⊢
  rw [hbk] at hback
  have hcell : cellB W T xs.length c way = o := by unfold cellB; rw [if_pos (by omega)]; exact hs
  have hcan : canTake W T ys c way = true := by
    unfold canTake
    rw [h.ly, hcell]
    simp [-List.getD_eq_getElem?_getD, hy, hyo]
  have hlay : canLay W T xs M c way = true := by rw [h.can hc]; exact hcan
  have e1 : takeB W T ys c way = lessB ys [c, o] := by unfold takeB; rw [hcan, h.ly, hcell]; simp [-List.getD_eq_getElem?_getD]
  have e2 : laidL W T xs M c way = (M.set c way).set o (backI way) := by unfold laidL; rw [hlay, hcell]; simp [-List.getD_eq_getElem?_getD]
  refine ⟨hlay, ?_⟩
  rw [e1, e2]
  have hgd : ∀ j : Nat, ((M.set c way).set o (backI way)).getD j 0 = if j = o then backI way else if j = c then way else M.getD j 0 := fun j => getD_set2 (by rw [h.lm]; exact hc) (by rw [h.lm]; exact ho)
  have hlg : ∀ j, j < xs.length → (lessB ys [c, o]).getD j false = (ys.getD j false && !(decide (j = c) || decide (j = o))) := by
    intro j hj
    rw [lessB_get _ (by rw [h.ly]; exact hj)]
    by_cases a1 : j = c
    · subst a1; simp [-List.getD_eq_getElem?_getD]
    · by_cases a2 : j = o
      · subst a2; simp [-List.getD_eq_getElem?_getD]
      · simp [-List.getD_eq_getElem?_getD, a1, a2]
  refine ⟨by rw [lessB_len, h.ly], by simp [-List.getD_eq_getElem?_getD, h.lm], lok_lay h.ok hc ho hne hfc hfo (by omega) hs hback, ?_, ?_, ?_⟩
  · intro j hj
    rw [hlg j hj, ← h.free j hj]
    unfold freeB
    rw [hgd j]
    by_cases a2 : j = o
    · subst a2
      have := back_nz hw.1
      simp [-List.getD_eq_getElem?_getD, this]
    · by_cases a1 : j = c
      · subst a1
        simp [-List.getD_eq_getElem?_getD, a2, hnz]
      · simp [-List.getD_eq_getElem?_getD, a1, a2]
  · intro j hj
    by_cases a1 : j = c
    · subst a1; rw [hlg j hc]; simp [-List.getD_eq_getElem?_getD]
    · rcases Nat.lt_or_ge j xs.length with hjn | hjn
      · rw [hlg j hjn, h.done j (by omega)]; rfl
      · omega
  · intro j p hj hp
    have hjn : j < xs.length := by have := getD_lt hj; rw [lessB_len, h.ly] at this; exact this
    rw [hlg j hjn] at hj
    simp only [Bool.and_eq_true, Bool.not_eq_true', Bool.or_eq_false_iff, decide_eq_false_iff_not] at hj
    obtain ⟨hyj, hjc, hjo⟩ := hj
    have hyp := h.pair j p hyj hp
    have hpn : p < xs.length := by have := getD_lt hyp; rw [h.ly] at this; exact this
    have hxj : xs.getD j false = true := by have := h.free j hjn; rw [hyj] at this; unfold freeB at this; rw [Bool.and_eq_true] at this; exact this.1
    obtain ⟨_, p', hp', _, _, hback', _⟩ := tok_pair ht hjn hxj
    rw [hp] at hp'
    have : p = p' := by omega
    subst this
    rw [hlg p hpn, hyp]
    have q1 : p ≠ c := fun e => by subst e; rw [← hway, hs] at hback'; omega
    have q2 : p ≠ o := fun e => by subst e; rw [hbk, hback] at hback'; omega
    simp [-List.getD_eq_getElem?_getD, q1, q2]

theorem RInv.rest {W T : Int} {xs : List Bool} {L M : List Int} {c : Nat} {ys : List Bool} (h : RInv W T xs L c M ys) : ∀ d, ys = restN W T xs L c → (∀ j, c ≤ j → j < c + d → ys.getD j false = false) → restN W T xs L (c + d) = ys ∧ rankN W T xs L (c + d) = rankN W T xs L c
  | 0, e, _ => ⟨e.symm, rfl⟩
  | d + 1, e, hz => by
    obtain ⟨e1, e2⟩ := RInv.rest h d e (fun j h1 h2 => hz j h1 (by omega))
    have h0 := hz (c + d) (by omega) (by omega)
    refine ⟨?_, ?_⟩
    · show restN W T xs L (c + d + 1) = ys
      unfold restN
      rw [e1, h0]
      simp [-List.getD_eq_getElem?_getD]
    · have e3 : rankN W T xs L (c + (d + 1)) = rankN W T xs L (c + d) + (if (restN W T xs L (c + d)).getD (c + d) false = true ∧ L.getD (c + d) 0 = 2 then withN W T (restN W T xs L (c + d)) ((c + d : Nat) : Int) 1 else 0) := rfl
      rw [e3, e1, h0, e2]
      simp

/-- The cells that a list covers. -/
def covN (M : List Int) : Nat → List Nat
  | 0 => []
  | k + 1 => covN M k ++ (if M.getD k 0 = 0 then [] else [k])
theorem covN_mem {M : List Int} {j : Nat} : ∀ k, j ∈ covN M k ↔ j < k ∧ M.getD j 0 ≠ 0
  | 0 => by simp [-List.getD_eq_getElem?_getD, covN]
  | k + 1 => by
    unfold covN
    rw [List.mem_append, covN_mem k]
    by_cases h : M.getD k 0 = 0
    · rw [if_pos h]
      constructor
      · rintro (⟨h1, h2⟩ | h1)
        · exact ⟨by omega, h2⟩
        · simp [-List.getD_eq_getElem?_getD] at h1
      · rintro ⟨h1, h2⟩
        by_cases e : j = k
        · subst e; exact absurd h h2
        · exact Or.inl ⟨by omega, h2⟩
    · rw [if_neg h]
      constructor
      · rintro (⟨h1, h2⟩ | h1)
        · exact ⟨by omega, h2⟩
        · simp [-List.getD_eq_getElem?_getD] at h1; subst h1; exact ⟨by omega, h⟩
      · rintro ⟨h1, h2⟩
        by_cases e : j = k
        · subst e; exact Or.inr (by simp)
        · exact Or.inl ⟨by omega, h2⟩
theorem covN_le (M : List Int) : ∀ k, (covN M k).length ≤ k
  | 0 => Nat.le_refl _
  | k + 1 => by have := covN_le M k; unfold covN; rw [List.length_append]; split <;> simp <;> omega

/-- How many tilings there are with a further domino to the east. -/
theorem RInv.east {W T : Int} {xs : List Bool} {L M : List Int} {c : Nat} {ys : List Bool} (h : RInv W T xs L c M ys) (hc : c < xs.length) (way : Int) (hw : 1 ≤ way ∧ way ≤ 4) (hlay : canLay W T xs M c way = true) :
    tilT W T (lessB xs (covN (laidL W T xs M c way) xs.length)) = (withN W T ys c way : Int) := by
  have hcan : canTake W T ys c way = true := by rw [← h.can hc]; exact hlay
  obtain ⟨hr, _, _⟩ := lok_rv h.ok
  obtain ⟨v1, v2, v3, v4, v5, _⟩ := rv_true hr
  have h0 : 0 ≤ cellB W T xs.length c way := by unfold canLay at hlay; simp only [Bool.and_eq_true, decide_eq_true_eq] at hlay; exact hlay.1.1
  have hbd := cellB_bd (W := W) (T := T) (n := xs.length) (k := (c : Int)) (way := way) v1 v5 h0
  obtain ⟨o, ho⟩ : ∃ o : Nat, cellB W T xs.length c way = o := ⟨(cellB W T xs.length c way).toNat, by omega⟩
  rw [ho] at hbd
  have e2 : laidL W T xs M c way = (M.set c way).set o (backI way) := by unfold laidL; rw [hlay, ho]; simp [-List.getD_eq_getElem?_getD]
  have e3 : withN W T ys c way = dpT W T (lessB ys [c, o]) := by unfold withN; rw [hcan, h.ly, ho]; simp [-List.getD_eq_getElem?_getD]
  have hgd : ∀ j : Nat, ((M.set c way).set o (backI way)).getD j 0 = if j = o then backI way else if j = c then way else M.getD j 0 := fun j => getD_set2 (by rw [h.lm]; exact hc) (by rw [h.lm]; omega)
  have hbn := back_nz (way := way) (by omega)
  have e4 : lessB xs (covN ((M.set c way).set o (backI way)) xs.length) = lessB ys [c, o] := by
    unfold lessB
    rw [h.ly]
    refine tab_congr (fun j hj => ?_)
    unfold lessF
    rw [← h.free j hj]
    unfold freeB
    have hm := covN_mem (M := (M.set c way).set o (backI way)) (j := j) xs.length
    rw [hgd j] at hm
    rw [Bool.eq_iff_iff]
    simp only [Bool.and_eq_true, Bool.not_eq_true', List.contains_eq_mem, decide_eq_false_iff_not, hm, List.mem_cons, List.not_mem_nil, or_false, beq_iff_eq]
    by_cases a2 : j = o
    · subst a2; simp [-List.getD_eq_getElem?_getD, hbn]; omega
    · by_cases a1 : j = c
      · subst a1; simp [-List.getD_eq_getElem?_getD, a2]; omega
      · simp [-List.getD_eq_getElem?_getD, a1, a2, hj]
  unfold tilT
  rw [if_pos (rv_less hr), e2, e4, e3]

end Go.Proofs.Ythdojiaaoaiioaa
