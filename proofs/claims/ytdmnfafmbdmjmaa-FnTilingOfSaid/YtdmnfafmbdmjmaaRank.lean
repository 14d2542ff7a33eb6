/- Plain facts on ranks of tilings; no statement is proved here. Merged of: RankM, Rank, RankI, RankS. -/
import Derived.Test.YtdmnfafmbdmjmaaWith
import Derived.Test.YtdmnfafmbdmjmaaLaid
import Derived.Test.YtdmnfafmbdmjmaaDpS
import Derived.Test.YtdmnfafmbdmjmaaLayOne
import Derived.Test.YtdmnfafmbdmjmaaCloneI
import Derived.Test.YtdmnfafmbdmjmaaFaultsS
import Derived.Deep.DeepCutAuto
namespace Go.Proofs.Ytdmnfafmbdmjmaa
open Go.RowKit
set_option linter.unusedVariables false
set_option maxRecDepth 100000
set_option linter.unusedSimpArgs false

/-- What is left of the region, and how many tilings come before, once the cells before the k-th one are done. -/
def restN (W T : Int) (xs : List Bool) (L : List Int) : Nat → List Bool
  | 0 => xs
  | k + 1 => if (restN W T xs L k).getD k false = true then takeB W T (restN W T xs L k) k (L.getD k 0) else restN W T xs L k
def rankN (W T : Int) (xs : List Bool) (L : List Int) : Nat → Nat
  | 0 => 0
  | k + 1 => rankN W T xs L k + (if (restN W T xs L k).getD k false = true ∧ L.getD k 0 = 2 then withN W T (restN W T xs L k) k 1 else 0)
def rankF (W T : Int) (xs : List Bool) (L : List Int) : Int := if tok W T xs L then (rankN W T xs L xs.length : Int) else -1
theorem restN_len (W T : Int) (xs : List Bool) (L : List Int) (k : Nat) : (restN W T xs L k).length = xs.length := by
  induction k with
  | zero => rfl
  | succ k ih =>
    unfold restN
    split
    · rw [takeB_len, ih]
    · exact ih
theorem withN_le' {W T : Int} {xs : List Bool} (h : xs.length ≤ 36) (k way : Int) : withN W T xs k way ≤ 68719476736 := by
  unfold withN
  split
  · exact dpT_le (by rw [lessB_len]; exact h)
  · omega
theorem rankN_leB {W T : Int} {xs : List Bool} {L : List Int} {B : Nat} (h : ∀ k : Nat, withN W T (restN W T xs L k) k 1 ≤ B) : ∀ k, rankN W T xs L k ≤ k * B
  | 0 => Nat.zero_le _
  | k + 1 => by
    have ih := rankN_leB h k
    have h1 := h k
    have e : rankN W T xs L (k + 1) = rankN W T xs L k + (if (restN W T xs L k).getD k false = true ∧ L.getD k 0 = 2 then withN W T (restN W T xs L k) k 1 else 0) := rfl
    rw [e, Nat.add_mul, Nat.one_mul]
    split <;> omega
theorem rankN_le (W T : Int) (xs : List Bool) (L : List Int) (h : xs.length ≤ 36) (k : Nat) (hk : k ≤ 36) : rankN W T xs L k ≤ 2473901162496 := by
  have h1 := rankN_leB (W := W) (T := T) (xs := xs) (L := L) (B := 68719476736) (fun k => withN_le' (by rw [restN_len]; exact h) k 1) k
  have h2 := Nat.mul_le_mul_right 68719476736 hk
  omega

theorem tok_pair {W T : Int} {xs : List Bool} {L : List Int} (h : tok W T xs L = true) {k : Nat} (hk : k < xs.length) (hx : xs.getD k false = true) :
    L.getD k 0 ≠ 0 ∧ ∃ o : Nat, stepI W T k (L.getD k 0) = o ∧ o < xs.length ∧ L.getD o 0 = backI (L.getD k 0) ∧ stepI W T o (L.getD o 0) = k ∧ o ≠ k := by
  unfold tok at h
  rw [Bool.and_eq_true, decide_eq_true_eq] at h
  obtain ⟨hl, hf⟩ := h
  obtain ⟨hr, hlen, hg⟩ := lok_rv hl
  obtain ⟨v1, v2, v3, v4, v5, _⟩ := rv_true hr
  have hnz : L.getD k 0 ≠ 0 := by
    intro h0
    have hfr : freeB xs L k = true := by unfold freeB; rw [hx, h0]; rfl
    rcases first_cases xs L 0 L.length with ⟨_, hn⟩ | ⟨j, _, _, e, _⟩
    · rw [hn k (Nat.zero_le _) (by omega)] at hfr; cases hfr
    · rw [e] at hf; omega
  refine ⟨hnz, ?_⟩
  have hb := lok_both hl (k := k) (by omega) hnz
  have hw := lok_way hl (k := k) (by omega)
  unfold bothB at hb
  simp only [Bool.and_eq_true, decide_eq_true_eq, beq_iff_eq] at hb
  obtain ⟨⟨⟨h0, _⟩, hxo⟩, hbk⟩ := hb
  have hbd := step_bd (W := W) (T := T) (k := (k : Int)) (way := L.getD k 0) v1 (by omega) (by omega)
  obtain ⟨o, ho⟩ : ∃ o : Nat, stepI W T k (L.getD k 0) = o := ⟨(stepI W T k (L.getD k 0)).toNat, by omega⟩
  rw [ho] at hbk hbd h0
  have hback := rk_back (W := W) (T := T) (k := (k : Int)) (way := L.getD k 0) v1 v2 (by omega) (by omega) (by omega) (by rw [ho]; exact h0)
  have hne := step_ne (W := W) (T := T) (k := (k : Int)) (way := L.getD k 0) v1 (by rw [ho]; exact h0) (by omega)
  rw [ho] at hback hne
  simp only [Int.toNat_natCast] at hbk
  refine ⟨o, ho, by omega, hbk, by rw [hbk]; exact hback, by omega⟩

/-- How the list of the model and what is left hang together. -/
structure RInv (W T : Int) (xs : List Bool) (L : List Int) (c : Nat) (M : List Int) (ys : List Bool) : Prop where
  ly : ys.length = xs.length
  lm : M.length = xs.length
  ok : lok W T xs M = true
  free : ∀ j, j < xs.length → freeB xs M j = ys.getD j false
  done : ∀ j, j < c → ys.getD j false = false
  pair : ∀ j o : Nat, ys.getD j false = true → stepI W T j (L.getD j 0) = o → ys.getD o false = true

theorem getD_lt {ys : List Bool} {j : Nat} (h : ys.getD j false = true) : j < ys.length := by
  rcases Nat.lt_or_ge j ys.length with h' | h'
  · exact h'
  · rw [List.getD_eq_getElem?_getD, List.getElem?_eq_none h'] at h
    cases h

theorem RInv.start {W T : Int} {xs : List Bool} {L : List Int} (h : tok W T xs L = true) : RInv W T xs L 0 (List.replicate xs.length 0) xs := by
  have hl : lok W T xs L = true := by unfold tok at h; rw [Bool.and_eq_true] at h; exact h.1
  obtain ⟨hr, hlen, _⟩ := lok_rv hl
  have hz : ∀ k : Nat, (List.replicate xs.length (0 : Int)).getD k 0 = 0 := by
    intro k
    rw [List.getD_eq_getElem?_getD]
    rcases Nat.lt_or_ge k xs.length with h' | h'
    · rw [List.getElem?_replicate_of_lt h']; rfl
    · rw [List.getElem?_eq_none (by simpa using h')]; rfl
  refine ⟨rfl, by simp, ?_, ?_, fun j hj => absurd hj (Nat.not_lt_zero _), ?_⟩
  · unfold lok goodN
    rw [hr]
    simp only [List.length_replicate, BEq.rfl, Bool.true_and, List.all_eq_true]
    intro k _
    unfold goodB
    rw [hz]
    rfl
  · intro j _
    unfold freeB
    rw [hz]
    simp
  · intro j o hj ho
    obtain ⟨_, o', ho', hlt, hb, hs, hne⟩ := tok_pair h (getD_lt hj) hj
    rw [ho] at ho'
    have : o = o' := by omega
    subst this
    have hb2 := lok_both hl (k := j) (by rw [hlen]; exact getD_lt hj) (tok_pair h (getD_lt hj) hj).1
    unfold bothB at hb2
    simp only [Bool.and_eq_true] at hb2
    have := hb2.1.2
    rw [ho] at this
    simpa using this

theorem RInv.skip {W T : Int} {xs : List Bool} {L M : List Int} {c : Nat} {ys : List Bool} (h : RInv W T xs L c M ys) (hc : ys.getD c false = false) : RInv W T xs L (c + 1) M ys :=
  ⟨h.ly, h.lm, h.ok, h.free, fun j hj => by
    by_cases e : j = c
    · rw [e]; exact hc
    · exact h.done j (by omega), h.pair⟩

theorem RInv.can {W T : Int} {xs : List Bool} {L M : List Int} {c : Nat} {ys : List Bool} (h : RInv W T xs L c M ys) (hc : c < xs.length) (way : Int) : canLay W T xs M c way = canTake W T ys c way := by
  obtain ⟨hr, _, _⟩ := lok_rv h.ok
  obtain ⟨v1, v2, v3, v4, v5, _⟩ := rv_true hr
  unfold canLay canTake
  rw [h.ly]
  by_cases h0 : 0 ≤ cellB W T xs.length c way
  · have hbd := cellB_bd (W := W) (T := T) (n := xs.length) (k := (c : Int)) (way := way) v1 v5 h0
    simp only [Int.toNat_natCast]
    rw [h.free c hc, h.free _ (by omega), Bool.and_assoc]
  · rw [decide_eq_false h0]; rfl

theorem RInv.step {W T : Int} {xs : List Bool} {L M : List Int} {c : Nat} {ys : List Bool} (h : RInv W T xs L c M ys) (ht : tok W T xs L = true) (hc : c < xs.length) (hy : ys.getD c false = true) :
    canLay W T xs M c (L.getD c 0) = true ∧ RInv W T xs L (c + 1) (laidL W T xs M c (L.getD c 0)) (takeB W T ys c (L.getD c 0)) := by
  have hfc : freeB xs M c = true := by rw [h.free c hc]; exact hy
  have hxc : xs.getD c false = true := by unfold freeB at hfc; rw [Bool.and_eq_true] at hfc; exact hfc.1
  obtain ⟨hnz, o, hs, ho, hbk, hback, hne⟩ := tok_pair ht hc hxc
  have hyo := h.pair c o hy hs
  have hfo : freeB xs M o = true := by rw [h.free o ho]; exact hyo
  have hl : lok W T xs L = true := by unfold tok at ht; rw [Bool.and_eq_true] at ht; exact ht.1
  have hlen := lok_len' hl
  have hw := lok_way hl (k := c) (by omega)
  obtain ⟨way, hway⟩ : ∃ way, way = L.getD c 0 := ⟨_, rfl⟩
  rw [← hway] at hs hbk hw hnz ⊢
  rw [hbk] at hback
  have hcell : cellB W T xs.length c way = o := by unfold cellB; rw [if_pos (by omega)]; exact hs
  have hcan : canTake W T ys c way = true := by
    unfold canTake
    rw [h.ly, hcell]
    simp [-List.getD_eq_getElem?_getD, hy, hyo]
  have hlay : canLay W T xs M c way = true := by rw [h.can hc]; exact hcan
  have e1 : takeB W T ys c way = lessB ys [c, o] := by unfold takeB; rw [hcan, h.ly, hcell]; simp [-List.getD_eq_getElem?_getD]
  have e2 : laidL W T xs M c way = (M.set c way).set o (backI way) := by unfold laidL; rw [hlay, hcell]; simp [-List.getD_eq_getElem?_getD]
  refine ⟨hlay, ?_⟩
  rw [e1, e2]
  have hgd : ∀ j : Nat, ((M.set c way).set o (backI way)).getD j 0 = if j = o then backI way else if j = c then way else M.getD j 0 := fun j => getD_set2 (by rw [h.lm]; exact hc) (by rw [h.lm]; exact ho)
  have hlg : ∀ j, j < xs.length → (lessB ys [c, o]).getD j false = (ys.getD j false && !(decide (j = c) || decide (j = o))) := by
    intro j hj
    rw [lessB_get _ (by rw [h.ly]; exact hj)]
    by_cases a1 : j = c
    · subst a1; simp [-List.getD_eq_getElem?_getD]
    · by_cases a2 : j = o
      · subst a2; simp [-List.getD_eq_getElem?_getD]
      · simp [-List.getD_eq_getElem?_getD, a1, a2]
  refine ⟨by rw [lessB_len, h.ly], by simp [-List.getD_eq_getElem?_getD, h.lm], lok_lay h.ok hc ho hne hfc hfo (by omega) hs hback, ?_, ?_, ?_⟩
  · intro j hj
    rw [hlg j hj, ← h.free j hj]
    unfold freeB
    rw [hgd j]
    by_cases a2 : j = o
    · subst a2
      have := back_nz hw.1
      simp [-List.getD_eq_getElem?_getD, this]
    · by_cases a1 : j = c
      · subst a1
        simp [-List.getD_eq_getElem?_getD, a2, hnz]
      · simp [-List.getD_eq_getElem?_getD, a1, a2]
  · intro j hj
    by_cases a1 : j = c
    · subst a1; rw [hlg j hc]; simp [-List.getD_eq_getElem?_getD]
    · rcases Nat.lt_or_ge j xs.length with hjn | hjn
      · rw [hlg j hjn, h.done j (by omega)]; rfl
      · omega
  · intro j p hj hp
    have hjn : j < xs.length := by have := getD_lt hj; rw [lessB_len, h.ly] at this; exact this
    rw [hlg j hjn] at hj
    simp only [Bool.and_eq_true, Bool.not_eq_true', Bool.or_eq_false_iff, decide_eq_false_iff_not] at hj
    obtain ⟨hyj, hjc, hjo⟩ := hj
    have hyp := h.pair j p hyj hp
    have hpn : p < xs.length := by have := getD_lt hyp; rw [h.ly] at this; exact this
    have hxj : xs.getD j false = true := by have := h.free j hjn; rw [hyj] at this; unfold freeB at this; rw [Bool.and_eq_true] at this; exact this.1
    obtain ⟨_, p', hp', _, _, hback', _⟩ := tok_pair ht hjn hxj
    rw [hp] at hp'
    have : p = p' := by omega
    subst this
    rw [hlg p hpn, hyp]
    have q1 : p ≠ c := fun e => by subst e; rw [← hway, hs] at hback'; omega
    have q2 : p ≠ o := fun e => by subst e; rw [hbk, hback] at hback'; omega
    simp [-List.getD_eq_getElem?_getD, q1, q2]

theorem RInv.rest {W T : Int} {xs : List Bool} {L M : List Int} {c : Nat} {ys : List Bool} (h : RInv W T xs L c M ys) : ∀ d, ys = restN W T xs L c → (∀ j, c ≤ j → j < c + d → ys.getD j false = false) → restN W T xs L (c + d) = ys ∧ rankN W T xs L (c + d) = rankN W T xs L c
  | 0, e, _ => ⟨e.symm, rfl⟩
  | d + 1, e, hz => by
    obtain ⟨e1, e2⟩ := RInv.rest h d e (fun j h1 h2 => hz j h1 (by omega))
    have h0 := hz (c + d) (by omega) (by omega)
    refine ⟨?_, ?_⟩
    · show restN W T xs L (c + d + 1) = ys
      unfold restN
      rw [e1, h0]
      simp [-List.getD_eq_getElem?_getD]
    · have e3 : rankN W T xs L (c + (d + 1)) = rankN W T xs L (c + d) + (if (restN W T xs L (c + d)).getD (c + d) false = true ∧ L.getD (c + d) 0 = 2 then withN W T (restN W T xs L (c + d)) ((c + d : Nat) : Int) 1 else 0) := rfl
      rw [e3, e1, h0, e2]
      simp

/-- The cells that a list covers. -/
def covN (M : List Int) : Nat → List Nat
  | 0 => []
  | k + 1 => covN M k ++ (if M.getD k 0 = 0 then [] else [k])
theorem covN_mem {M : List Int} {j : Nat} : ∀ k, j ∈ covN M k ↔ j < k ∧ M.getD j 0 ≠ 0
  | 0 => by simp [-List.getD_eq_getElem?_getD, covN]
  | k + 1 => by
    unfold covN
    rw [List.mem_append, covN_mem k]
    by_cases h : M.getD k 0 = 0
    · rw [if_pos h]
      constructor
      · rintro (⟨h1, h2⟩ | h1)
        · exact ⟨by omega, h2⟩
        · simp [-List.getD_eq_getElem?_getD] at h1
      · rintro ⟨h1, h2⟩
        by_cases e : j = k
        · subst e; exact absurd h h2
        · exact Or.inl ⟨by omega, h2⟩
    · rw [if_neg h]
      constructor
      · rintro (⟨h1, h2⟩ | h1)
        · exact ⟨by omega, h2⟩
        · simp [-List.getD_eq_getElem?_getD] at h1; subst h1; exact ⟨by omega, h⟩
      · rintro ⟨h1, h2⟩
        by_cases e : j = k
        · subst e; exact Or.inr (by simp)
        · exact Or.inl ⟨by omega, h2⟩
theorem covN_le (M : List Int) : ∀ k, (covN M k).length ≤ k
  | 0 => Nat.le_refl _
  | k + 1 => by have := covN_le M k; unfold covN; rw [List.length_append]; split <;> simp <;> omega

/-- How many tilings there are with a further domino to the east. -/
theorem RInv.east {W T : Int} {xs : List Bool} {L M : List Int} {c : Nat} {ys : List Bool} (h : RInv W T xs L c M ys) (hc : c < xs.length) (way : Int) (hw : 1 ≤ way ∧ way ≤ 4) (hlay : canLay W T xs M c way = true) :
    tilT W T (lessB xs (covN (laidL W T xs M c way) xs.length)) = (withN W T ys c way : Int) := by
  have hcan : canTake W T ys c way = true := by rw [← h.can hc]; exact hlay
  obtain ⟨hr, _, _⟩ := lok_rv h.ok
  obtain ⟨v1, v2, v3, v4, v5, _⟩ := rv_true hr
  have h0 : 0 ≤ cellB W T xs.length c way := by unfold canLay at hlay; simp only [Bool.and_eq_true, decide_eq_true_eq] at hlay; exact hlay.1.1
  have hbd := cellB_bd (W := W) (T := T) (n := xs.length) (k := (c : Int)) (way := way) v1 v5 h0
  obtain ⟨o, ho⟩ : ∃ o : Nat, cellB W T xs.length c way = o := ⟨(cellB W T xs.length c way).toNat, by omega⟩
  rw [ho] at hbd
  have e2 : laidL W T xs M c way = (M.set c way).set o (backI way) := by unfold laidL; rw [hlay, ho]; simp [-List.getD_eq_getElem?_getD]
  have e3 : withN W T ys c way = dpT W T (lessB ys [c, o]) := by unfold withN; rw [hcan, h.ly, ho]; simp [-List.getD_eq_getElem?_getD]
  have hgd : ∀ j : Nat, ((M.set c way).set o (backI way)).getD j 0 = if j = o then backI way else if j = c then way else M.getD j 0 := fun j => getD_set2 (by rw [h.lm]; exact hc) (by rw [h.lm]; omega)
  have hbn := back_nz (way := way) (by omega)
  have e4 : lessB xs (covN ((M.set c way).set o (backI way)) xs.length) = lessB ys [c, o] := by
    unfold lessB
    rw [h.ly]
    refine tab_congr (fun j hj => ?_)
    unfold lessF
    rw [← h.free j hj]
    unfold freeB
    have hm := covN_mem (M := (M.set c way).set o (backI way)) (j := j) xs.length
    rw [hgd j] at hm
    rw [Bool.eq_iff_iff]
    simp only [Bool.and_eq_true, Bool.not_eq_true', List.contains_eq_mem, decide_eq_false_iff_not, hm, List.mem_cons, List.not_mem_nil, or_false, beq_iff_eq]
    by_cases a2 : j = o
    · subst a2; simp [-List.getD_eq_getElem?_getD, hbn]; omega
    · by_cases a1 : j = c
      · subst a1; simp [-List.getD_eq_getElem?_getD, a2]; omega
      · simp [-List.getD_eq_getElem?_getD, a1, a2, hj]
  unfold tilT
  rw [if_pos (rv_less hr), e2, e4, e3]

end Go.Proofs.Ytdmnfafmbdmjmaa

namespace Go.Proofs.Ytdmnfafmbdmjmaa
open Go.RowKit
set_option linter.unusedVariables false
set_option maxRecDepth 100000
set_option linter.unusedSimpArgs false

theorem RInv.skips {W T : Int} {xs : List Bool} {L M : List Int} {c : Nat} {ys : List Bool} (h : RInv W T xs L c M ys) : ∀ d, (∀ j, c ≤ j → j < c + d → ys.getD j false = false) → RInv W T xs L (c + d) M ys
  | 0, _ => h
  | d + 1, hz => (RInv.skips h d (fun j h1 h2 => hz j h1 (by omega))).skip (hz (c + d) (by omega) (by omega))
theorem rest_step {W T : Int} {xs : List Bool} {L : List Int} {f : Nat} {ys : List Bool} (e : ys = restN W T xs L f) (hy : ys.getD f false = true) :
    takeB W T ys f (L.getD f 0) = restN W T xs L (f + 1) ∧ rankN W T xs L (f + 1) = rankN W T xs L f + (if L.getD f 0 = 2 then withN W T ys f 1 else 0) := by
  have e1 : restN W T xs L (f + 1) = if (restN W T xs L f).getD f false = true then takeB W T (restN W T xs L f) f (L.getD f 0) else restN W T xs L f := rfl
  have e2 : rankN W T xs L (f + 1) = rankN W T xs L f + (if (restN W T xs L f).getD f false = true ∧ L.getD f 0 = 2 then withN W T (restN W T xs L f) f 1 else 0) := rfl
  rw [e1, e2, ← e, if_pos hy]
  refine ⟨rfl, ?_⟩
  by_cases h2 : L.getD f 0 = 2
  · rw [if_pos h2, if_pos ⟨hy, h2⟩]
  · rw [if_neg h2, if_neg (fun q => h2 q.2)]

set_option maxHeartbeats 2000000 in
theorem l3With_any (W T : Int) (a : Option Addr) (n cap : Nat) (xs : List Bool) (la : Option Addr) (lcap : Nat) (M : List Int) (w : World) (hn : n = xs.length) (hm : n = M.length) (hp : 0 < n) (hn' : n ≤ 36) (ha : BoolsAt w a xs) (hl : IntsAt w la M) :
    Calls Try.prog 51 #[.agg #[.int .i64 W, .int .i64 T, .slice a n cap], .slice la n lcap] w fun e w' => e = .returned (.int .i64 (tilT W T (lessB xs (covN M n)))) ∧ Below w.heap.size w w' := by
  have HN := Lib.hid hn; clear hn
  have HM := Lib.hid hm; clear hm
  have HA := Lib.hid ha; clear ha
  have HL := Lib.hid hl; clear hl
  obtain ⟨wA, hwA⟩ : ∃ wA, wA = (w.alloc (.cells #[.int .i64 W, .int .i64 T, .slice a n cap] 25)).alloc (.cells #[] 3 (0, 0)) := ⟨_, rfl⟩
  have pA : wA.heap[w.heap.size]? = some (.cells #[.int .i64 W, .int .i64 T, .slice a n cap] 25 (0, 0)) := by rw [hwA]; exact heap_later (heap_new w _) (below1 _ _)
  have bA : Below w.heap.size w wA := by rw [hwA]; exact below2 _ _ _
  have oA : OwnsI wA (w.heap.size + 1) (.slice (some ⟨w.heap.size + 1, 0, none⟩) 0 0) [] := by
    rw [hwA]; have := own_nil_lit (w.alloc (.cells #[.int .i64 W, .int .i64 T, .slice a n cap] 25)) (B := w.heap.size + 1) (by simp); simpa using this
  obtain ⟨i0, hi, hz0, hz1, hz2⟩ := info_parts infoInt
  go_enter Try.func51, Try.ntmps51
  go_wp2_with fail
  rw [← hwA]
  clear hwA
  go_loopw [5, 6] (fun v i wr => ∃ k : Nat, k ≤ n ∧ i = .int .i64 k ∧ OwnsI wr (w.heap.size + 1) v (castL (covN M k)) ∧ wr.heap[w.heap.size]? = some (.cells #[.int .i64 W, .int .i64 T, .slice a n cap] 25 (0, 0)) ∧ Below w.heap.size w wr) (fun _ i _ => n - (intOf i).toNat)
  case atStart => exact ⟨0, Nat.zero_le _, rfl, oA, pA, bA⟩
  case round =>
    rename World => wo
    clear oA pA bA
    obtain ⟨k, hk, rfl, ho, pr, hbel⟩ := hrel
    have HO := Lib.hid ho; clear ho
    have BEL := Lib.hid hbel; clear hbel
    have l1 := heap_lt pr
    have cl := covN_le M k
    by_cases hlt : k < n
    · obtain ⟨lb, lo, rfl, hy⟩ := (HL.out.below BEL.out) k (by rw [← HM.out]; exact hlt)
      have hly := World.block_lt_of_cell? wo _ hy
      simp only at hly
      obtain ⟨v, hv⟩ : ∃ v, v = M.getD k 0 := ⟨_, rfl⟩
      rw [← hv] at hy
      have e1 : (k : Int) < n := by omega
      have hnx : covN M (k + 1) = covN M k ++ (if v = 0 then [] else [k]) := by rw [hv]; rfl
      clear hv
      by_cases hv0 : v = 0
      · rw [if_pos hv0, List.append_nil] at hnx
        have HNX := Lib.hid hnx; clear hnx
        subst hv0
        go_wp2_with fail
        exact ⟨⟨k + 1, by omega, by go_num, by rw [HNX.out]; exact HO.out, pr, BEL.out⟩, by simp [intOf]; omega⟩
      · rw [if_neg hv0] at hnx
        have HNX : Hid (castL (covN M (k + 1)) = castL (covN M k) ++ [(k : Int)]) := by show _ = _; rw [hnx, castL_snoc]
        clear hnx
        have zv : (v != 0) = true := by simpa using hv0
        go_wp2_with (at_builtin; refine wpList_append_own _ rfl _ _ 34 rfl (w.heap.size + 1) 3 i0 (.int .i64 0) 1 8 Try.underlying34 hi hz0 hz1 hz2 rfl (by decide) _ (castL (covN M k)).length ((castL (covN M k)).map (Value.int .i64)) rfl (World.ownsRow.alloc HO.out _) ⟨wo.heap.size, 0, none⟩ 1 1 [.int .i64 k] rfl rfl (new_int _ _) (one_int _) (by unfold maxLen; rw [castL_len]; omega) (by rw [castL_len]; omega) (by simp; omega) ?_; intro v' w8 hown' hgrow _; have p8 := heap_grown (heap_later pr (below1 _ _)) hgrow (HO.out.ownBlock (by omega)); have O8 := Lib.hid (OwnsI.ofRow (xs := castL (covN M (k + 1))) hown' (by rw [HNX.out]; simp) (by rw [HNX.out]; simp)); have B8 := Lib.hid (below_grown (below_seq BEL.out (below1 _ _)) hgrow (Nat.le_refl _) (HO.out.ownAt (by omega))); clear hown' hgrow)
        exact ⟨⟨k + 1, by omega, by go_num, O8.out, p8, B8.out⟩, by simp [intOf]; omega⟩
    · obtain rfl : k = n := by omega
      obtain ⟨a9, cap9, hv⟩ := HO.out.form2
      rw [castL_len] at hv
      subst hv
      obtain ⟨c0, c1, c2⟩ := cells3 pr
      have hcb : ∀ q, q < (covN M k).length → (covN M k).getD q 0 < k := by
        intro q hq
        rw [List.getD_eq_getElem?_getD, List.getElem?_eq_getElem hq, Option.getD_some]
        exact ((covN_mem k).1 (List.getElem_mem hq)).1
      go_wp2_with fail
      refine (l3Less_any W T _ k cap xs _ _ _ (covN M k) _ HN.out (by omega) hp rfl (by omega) hcb (HA.out.below BEL.out) (OwnsI.at HO.out)).mono ?_; rintro e w3 ⟨g, cg, rfl, ho3, hb3⟩
      have b3 := below_seq BEL.out hb3
      have O3 := Lib.hid ho3; clear ho3
      go_wp2_with fail
      refine (sTilingsMany_any W T _ k cg (lessB xs (covN M k)) _ (by rw [lessB_len]; exact HN.out) (by omega) (OwnsB.at O3.out)).mono ?_; rintro e w4 ⟨rfl, hb4⟩
      go_wp2
      go_ret
      exact ⟨rfl, below_seq b3 hb4⟩

end Go.Proofs.Ytdmnfafmbdmjmaa

namespace Go.Proofs.Ytdmnfafmbdmjmaa
open Go.RowKit
set_option linter.unusedVariables false
set_option maxRecDepth 100000
set_option linter.unusedSimpArgs false

set_option maxHeartbeats 4000000 in
theorem iRankOf_any (W T : Int) (a : Option Addr) (n cap : Nat) (xs : List Bool) (la : Option Addr) (m lcap : Nat) (L : List Int) (w : World) (hn : n = xs.length) (hn' : n ≤ 1048576) (hm : m = L.length) (hm' : m ≤ 1048576) (ha : BoolsAt w a xs) (hl : IntsAt w la L) :
    Calls Try.prog 22 #[.agg #[.int .i64 W, .int .i64 T, .slice a n cap], .slice la m lcap] w fun e w' => e = .returned (.int .i64 (rankF W T xs L)) ∧ Below w.heap.size w w' := by
  have HN := Lib.hid hn; clear hn
  have HM := Lib.hid hm; clear hm
  have HA := Lib.hid ha; clear ha
  have HL := Lib.hid hl; clear hl
  cases ht : tok W T xs L
  · have e : rankF W T xs L = -1 := by unfold rankF; rw [ht]; rfl
    rw [e]
    go_enter Try.func22, Try.ntmps22
    go_wp2_with fail
    refine (iTilingOk_any _ _ _ _ _ xs _ _ _ L _ HN.out hn' HM.out hm' (HA.out.one _) (HL.out.one _)).mono ?_; rintro e w1 ⟨rfl, hb1⟩
    rw [ht]
    go_wp2
    go_ret
    exact ⟨rfl, below_seq (below1 _ _) hb1⟩
  · have e : rankF W T xs L = (rankN W T xs L xs.length : Int) := by unfold rankF; rw [ht]; rfl
    rw [e]
    have hlk : lok W T xs L = true := by unfold tok at ht; rw [Bool.and_eq_true] at ht; exact ht.1
    obtain ⟨hr, hlen, _⟩ := lok_rv hlk
    obtain ⟨hW0, hW1, hT0, hT1, v5, _⟩ := rv_true hr
    have hmn : m = n := by rw [HM.out, HN.out]; exact hlen
    subst hmn
    have hWT : (m : Int) = W * T := by rw [HN.out]; exact v5
    have n36 : m ≤ 36 := by
      have h1 : W * T ≤ 6 * 6 := Int.mul_le_mul hW1 hT1 (by omega) (by omega)
      omega
    have hp : 0 < m := by
      have h1 : 1 * 1 ≤ W * T := Int.mul_le_mul hW0 hT0 (by omega) (by omega)
      omega
    have HWT := Lib.hid hWT; clear hWT v5 e hlen hlk hr
    have HT := Lib.hid ht; clear ht
    go_enter Try.func22, Try.ntmps22
    go_wp2_with fail
    refine (iTilingOk_any _ _ _ _ _ xs _ _ _ L _ HN.out hn' HM.out hm' (HA.out.one _) (HL.out.one _)).mono ?_; rintro e w1 ⟨rfl, hb1⟩
    rw [HT.out]
    have p1 := heap_later (heap_new w _) hb1
    have b1 := below_seq (below1 _ _) hb1
    obtain ⟨c0, c1, c2⟩ := cells3 p1
    go_wp2_with fail
    refine (copyField_any _ _ _ _ _ xs _ HN.out (by omega) (by omega) (by omega) (by omega) HWT.out hp (HA.out.below b1)).mono ?_; rintro e w2 ⟨g, rfl, ho2, hb2⟩
    have b2 := below_seq b1 hb2
    have hgl := World.ownsRow.lt ho2 g rfl
    have zl : w.heap.size + 1 ≤ w1.heap.size := heap_lt p1
    have O2 := Lib.hid ((ho2.lower (show w.heap.size + 1 ≤ _ by omega)).alloc (.cells #[.int .i64 W, .int .i64 T, .slice (some ⟨g, 0, none⟩) m m] 25))
    have pB := heap_new w2 (.cells #[.int .i64 W, .int .i64 T, .slice (some ⟨g, 0, none⟩) m m] 25)
    obtain ⟨wB, hwB⟩ : ∃ wB, wB = w2.alloc (.cells #[.int .i64 W, .int .i64 T, .slice (some ⟨g, 0, none⟩) m m] 25) := ⟨_, rfl⟩
    have bB : Below w.heap.size w wB := by rw [hwB]; exact below_seq b2 (below1 _ _)
    rw [← hwB] at pB O2
    have hg2 : g ≠ w2.heap.size := by omega
    have hg1 : w.heap.size < g := by omega
    clear c0 c1 c2 p1 b1 hb1 hb2 ho2 b2
    go_wp2_with fail
    rw [← hwB]
    clear hwB
    go_loopw [5, 17] (fun r i wr => ∃ k : Nat, k ≤ m ∧ i = .int .i64 k ∧ r = .int .i64 (rankN W T xs L k) ∧ OwnsB wr (w.heap.size + 1) (.slice (some ⟨g, 0, none⟩) m m) (restN W T xs L k) ∧ wr.heap[w2.heap.size]? = some (.cells #[.int .i64 W, .int .i64 T, .slice (some ⟨g, 0, none⟩) m m] 25 (0, 0)) ∧ Below w.heap.size w wr) (fun _ i _ => m - (intOf i).toNat)
    case atStart => exact ⟨0, Nat.zero_le _, rfl, rfl, O2.out, pB, bB⟩
    case round =>
      rename World => wo
      clear O2 pB bB
      obtain ⟨k, hk, rfl, rfl, ho, pr, hbel⟩ := hrel
      have HO := Lib.hid ho; clear ho
      have BEL := Lib.hid hbel; clear hbel
      by_cases hlt : k < m
      · obtain ⟨c0, c1, c2⟩ := cells3 pr
        have l1 := heap_lt pr
        have e1 : (k : Int) < m := by omega
        obtain ⟨lb, lo, rfl, hy⟩ := (HL.out.below BEL.out) k (by rw [← HM.out]; exact hlt)
        have hly := World.block_lt_of_cell? wo _ hy
        simp only at hly
        obtain ⟨v, hv⟩ : ∃ v, v = L.getD k 0 := ⟨_, rfl⟩
        rw [← hv] at hy
        obtain ⟨ys, hys⟩ : ∃ ys, ys = restN W T xs L k := ⟨_, rfl⟩
        have hyl : m = ys.length := by rw [hys, restN_len]; exact HN.out
        have hrk := rankN_le W T xs L (by rw [← HN.out]; exact n36) k (by omega)
        have hwl := withN_le' (W := W) (T := T) (xs := ys) (by rw [← hyl]; exact n36) k 1
        rw [← hys] at HO
        have hcell : wo.cell? ⟨g, k, none⟩ = some (.bool (ys.getD k false)) := by
          have h := (RowB.of HO.out hyl).cell hlt
          exact h
        obtain ⟨yk, hyk⟩ : ∃ yk, yk = ys.getD k false := ⟨_, rfl⟩
        rw [← hyk] at hcell
        have HYL := Lib.hid hyl; clear hyl
        obtain ⟨R, hR⟩ : ∃ R, R = rankN W T xs L k := ⟨_, rfl⟩
        rw [← hR] at hrk ⊢
        cases yk
        · have es : restN W T xs L (k + 1) = ys ∧ rankN W T xs L (k + 1) = R := by
            have e1 : restN W T xs L (k + 1) = if (restN W T xs L k).getD k false = true then takeB W T (restN W T xs L k) k (L.getD k 0) else restN W T xs L k := rfl
            have e2 : rankN W T xs L (k + 1) = rankN W T xs L k + (if (restN W T xs L k).getD k false = true ∧ L.getD k 0 = 2 then withN W T (restN W T xs L k) k 1 else 0) := rfl
            rw [e1, e2, ← hys, ← hyk, ← hR]
            exact ⟨by simp, by simp⟩
          have ES := Lib.hid es; clear es hv hyk hys hR
          go_wp2_with fail
          exact ⟨⟨k + 1, by omega, by go_num, by rw [ES.out.2], by rw [ES.out.1]; exact HO.out, pr, BEL.out⟩, by simp [intOf]; omega⟩
        · obtain ⟨es1, es2⟩ := rest_step hys hyk.symm
          rw [← hR, ← hv] at es2
          rw [← hv] at es1
          have ES1 := Lib.hid es1; clear es1 hyk hys hR
          by_cases hv2 : v = 2
          · subst hv2
            rw [if_pos rfl] at es2
            have ES2 := Lib.hid es2; clear es2 hv
            obtain ⟨Q, hQ⟩ : ∃ Q, Q = withN W T ys k 1 := ⟨_, rfl⟩
            rw [← hQ] at hwl ES2
            go_wp2_with fail
            refine (countWith_any _ _ _ _ _ ys _ _ _ HYL.out hW0 hW1 hT0 hT1 HWT.out (OwnsB.at HO.out)).mono ?_; rintro e w4 ⟨rfl, hb4⟩
            rw [← hQ]
            have p4 := heap_later pr hb4
            have B4 := Lib.hid (below_seq BEL.out hb4)
            have O4 := Lib.hid (HO.out.below hb4)
            clear c0 c1 c2 pr hQ hcell hb4
            obtain ⟨c0, c1, c2⟩ := cells3 p4
            have l4 := heap_lt p4
            go_wp2_with fail
            refine (takeOut_any _ _ _ _ _ _ ys _ _ _ HYL.out hW0 hW1 hT0 hT1 HWT.out O4.out).mono ?_; rintro e w5 ⟨rfl, ho5, g5⟩
            have p5 := heap_grown p4 g5 (by intro h; exact hg2 (Option.some.inj h))
            have B5 : Below w.heap.size w w5 := below_grown B4.out g5 (Nat.le_refl _) (by intro j hj; have := Option.some.inj hj; omega)
            go_wp2_with fail
            exact ⟨⟨k + 1, by omega, by go_num, by rw [ES2.out]; go_num, by rw [← ES1.out]; exact ho5, p5, B5⟩, by simp [intOf]; omega⟩
          · rw [if_neg hv2, Nat.add_zero] at es2
            have ES2 := Lib.hid es2; clear es2 hv
            have zv : (v == 2) = false := by simpa using hv2
            go_wp2_with fail
            refine (takeOut_any _ _ _ _ _ _ ys _ _ _ HYL.out hW0 hW1 hT0 hT1 HWT.out HO.out).mono ?_; rintro e w5 ⟨rfl, ho5, g5⟩
            have p5 := heap_grown pr g5 (by intro h; exact hg2 (Option.some.inj h))
            have B5 : Below w.heap.size w w5 := below_grown BEL.out g5 (Nat.le_refl _) (by intro j hj; have := Option.some.inj hj; omega)
            go_wp2_with fail
            exact ⟨⟨k + 1, by omega, by go_num, by rw [ES2.out]; rfl, by rw [← ES1.out]; exact ho5, p5, B5⟩, by simp [intOf]; omega⟩
      · obtain rfl : k = m := by omega
        go_wp2
        go_ret
        exact ⟨ret_int (by rw [← HN.out]), BEL.out⟩

end Go.Proofs.Ytdmnfafmbdmjmaa

namespace Go.Proofs.Ytdmnfafmbdmjmaa
open Go.RowKit
set_option linter.unusedVariables false
set_option maxRecDepth 100000
set_option linter.unusedSimpArgs false

/-- How many rounds may still come: none behind the last cell. -/
def mzI (n : Nat) (v : Value) : Nat := if intOf v < 0 then 0 else n + 1 - (intOf v).toNat

theorem mzI_nat (n f : Nat) : mzI n (.int .i64 (f : Int)) = n + 1 - f := by
  unfold mzI
  have h : ¬ ((f : Int) < 0) := by omega
  simp [intOf, h]

set_option maxHeartbeats 4000000 in
theorem sRankOf_any (W T : Int) (a : Option Addr) (n cap : Nat) (xs : List Bool) (la : Option Addr) (m lcap : Nat) (L : List Int) (w : World) (hn : n = xs.length) (hn' : n ≤ 1048576) (hm : m = L.length) (hm' : m ≤ 1048576) (ha : BoolsAt w a xs) (hl : IntsAt w la L) :
    Calls Try.prog 23 #[.agg #[.int .i64 W, .int .i64 T, .slice a n cap], .slice la m lcap] w fun e w' => e = .returned (.int .i64 (rankF W T xs L)) ∧ Below w.heap.size w w' := by
  have HN := Lib.hid hn; clear hn
  have HM := Lib.hid hm; clear hm
  have HA := Lib.hid ha; clear ha
  have HL := Lib.hid hl; clear hl
  cases ht : tok W T xs L
  · have e : rankF W T xs L = -1 := by unfold rankF; rw [ht]; rfl
    rw [e]
    go_enter Try.func23, Try.ntmps23
    go_wp2_with fail
    refine (sTilingOk_any _ _ _ _ _ xs _ _ _ L _ HN.out hn' HM.out hm' (HA.out.one _) (HL.out.one _)).mono ?_; rintro e w1 ⟨rfl, hb1⟩
    rw [ht]
    go_wp2
    go_ret
    exact ⟨rfl, below_seq (below1 _ _) hb1⟩
  · have e : rankF W T xs L = (rankN W T xs L xs.length : Int) := by unfold rankF; rw [ht]; rfl
    rw [e]
    have hlk : lok W T xs L = true := by unfold tok at ht; rw [Bool.and_eq_true] at ht; exact ht.1
    obtain ⟨hr, hlen, _⟩ := lok_rv hlk
    obtain ⟨hW0, hW1, hT0, hT1, v5, _⟩ := rv_true hr
    have hmn : m = n := by rw [HM.out, HN.out]; exact hlen
    subst hmn
    have hWT : (m : Int) = W * T := by rw [HN.out]; exact v5
    have n36 : m ≤ 36 := by
      have h1 : W * T ≤ 6 * 6 := Int.mul_le_mul hW1 hT1 (by omega) (by omega)
      omega
    have hp : 0 < m := by
      have h1 : 1 * 1 ≤ W * T := Int.mul_le_mul hW0 hT0 (by omega) (by omega)
      omega
    have hbr : bareL W T xs = List.replicate m 0 := by unfold bareL; rw [if_pos hr, HN.out]
    have hbl : m = (List.replicate m (0 : Int)).length := by simp
    have HBL := Lib.hid hbl; clear hbl
    have HWT := Lib.hid hWT; clear hWT v5 e hlen hlk hr
    have HST : Hid (RInv W T xs L 0 (List.replicate m 0) xs) := by have h := RInv.start ht; show RInv _ _ _ _ _ _ _; rw [HN.out]; exact h
    have HT := Lib.hid ht; clear ht
    go_enter Try.func23, Try.ntmps23
    go_wp2_with fail
    refine (sTilingOk_any _ _ _ _ _ xs _ _ _ L _ HN.out hn' HM.out hm' (HA.out.one _) (HL.out.one _)).mono ?_; rintro e w1 ⟨rfl, hb1⟩
    rw [HT.out]
    have p1 := heap_later (heap_new w _) hb1
    have b1 := below_seq (below1 _ _) hb1
    have zl : w.heap.size + 1 ≤ w1.heap.size := heap_lt p1
    obtain ⟨c0, c1, c2⟩ := cells3 p1
    go_wp2_with fail
    refine (sLaidBare_ret _ _ _ _ _ xs _ HN.out hn' (HA.out.below b1)).mono ?_; rintro e w2 ⟨a2, cap2, rfl, ho2, hb2⟩
    rw [hbr] at ho2 ⊢
    rw [← HBL.out]
    rw [← HBL.out] at ho2
    have p2 := heap_later p1 hb2
    have b2 := below_seq b1 hb2
    have O2 := Lib.hid (ho2.lower (show w.heap.size + 1 ≤ _ by omega))
    clear c0 c1 c2 p1 b1 hb1 hb2 ho2 hbr
    obtain ⟨c0, c1, c2⟩ := cells3 p2
    go_wp2_with fail
    refine (l2First_any _ _ _ _ _ xs _ _ (List.replicate m 0) _ HN.out HBL.out hn' (HA.out.below b2) (OwnsI.at O2.out)).mono ?_; rintro e w3 ⟨rfl, hb3⟩
    have p3 := heap_later p2 hb3
    have b3 := below_seq b2 hb3
    have O3 := Lib.hid (O2.out.below hb3)
    clear c0 c1 c2 p2 b2 hb3 O2
    go_wp2_with fail
    go_loopw [5, 6, 7] (fun r v cl wr => ∃ (c : Nat) (M : List Int) (ys : List Bool), c ≤ m ∧ RInv W T xs L c M ys ∧ ys = restN W T xs L c ∧ r = .int .i64 (rankN W T xs L c) ∧ cl = .int .i64 (firstI xs M 0 m) ∧ OwnsI wr (w.heap.size + 1) v M ∧ wr.heap[w.heap.size]? = some (.cells #[.int .i64 W, .int .i64 T, .slice a m cap] 25 (0, 0)) ∧ Below w.heap.size w wr) (fun _ _ cl _ => mzI m cl)
    case atStart => exact ⟨0, List.replicate m 0, xs, Nat.zero_le _, HST.out, rfl, rfl, rfl, O3.out, p3, b3⟩
    case round =>
      rename World => wo
      clear p3 b3 O3
      obtain ⟨c, M, ys, hcm, hinv, hys, rfl, rfl, ho, pr, hbel⟩ := hrel
      have HO := Lib.hid ho; clear ho
      have BEL := Lib.hid hbel; clear hbel
      obtain ⟨c0, c1, c2⟩ := cells3 pr
      have l1 := heap_lt pr
      have hml : m = M.length := by rw [hinv.lm]; exact HN.out
      obtain ⟨a6, cap6, hv6⟩ := HO.out.form2
      rw [← hml] at hv6
      subst hv6
      rcases first_cases xs M 0 m with ⟨hf, hno⟩ | ⟨f, _, hfm, hf, hfree, hno⟩
      · -- no cell is free any more
        have hz : ∀ j, c ≤ j → j < c + (m - c) → ys.getD j false = false := by
          intro j h1 h2
          rw [← hinv.free j (by rw [← HN.out]; omega)]
          exact hno j (Nat.zero_le _) (by omega)
        obtain ⟨_, e2⟩ := hinv.rest (m - c) hys hz
        rw [show c + (m - c) = m by omega] at e2
        rw [← e2, hf]
        clear e2 hz hno hf
        go_wp2
        go_ret
        exact ⟨ret_int (by rw [← HN.out]), BEL.out⟩
      · have hyf : ys.getD f false = true := by rw [← hinv.free f (by rw [← HN.out]; exact hfm)]; exact hfree
        have hcf : c ≤ f := by
          rcases Nat.lt_or_ge f c with h | h
          · rw [hinv.done f h] at hyf; cases hyf
          · exact h
        have hz : ∀ j, c ≤ j → j < c + (f - c) → ys.getD j false = false := by
          intro j h1 h2
          rw [← hinv.free j (by rw [← HN.out]; omega)]
          exact hno j (Nat.zero_le _) (by omega)
        have hinv2 := hinv.skips (f - c) hz
        obtain ⟨er, ek⟩ := hinv.rest (f - c) hys hz
        rw [show c + (f - c) = f by omega] at er ek hinv2
        obtain ⟨hlay, hinv3⟩ := hinv2.step HT.out (by rw [← HN.out]; exact hfm) hyf
        obtain ⟨es1, es2⟩ := rest_step er.symm hyf
        rw [← ek, hf]
        clear hz hno hf hfree hinv hys hcm
        have hcanE := hinv2.can (c := f) (by rw [← HN.out]; exact hfm) 1
        have hEast := hinv2.east (by rw [← HN.out]; exact hfm) 1 (by omega)
        rw [← HN.out] at hEast
        obtain ⟨v, hv⟩ : ∃ v, v = L.getD f 0 := ⟨_, rfl⟩
        obtain ⟨lb, lo, rfl, hy⟩ := (HL.out.below BEL.out) f (by rw [← HM.out]; exact hfm)
        rw [← hv] at hy hlay hinv3 es1 es2
        have hly := World.block_lt_of_cell? wo _ hy
        simp only at hly
        have hlyw : lb < w.heap.size := by
          obtain ⟨lb', lo', hbb, hc'⟩ := HL.out f (by rw [← HM.out]; exact hfm)
          cases hbb
          exact World.block_lt_of_cell? w _ hc'
        have hyw : w.cell? ⟨lb, lo + f, none⟩ = some (.int .i64 v) := by
          have := BEL.out.cell (p := ⟨lb, lo + f, none⟩) hlyw
          rw [← this]; exact hy
        have e1 : (f : Int) < m := by omega
        have hlokM := hinv2.ok
        have hfl : ∀ way : Int, layF W T xs M f way = (laidL W T xs M f way, canLay W T xs M f way) := fun way => by unfold layF; rw [hlokM]; rfl
        have HFL := Lib.hid hfl; clear hfl hlokM
        have hwl := withN_le' (W := W) (T := T) (xs := ys) (by rw [hinv2.ly, ← HN.out]; exact n36) f 1
        have hrk := rankN_le W T xs L (by rw [← HN.out]; exact n36) f (by omega)
        have HIN3 := Lib.hid hinv3; clear hinv3
        have HES1 := Lib.hid es1; clear es1
        obtain ⟨R, hR⟩ : ∃ R, R = rankN W T xs L f := ⟨_, rfl⟩
        rw [← hR] at es2 hrk ⊢
        have HML := Lib.hid hml; clear hml
        have HLAY := Lib.hid hlay; clear hlay
        clear hR ek er hinv2 hyf hv
        go_upto_if 30 with fail
        go_cut [5] (fun v5 wx => v5 = .int .i64 (rankN W T xs L (f + 1)) ∧ Below wo.heap.size wo wx)
        case first =>
          by_cases hv2 : v = 2
          · subst hv2
            rw [if_pos rfl] at es2
            obtain ⟨Q, hQ⟩ : ∃ Q, Q = withN W T ys f 1 := ⟨_, rfl⟩
            rw [← hQ] at es2 hwl hEast
            have ES2 := Lib.hid es2; clear es2
            cases hcl : canLay W T xs M f 1
            · have hQ0 : Q = 0 := by rw [hQ]; unfold withN; rw [← hcanE, hcl]; rfl
              clear hEast hcanE hQ
              go_wp2_with fail
              refine (sLayOne_ret _ _ _ _ _ xs _ _ _ M _ _ _ HN.out hn' HML.out hn' (HA.out.below BEL.out) (OwnsI.at HO.out)).mono ?_; rintro e w4 ⟨a4, cap4, rfl, ho4, hb4⟩
              rw [HFL.out, hcl]
              go_wp2_with fail
              go_meet
              exact ⟨by rw [ES2.out, hQ0]; rfl, hb4⟩
            · have hE := hEast hcl
              clear hEast hcanE hQ
              have HLL : Hid ((laidL W T xs M f 1).length = m) := by show _ = _; rw [laidL_len]; exact HML.out.symm
              go_wp2_with fail
              refine (sLayOne_ret _ _ _ _ _ xs _ _ _ M _ _ _ HN.out hn' HML.out hn' (HA.out.below BEL.out) (OwnsI.at HO.out)).mono ?_; rintro e w4 ⟨a4, cap4, rfl, ho4, hb4⟩
              rw [HFL.out, hcl]
              rw [HFL.out] at ho4
              simp only [HLL.out] at ho4 ⊢
              have p4 := heap_later pr hb4
              have B4 := below_seq BEL.out hb4
              have O4 := Lib.hid ho4; clear ho4
              clear c0 c1 c2
              obtain ⟨c0, c1, c2⟩ := cells3 p4
              go_wp2_with fail
              refine (l3With_any _ _ _ _ _ xs _ _ (laidL W T xs M f 1) _ HN.out HLL.out.symm hp n36 (HA.out.below B4) (OwnsI.at O4.out)).mono ?_; rintro e w5 ⟨rfl, hb5⟩
              rw [hE]
              have B5 := hb4.trans (hb5.mono hb4.size)
              clear hE
              go_wp2_with fail
              go_meet
              exact ⟨by rw [ES2.out]; go_num, B5⟩
          · rw [if_neg hv2] at es2
            have ES2 := Lib.hid es2; clear es2 hEast hcanE
            have zv : (v == 2) = false := by simpa using hv2
            go_wp2_with fail
            go_meet
            exact ⟨by rw [ES2.out]; rfl, Below.refl _ _⟩
        case rest =>
          obtain ⟨rfl, hbc⟩ := hcut
          clear es2 hEast hcanE hwl hrk c0 c1 c2 hy
          have pc := heap_later pr hbc
          have BC := Lib.hid (below_seq BEL.out hbc)
          have OC := Lib.hid (HO.out.below hbc)
          have hyc : wc.cell? ⟨lb, lo + f, none⟩ = _ := (BC.out.cell (p := ⟨lb, lo + f, none⟩) hlyw).trans hyw
          have lc := heap_lt pc
          have hlyc : lb < wc.heap.size := by omega
          have HLL : Hid ((laidL W T xs M f v).length = m) := by show _ = _; rw [laidL_len]; exact HML.out.symm
          clear pr hbc hyw hly HO BEL
          obtain ⟨c0, c1, c2⟩ := cells3 pc
          go_wp2_with fail
          have AD : BoolsAt wc.drew a xs := HA.out.below BC.out.drew
          have ID : IntsAt wc.drew a6 M := OwnsI.at OC.out
          go_region_with (go_at_call 50; refine (sLayOne_ret _ _ _ _ _ xs _ _ _ M _ _ _ HN.out hn' HML.out hn' AD ID).mono ?_; rintro e w4 ⟨a4, cap4, rfl, ho4, hb4⟩)
          all_goals
            simp only [HFL.out, HLL.out] at ho4 ⊢
            have bb : Below wc.heap.size wc w4 := below_seq (drew_below _) hb4
            have p4 := heap_later pc bb
            have B4 := Lib.hid (below_seq BC.out bb)
            have O4 := Lib.hid (OwnsI.lower ho4 (show w.heap.size + 1 ≤ wc.heap.size by omega))
            clear c0 c1 c2 hyc ho4 hb4 pc AD ID
            obtain ⟨c0, c1, c2⟩ := cells3 p4
            go_wp2_with fail
            refine (l2First_any _ _ _ _ _ xs _ _ (laidL W T xs M f v) _ HN.out HLL.out.symm hn' (HA.out.below B4.out) (OwnsI.at O4.out)).mono ?_; rintro e w5 ⟨rfl, hb5⟩
            have p5 := heap_later p4 hb5
            have B5 := below_seq B4.out hb5
            have O5 := O4.out.below hb5
            go_wp2_with fail
            refine ⟨⟨f + 1, laidL W T xs M f v, takeB W T ys f v, by omega, HIN3.out, HES1.out, rfl, rfl, O5, p5, B5⟩, ?_⟩
            have hm2 : mzI m (.int .i64 (f : Int)) = m + 1 - f := mzI_nat m f
            have hm3 : mzI m (.int .i64 (firstI xs (laidL W T xs M f v) 0 m)) < m + 1 - f := by
              rcases first_cases xs (laidL W T xs M f v) 0 m with ⟨hq, _⟩ | ⟨f2, _, hf2m, hq, hfr, _⟩
              · rw [hq]; unfold mzI; simp [intOf]; omega
              · rw [hq]
                have hge : f + 1 ≤ f2 := by
                  rcases Nat.lt_or_ge f2 (f + 1) with h | h
                  · have h1 := HIN3.out.free f2 (by rw [← HN.out]; exact hf2m)
                    rw [hfr, HIN3.out.done f2 h] at h1
                    cases h1
                  · exact h
                rw [mzI_nat]
                omega
            show mzI m (.int .i64 (firstI xs (laidL W T xs M f v) 0 m)) < mzI m (.int .i64 (f : Int))
            rw [hm2]
            exact hm3

end Go.Proofs.Ytdmnfafmbdmjmaa
