/- Plain facts: the tiling of a tiling's rank is the tiling; its rank is less than the count. -/
import Derived.Test.YtdmnfafmbdmjmaaDpY
import Derived.Test.YtdmnfafmbdmjmaaTil
import Derived.Test.YtdmnfafmbdmjmaaRank
namespace Go.Proofs.Ytdmnfafmbdmjmaa
open Go.RowKit
set_option linter.unusedVariables false
set_option maxRecDepth 100000
set_option linter.unusedSimpArgs false

/-- M has all dominoes of L. -/
def HasR (L M : List Int) : Prop := ∀ k, L.getD k 0 ≠ 0 → M.getD k 0 = L.getD k 0
theorem tok_lokR {W T : Int} {xs : List Bool} {L : List Int} (h : tok W T xs L = true) : lok W T xs L = true := by unfold tok at h; simp only [Bool.and_eq_true] at h; exact h.1
theorem tok_cellR {W T : Int} {xs : List Bool} {L : List Int} (h : tok W T xs L = true) {i : Nat} (hi : i < xs.length) (hx : xs.getD i false = true) : L.getD i 0 ≠ 0 := by
  have hl := tok_lokR h
  obtain ⟨_, hlen, _⟩ := lok_rv hl
  intro h0
  have hf : freeB xs L i = true := by unfold freeB; rw [hx, h0]; rfl
  unfold tok at h
  rw [hl, Bool.true_and, decide_eq_true_eq] at h
  rcases first_cases xs L 0 L.length with ⟨_, hno⟩ | ⟨k, _, _, hk, _⟩
  · have := hno i (Nat.zero_le _) (by omega)
    rw [hf] at this; cases this
  · rw [hk] at h; omega
theorem dp_noneR {W T : Int} {ys : List Bool} (h : ∀ i, i < ys.length → ys.getD i false = false) : dpT W T ys = 1 := by
  unfold dpT
  rw [skip_eq ys.length (Nat.le_refl _) h, Nat.sub_self]
  rfl
theorem rest_keep {W T : Int} {xs : List Bool} {L : List Int} {k : Nat} (h : (restN W T xs L k).getD k false = false) : restN W T xs L (k + 1) = restN W T xs L k ∧ rankN W T xs L (k + 1) = rankN W T xs L k := by
  have e1 : restN W T xs L (k + 1) = if (restN W T xs L k).getD k false = true then takeB W T (restN W T xs L k) k (L.getD k 0) else restN W T xs L k := rfl
  have e2 : rankN W T xs L (k + 1) = rankN W T xs L k + (if (restN W T xs L k).getD k false = true ∧ L.getD k 0 = 2 then withN W T (restN W T xs L k) k 1 else 0) := rfl
  rw [e1, e2, h]
  simp
theorem rest_go {W T : Int} {xs : List Bool} {L : List Int} {k : Nat} (h : (restN W T xs L k).getD k false = true) : restN W T xs L (k + 1) = takeB W T (restN W T xs L k) k (L.getD k 0) ∧ rankN W T xs L (k + 1) = rankN W T xs L k + (if L.getD k 0 = 2 then withN W T (restN W T xs L k) k 1 else 0) := by
  have e1 : restN W T xs L (k + 1) = if (restN W T xs L k).getD k false = true then takeB W T (restN W T xs L k) k (L.getD k 0) else restN W T xs L k := rfl
  have e2 : rankN W T xs L (k + 1) = rankN W T xs L k + (if (restN W T xs L k).getD k false = true ∧ L.getD k 0 = 2 then withN W T (restN W T xs L k) k 1 else 0) := rfl
  rw [e1, e2, h]
  simp
/-- What a step of the rank is made of. -/
theorem rinv_go {W T : Int} {xs : List Bool} {L M : List Int} {c : Nat} {ys : List Bool} (h : RInv W T xs L c M ys) (ht : tok W T xs L = true) (hc : c < xs.length) (hy : ys.getD c false = true) :
    (L.getD c 0 = 1 ∨ L.getD c 0 = 2) ∧ withN W T ys c (L.getD c 0) = dpT W T (takeB W T ys c (L.getD c 0)) ∧ dpT W T ys = withN W T ys c 1 + withN W T ys c 2 := by
  obtain ⟨hr, _, _⟩ := lok_rv h.ok
  obtain ⟨v1, v2, v3, v4, v5, _⟩ := rv_true hr
  have h36 : xs.length ≤ 36 := by
    have h1 : W * T ≤ 6 * 6 := Int.mul_le_mul v2 v4 (by omega) (by omega)
    omega
  have hfc : freeB xs M c = true := by rw [h.free c hc]; exact hy
  have hxc : xs.getD c false = true := (free_zero hfc).1
  obtain ⟨hnz, o, hs, ho, hbk, hback, hne⟩ := tok_pair ht hc hxc
  have hyo := h.pair c o hy hs
  have hco : c < o := by
    rcases Nat.lt_trichotomy o c with e | e | e
    · have := h.done o e; rw [hyo] at this; cases this
    · exact absurd e (by first | exact hne | exact fun e => hne e.symm)
    · exact e
  have hcan : canTake W T ys c (L.getD c 0) = true := by rw [← h.can hc]; exact (h.step ht hc hy).1
  refine ⟨step_later v1 hs hco, ?_, dp_split v1 v2 (by rw [h.ly]; exact v5) (by rw [h.ly]; exact h36) (by rw [h.ly]; exact hc) h.done hy⟩
  unfold withN takeB
  rw [if_pos hcan, if_pos hcan]
theorem rinv_has {W T : Int} {xs : List Bool} {L M : List Int} {c : Nat} {ys : List Bool} (h : RInv W T xs L c M ys) (ht : tok W T xs L = true) (hc : c < xs.length) (hy : ys.getD c false = true) (hh : HasR M L) : HasR (laidL W T xs M c (L.getD c 0)) L := by
  obtain ⟨hr, hlM, _⟩ := lok_rv h.ok
  obtain ⟨kn, o, e, hk, ho, hne, hs, hf, hfo, w1, w4, hb, el⟩ := canLay_at hr hlM (h.step ht hc hy).1
  have : kn = c := by omega
  subst this
  have hxc : xs.getD kn false = true := (free_zero hf).1
  obtain ⟨o2, hs2, _, _, _, _, hb2, _, _, _⟩ := lok_at (tok_lokR ht) hk (tok_cellR ht hk hxc)
  have : o2 = o := by rw [hs] at hs2; omega
  subst this
  rw [el]
  intro j hj
  rw [getD_set2 (by omega) (by omega)] at hj ⊢
  by_cases e1 : j = o2
  · rw [if_pos e1, e1, hb2]
  · rw [if_neg e1] at hj ⊢
    by_cases e2 : j = kn
    · rw [if_pos e2, e2]
    · rw [if_neg e2] at hj ⊢; exact hh j hj
theorem rinv_ex {W T : Int} {xs : List Bool} {L : List Int} (ht : tok W T xs L = true) : ∀ k, k ≤ xs.length → ∃ M, RInv W T xs L k M (restN W T xs L k)
  | 0, _ => ⟨_, RInv.start ht⟩
  | k + 1, hk => by
    obtain ⟨M, h⟩ := rinv_ex ht k (by omega)
    cases hy : (restN W T xs L k).getD k false
    · rw [(rest_keep hy).1]; exact ⟨M, h.skip hy⟩
    · rw [(rest_go hy).1]; exact ⟨_, (h.step ht (by omega) hy).2⟩
theorem rank_tail {W T : Int} {xs : List Bool} {L : List Int} (ht : tok W T xs L = true) : ∀ d k, k + d = xs.length → rankN W T xs L k ≤ rankN W T xs L xs.length ∧ rankN W T xs L xs.length - rankN W T xs L k < dpT W T (restN W T xs L k)
  | 0, k, hk => by
    have : k = xs.length := by omega
    subst this
    obtain ⟨M, h⟩ := rinv_ex ht xs.length (Nat.le_refl _)
    rw [dp_noneR (fun i hi => h.done i (by rw [← h.ly]; exact hi))]
    omega
  | d + 1, k, hk => by
    obtain ⟨i1, i2⟩ := rank_tail ht d (k + 1) (by omega)
    obtain ⟨M, h⟩ := rinv_ex ht k (by omega)
    cases hy : (restN W T xs L k).getD k false
    · rw [(rest_keep hy).1, (rest_keep hy).2] at i2
      rw [(rest_keep hy).2] at i1
      exact ⟨i1, i2⟩
    · obtain ⟨hw, hd, hs⟩ := rinv_go h ht (by omega) hy
      rw [(rest_go hy).1, (rest_go hy).2, ← hd] at i2
      rw [(rest_go hy).2] at i1
      rw [hs]
      rcases hw with e | e
      · rw [e] at i1 i2
        simp only [show ¬ ((1 : Int) = 2) by decide, if_false] at i1 i2
        omega
      · rw [e] at i1 i2
        simp only [if_true] at i1 i2
        omega
theorem rank_back {W T : Int} {xs : List Bool} {L : List Int} (ht : tok W T xs L = true) : ∀ k, k ≤ xs.length →
    (tlS W T xs (rankN W T xs L xs.length) k).ys = restN W T xs L k ∧ (tlS W T xs (rankN W T xs L xs.length) k).q = rankN W T xs L xs.length - rankN W T xs L k ∧
      RInv W T xs L k (tlS W T xs (rankN W T xs L xs.length) k).M (restN W T xs L k) ∧ HasR (tlS W T xs (rankN W T xs L xs.length) k).M L
  | 0, _ => ⟨rfl, rfl, RInv.start ht, fun j hj => by
      exfalso; apply hj
      show (List.replicate xs.length (0 : Int)).getD j 0 = 0
      by_cases e : j < xs.length
      · simp [List.getD, e]
      · simp [List.getD, e]⟩
  | k + 1, hk => by
    obtain ⟨e1, e2, h, hh⟩ := rank_back ht k (by omega)
    obtain ⟨i1, i2⟩ := rank_tail ht (xs.length - (k + 1)) (k + 1) (by omega)
    cases hy : (restN W T xs L k).getD k false
    · rw [tlS_skip (by rw [e1]; exact hy), (rest_keep hy).1, (rest_keep hy).2]
      exact ⟨e1, e2, h.skip hy, hh⟩
    · obtain ⟨hw, hd, hs⟩ := rinv_go h ht (by omega) hy
      have st := (h.step ht (by omega) hy).2
      have sh := rinv_has h ht (by omega) hy hh
      rw [(rest_go hy).1, (rest_go hy).2, ← hd] at i2
      rw [(rest_go hy).2] at i1
      rw [tlS_go (by rw [e1]; exact hy), (rest_go hy).1, (rest_go hy).2, e1, e2]
      rcases hw with e | e
      · rw [e] at i1 i2 st sh ⊢
        simp only [show ¬ ((1 : Int) = 2) by decide, if_false, Nat.add_zero] at i1 i2 ⊢
        rw [if_neg (by omega)]
        exact ⟨rfl, rfl, st, sh⟩
      · rw [e] at i1 i2 st sh ⊢
        simp only [if_true] at i1 i2 ⊢
        rw [if_pos (by omega)]
        exact ⟨rfl, by show _ - _ - _ = _; omega, st, sh⟩
/-- The tiling of a tiling's rank is the tiling. -/
theorem til_rank {W T : Int} {xs : List Bool} {L : List Int} (ht : tok W T xs L = true) : tilOf W T xs (rankF W T xs L) = (L, true) ∧ rankF W T xs L < dpT W T xs ∧ 0 ≤ rankF W T xs L := by
  have hl := tok_lokR ht
  obtain ⟨hr, hlL, _⟩ := lok_rv hl
  obtain ⟨_, i2⟩ := rank_tail ht xs.length 0 (by omega)
  have i3 : rankN W T xs L xs.length < dpT W T xs := by
    have e : rankN W T xs L 0 = 0 := rfl
    rw [e] at i2
    exact i2
  obtain ⟨e1, e2, h, hh⟩ := rank_back ht xs.length (Nat.le_refl _)
  have hF : rankF W T xs L = (rankN W T xs L xs.length : Int) := by unfold rankF; rw [if_pos ht]
  rw [hF]
  refine ⟨?_, by omega, by omega⟩
  unfold tilOf
  rw [if_pos ⟨hr, by omega, by omega⟩, Int.toNat_natCast]
  have hM : (tlS W T xs (rankN W T xs L xs.length) xs.length).M = L := by
    obtain ⟨M, hM⟩ : ∃ M, M = (tlS W T xs (rankN W T xs L xs.length) xs.length).M := ⟨_, rfl⟩
    rw [← hM] at h hh ⊢
    refine ext_getD (by rw [h.lm, hlL]) fun j hj => ?_
    rw [h.lm] at hj
    by_cases hz : M.getD j 0 = 0
    · have hx : xs.getD j false = false := by
        cases hx : xs.getD j false
        · rfl
        · have h1 : freeB xs M j = true := by unfold freeB; rw [hx, hz]; rfl
          rw [h.free j hj, h.done j hj] at h1; cases h1
      rw [hz]
      by_cases hm : L.getD j 0 = 0
      · exact hm.symm
      · obtain ⟨_, _, _, _, hx', _⟩ := lok_at hl hj hm
        rw [hx] at hx'; cases hx'
    · exact (hh j hz).symm
  rw [hM]
end Go.Proofs.Ytdmnfafmbdmjmaa
