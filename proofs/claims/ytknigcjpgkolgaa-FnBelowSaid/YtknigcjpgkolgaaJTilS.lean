/- Contract of spec.TilingOf. -/
import Derived.Test.YtknigcjpgkolgaaJDpY
namespace Go.Proofs.Ytknigcjpgkolgaa
open Go.RowKit
set_option linter.unusedVariables false
set_option maxRecDepth 100000
set_option linter.unusedSimpArgs false

structure R0 (W T : Int) (xs : List Bool) (c : Nat) (M : List Int) (ys : List Bool) : Prop where
  ly : ys.length = xs.length
  lm : M.length = xs.length
  ok : lok W T xs M = true
  free : ∀ j, j < xs.length → freeB xs M j = ys.getD j false
  done : ∀ j, j < c → ys.getD j false = false

theorem R0.start {W T : Int} {xs : List Bool} (hr : rv W T xs = true) : R0 W T xs 0 (List.replicate xs.length 0) xs := by
  have hz : ∀ k : Nat, (List.replicate xs.length (0 : Int)).getD k 0 = 0 := by
    intro k
    rw [List.getD_eq_getElem?_getD]
    rcases Nat.lt_or_ge k xs.length with h' | h'
    · rw [List.getElem?_replicate_of_lt h']; rfl
    · rw [List.getElem?_eq_none (by simpa using h')]; rfl
  refine ⟨rfl, by simp, ?_, ?_, fun j hj => absurd hj (Nat.not_lt_zero _)⟩
  · unfold lok goodN
    rw [hr]
    simp only [List.length_replicate, BEq.rfl, Bool.true_and, List.all_eq_true]
    intro k _
    unfold goodB
    rw [hz]
    rfl
  · intro j _
    unfold freeB
    rw [hz]
    simp

theorem R0.skip {W T : Int} {xs : List Bool} {M : List Int} {c : Nat} {ys : List Bool} (h : R0 W T xs c M ys) (hc : ys.getD c false = false) : R0 W T xs (c + 1) M ys :=
  ⟨h.ly, h.lm, h.ok, h.free, fun j hj => by
    by_cases e : j = c
    · rw [e]; exact hc
    · exact h.done j (by omega)⟩

theorem R0.can {W T : Int} {xs : List Bool} {M : List Int} {c c' : Nat} {ys : List Bool} (h : R0 W T xs c' M ys) (hc : c < xs.length) (way : Int) : canLay W T xs M c way = canTake W T ys c way := by
  obtain ⟨hr, _, _⟩ := lok_rv h.ok
  obtain ⟨v1, v2, v3, v4, v5, _⟩ := rv_true hr
  unfold canLay canTake
  rw [h.ly]
  by_cases h0 : 0 ≤ cellB W T xs.length c way
  · have hbd := cellB_bd (W := W) (T := T) (n := xs.length) (k := (c : Int)) (way := way) v1 v5 h0
    simp only [Int.toNat_natCast]
    rw [h.free c hc, h.free _ (by omega), Bool.and_assoc]
  · rw [decide_eq_false h0]; rfl

theorem R0.step {W T : Int} {xs : List Bool} {M : List Int} {c : Nat} {ys : List Bool} {way : Int} (h : R0 W T xs c M ys) (hc : c < xs.length) (hw : 1 ≤ way ∧ way ≤ 4) (hcan : canTake W T ys c way = true) :
    R0 W T xs (c + 1) (laidL W T xs M c way) (takeB W T ys c way) := by
  obtain ⟨hr, _, _⟩ := lok_rv h.ok
  obtain ⟨v1, v2, v3, v4, v5, _⟩ := rv_true hr
  have hlay : canLay W T xs M c way = true := by rw [h.can hc]; exact hcan
  have hcan' := hcan
  unfold canTake at hcan'
  rw [h.ly, Bool.and_eq_true, Bool.and_eq_true, decide_eq_true_eq] at hcan'
  obtain ⟨h0, hyc, hyo⟩ := hcan'
  have hbd := cellB_bd (W := W) (T := T) (n := xs.length) (k := (c : Int)) (way := way) v1 v5 h0
  obtain ⟨o, hcell⟩ : ∃ o : Nat, cellB W T xs.length c way = o := ⟨(cellB W T xs.length c way).toNat, by omega⟩
  rw [hcell] at hbd hyo
  rw [Int.toNat_natCast] at hyc hyo
  have hs : stepI W T c way = o := by have := hcell; unfold cellB at this; rw [if_pos (by omega)] at this; exact this
  have ho : o < xs.length := by omega
  have hne : o ≠ c := by omega
  have hfc : freeB xs M c = true := by rw [h.free c hc]; exact hyc
  have hfo : freeB xs M o = true := by rw [h.free o ho]; exact hyo
  have hback := rk_back (W := W) (T := T) (k := (c : Int)) (way := way) v1 v2 (by omega) (by omega) (by omega) (by rw [hs]; omega)
  rw [hs] at hback
  have e1 : takeB W T ys c way = lessB ys [c, o] := by unfold takeB; rw [hcan, h.ly, hcell]; simp
  have e2 : laidL W T xs M c way = (M.set c way).set o (backI way) := by unfold laidL; rw [hlay, hcell]; simp
  rw [e1, e2]
  have hgd : ∀ j : Nat, ((M.set c way).set o (backI way)).getD j 0 = if j = o then backI way else if j = c then way else M.getD j 0 := fun j => getD_set2 (by rw [h.lm]; exact hc) (by rw [h.lm]; exact ho)
  have hlg : ∀ j, j < xs.length → (lessB ys [c, o]).getD j false = (ys.getD j false && !(decide (j = c) || decide (j = o))) := by
    intro j hj
    rw [lessB_get _ (by rw [h.ly]; exact hj)]
    by_cases a1 : j = c
    · subst a1; simp
    · by_cases a2 : j = o
      · subst a2; simp
      · simp [a1, a2]
  refine ⟨by rw [lessB_len, h.ly], by simp [h.lm], lok_lay h.ok hc ho hne hfc hfo hw hs hback, ?_, ?_⟩
  · intro j hj
    rw [hlg j hj, ← h.free j hj]
    unfold freeB
    rw [hgd j]
    by_cases a2 : j = o
    · subst a2
      have := back_nz (way := way) (by omega)
      simp [-List.getD_eq_getElem?_getD, this]
    · by_cases a1 : j = c
      · subst a1
        have : way ≠ 0 := by omega
        simp [-List.getD_eq_getElem?_getD, a2, this]
      · simp [-List.getD_eq_getElem?_getD, a1, a2]
  · intro j hj
    by_cases a1 : j = c
    · subst a1; rw [hlg j hc]; simp
    · rw [hlg j (by omega), h.done j (by omega)]; rfl

theorem R0.count {W T : Int} {xs : List Bool} {M : List Int} {c : Nat} {ys : List Bool} (h : R0 W T xs c M ys) (hc : c < xs.length) (way : Int) (hw : 1 ≤ way ∧ way ≤ 4) (hlay : canLay W T xs M c way = true) :
    tilT W T (lessB xs (covN (laidL W T xs M c way) xs.length)) = (withN W T ys c way : Int) := by
  have hcan : canTake W T ys c way = true := by rw [← h.can hc]; exact hlay
  obtain ⟨hr, _, _⟩ := lok_rv h.ok
  obtain ⟨v1, v2, v3, v4, v5, _⟩ := rv_true hr
  have h0 : 0 ≤ cellB W T xs.length c way := by unfold canLay at hlay; simp only [Bool.and_eq_true, decide_eq_true_eq] at hlay; exact hlay.1.1
  have hbd := cellB_bd (W := W) (T := T) (n := xs.length) (k := (c : Int)) (way := way) v1 v5 h0
  obtain ⟨o, ho⟩ : ∃ o : Nat, cellB W T xs.length c way = o := ⟨(cellB W T xs.length c way).toNat, by omega⟩
  rw [ho] at hbd
  have e2 : laidL W T xs M c way = (M.set c way).set o (backI way) := by unfold laidL; rw [hlay, ho]; simp
  have e3 : withN W T ys c way = dpT W T (lessB ys [c, o]) := by unfold withN; rw [hcan, h.ly, ho]; simp
  have hgd : ∀ j : Nat, ((M.set c way).set o (backI way)).getD j 0 = if j = o then backI way else if j = c then way else M.getD j 0 := fun j => getD_set2 (by rw [h.lm]; exact hc) (by rw [h.lm]; omega)
  have hbn := back_nz (way := way) (by omega)
  have e4 : lessB xs (covN ((M.set c way).set o (backI way)) xs.length) = lessB ys [c, o] := by
    unfold lessB
    rw [h.ly]
    refine tab_congr (fun j hj => ?_)
    unfold lessF
    rw [← h.free j hj]
    unfold freeB
    have hm := covN_mem (M := (M.set c way).set o (backI way)) (j := j) xs.length
    rw [hgd j] at hm
    rw [Bool.eq_iff_iff]
    simp only [Bool.and_eq_true, Bool.not_eq_true', List.contains_eq_mem, decide_eq_false_iff_not, hm, List.mem_cons, List.not_mem_nil, or_false, beq_iff_eq]
    by_cases a2 : j = o
    · subst a2; simp [-List.getD_eq_getElem?_getD, hbn]; omega
    · by_cases a1 : j = c
      · subst a1; simp [-List.getD_eq_getElem?_getD, a2]; omega
      · simp [-List.getD_eq_getElem?_getD, a1, a2, hj]
  unfold tilT
  rw [if_pos (rv_less hr), e2, e4, e3]

/-- What is left, what is laid, and the rank among what is left, once the cells before the k-th one are done. -/
structure TS where
  ys : List Bool
  M : List Int
  q : Nat
def tlS (W T : Int) (xs : List Bool) (rank : Nat) : Nat → TS
  | 0 => ⟨xs, List.replicate xs.length 0, rank⟩
  | k + 1 =>
    if (tlS W T xs rank k).ys.getD k false = true then
      (if withN W T (tlS W T xs rank k).ys k 1 ≤ (tlS W T xs rank k).q then ⟨takeB W T (tlS W T xs rank k).ys k 2, laidL W T xs (tlS W T xs rank k).M k 2, (tlS W T xs rank k).q - withN W T (tlS W T xs rank k).ys k 1⟩
       else ⟨takeB W T (tlS W T xs rank k).ys k 1, laidL W T xs (tlS W T xs rank k).M k 1, (tlS W T xs rank k).q⟩)
    else tlS W T xs rank k
theorem tlS_skip {W T : Int} {xs : List Bool} {rank k : Nat} (h : (tlS W T xs rank k).ys.getD k false = false) : tlS W T xs rank (k + 1) = tlS W T xs rank k := by
  have e : tlS W T xs rank (k + 1) = if (tlS W T xs rank k).ys.getD k false = true then
      (if withN W T (tlS W T xs rank k).ys k 1 ≤ (tlS W T xs rank k).q then ⟨takeB W T (tlS W T xs rank k).ys k 2, laidL W T xs (tlS W T xs rank k).M k 2, (tlS W T xs rank k).q - withN W T (tlS W T xs rank k).ys k 1⟩
       else ⟨takeB W T (tlS W T xs rank k).ys k 1, laidL W T xs (tlS W T xs rank k).M k 1, (tlS W T xs rank k).q⟩)
    else tlS W T xs rank k := rfl
  rw [e, if_neg (by rw [h]; simp)]
theorem tlS_go {W T : Int} {xs : List Bool} {rank k : Nat} (h : (tlS W T xs rank k).ys.getD k false = true) : tlS W T xs rank (k + 1) =
      (if withN W T (tlS W T xs rank k).ys k 1 ≤ (tlS W T xs rank k).q then ⟨takeB W T (tlS W T xs rank k).ys k 2, laidL W T xs (tlS W T xs rank k).M k 2, (tlS W T xs rank k).q - withN W T (tlS W T xs rank k).ys k 1⟩
       else ⟨takeB W T (tlS W T xs rank k).ys k 1, laidL W T xs (tlS W T xs rank k).M k 1, (tlS W T xs rank k).q⟩) := by
  have e : tlS W T xs rank (k + 1) = if (tlS W T xs rank k).ys.getD k false = true then
      (if withN W T (tlS W T xs rank k).ys k 1 ≤ (tlS W T xs rank k).q then ⟨takeB W T (tlS W T xs rank k).ys k 2, laidL W T xs (tlS W T xs rank k).M k 2, (tlS W T xs rank k).q - withN W T (tlS W T xs rank k).ys k 1⟩
       else ⟨takeB W T (tlS W T xs rank k).ys k 1, laidL W T xs (tlS W T xs rank k).M k 1, (tlS W T xs rank k).q⟩)
    else tlS W T xs rank k := rfl
  rw [e, if_pos h]
theorem tlS_len {W T : Int} {xs : List Bool} {rank : Nat} : ∀ k, (tlS W T xs rank k).ys.length = xs.length ∧ (tlS W T xs rank k).M.length = xs.length
  | 0 => ⟨rfl, by show (List.replicate xs.length (0 : Int)).length = _; simp⟩
  | k + 1 => by
    obtain ⟨h1, h2⟩ := tlS_len (W := W) (T := T) (xs := xs) (rank := rank) k
    cases h : (tlS W T xs rank k).ys.getD k false
    · rw [tlS_skip h]; exact ⟨h1, h2⟩
    · rw [tlS_go h]
      split
      · exact ⟨by rw [takeB_len]; exact h1, by rw [laidL_len]; exact h2⟩
      · exact ⟨by rw [takeB_len]; exact h1, by rw [laidL_len]; exact h2⟩

theorem with_pos {W T : Int} {ys : List Bool} {k : Nat} {way : Int} {q : Nat} (h : q < withN W T ys k way) : canTake W T ys k way = true ∧ dpT W T (takeB W T ys k way) = withN W T ys k way := by
  have hc : canTake W T ys k way = true := by
    cases hc : canTake W T ys k way
    · unfold withN at h; rw [hc] at h; simp at h
    · rfl
  refine ⟨hc, ?_⟩
  unfold takeB withN
  rw [hc]
  rfl

theorem tlS_inv {W T : Int} {xs : List Bool} {rank : Nat} (hr : rv W T xs = true) (hq : rank < dpT W T xs) : ∀ k, k ≤ xs.length → R0 W T xs k (tlS W T xs rank k).M (tlS W T xs rank k).ys ∧ (tlS W T xs rank k).q < dpT W T (tlS W T xs rank k).ys
  | 0, _ => ⟨R0.start hr, hq⟩
  | k + 1, hk => by
    obtain ⟨h1, h2⟩ := tlS_inv hr hq k (by omega)
    obtain ⟨v1, v2, v3, v4, v5, _⟩ := rv_true hr
    have h36 : xs.length ≤ 36 := by
      have h1 : W * T ≤ 6 * 6 := Int.mul_le_mul v2 v4 (by omega) (by omega)
      omega
    cases h : (tlS W T xs rank k).ys.getD k false
    · rw [tlS_skip h]; exact ⟨h1.skip h, h2⟩
    · have hsp := dp_split (W := W) (T := T) (ys := (tlS W T xs rank k).ys) (c := k) v1 v2 (by rw [h1.ly]; exact v5) (by rw [h1.ly]; exact h36) (by rw [h1.ly]; omega) h1.done h
      rw [tlS_go h]
      by_cases hle : withN W T (tlS W T xs rank k).ys k 1 ≤ (tlS W T xs rank k).q
      · rw [if_pos hle]
        have hp := with_pos (W := W) (T := T) (ys := (tlS W T xs rank k).ys) (k := k) (way := 2) (q := (tlS W T xs rank k).q - withN W T (tlS W T xs rank k).ys k 1) (by omega)
        exact ⟨h1.step (by omega) (by omega) hp.1, by show (tlS W T xs rank k).q - withN W T (tlS W T xs rank k).ys k 1 < dpT W T (takeB W T (tlS W T xs rank k).ys k 2); rw [hp.2]; omega⟩
      · rw [if_neg hle]
        have hp := with_pos (W := W) (T := T) (ys := (tlS W T xs rank k).ys) (k := k) (way := 1) (q := (tlS W T xs rank k).q) (by omega)
        exact ⟨h1.step (by omega) (by omega) hp.1, by show (tlS W T xs rank k).q < dpT W T (takeB W T (tlS W T xs rank k).ys k 1); rw [hp.2]; omega⟩

theorem tlS_skips {W T : Int} {xs : List Bool} {rank c : Nat} : ∀ d, (∀ j, c ≤ j → j < c + d → (tlS W T xs rank c).ys.getD j false = false) → tlS W T xs rank (c + d) = tlS W T xs rank c
  | 0, _ => rfl
  | d + 1, h => by
    have ih := tlS_skips d (fun j h1 h2 => h j h1 (by omega))
    rw [← ih]
    exact tlS_skip (k := c + d) (by rw [ih]; exact h (c + d) (by omega) (by omega))

def tilOf (W T : Int) (xs : List Bool) (rank : Int) : List Int × Bool := if rv W T xs = true ∧ 0 ≤ rank ∧ rank < dpT W T xs then ((tlS W T xs rank.toNat xs.length).M, true) else ([], false)
theorem tilOf_len (W T : Int) (xs : List Bool) (rank : Int) : (tilOf W T xs rank).1.length ≤ xs.length := by
  unfold tilOf
  split
  · exact Nat.le_of_eq (tlS_len _).2
  · simp

end Go.Proofs.Ytknigcjpgkolgaa

namespace Go.Proofs.Ytknigcjpgkolgaa
open Go.RowKit
set_option linter.unusedVariables false
set_option maxRecDepth 100000
set_option linter.unusedSimpArgs false

end Go.Proofs.Ytknigcjpgkolgaa

namespace Go.Proofs.Ytknigcjpgkolgaa
open Go.RowKit
set_option linter.unusedVariables false
set_option maxRecDepth 100000
set_option linter.unusedSimpArgs false

/-- How many rounds may still come: none behind the last cell. -/
def mzJ (n : Nat) (v : Value) : Nat := if intOf v < 0 then 0 else n + 1 - (intOf v).toNat
theorem mzJ_nat (n f : Nat) : mzJ n (.int .i64 (f : Int)) = n + 1 - f := by
  unfold mzJ
  have h : ¬ ((f : Int) < 0) := by omega
  simp [intOf, h]
theorem mzJ_less {xs : List Bool} {M : List Int} {n f : Nat} (hf : f < n) (h : ∀ j, j < f + 1 → freeB xs M j = false) : mzJ n (.int .i64 (firstI xs M 0 n)) < n + 1 - f := by
  rcases first_cases xs M 0 n with ⟨hq, _⟩ | ⟨f2, _, hf2m, hq, hfr, _⟩
  · rw [hq]; unfold mzJ; simp [intOf]; omega
  · rw [hq]
    have hge : f + 1 ≤ f2 := by
      rcases Nat.lt_or_ge f2 (f + 1) with h' | h'
      · rw [h f2 h'] at hfr; cases hfr
      · exact h'
    rw [mzJ_nat]
    omega

set_option maxHeartbeats 4000000 in
theorem sTilingOf_ret (W T : Int) (a : Option Addr) (n cap : Nat) (xs : List Bool) (rank : Int) (w : World) (hn : n = xs.length) (hn' : n ≤ 1048576) (ha : BoolsAt w a xs) :
    Calls Try.prog 107 #[.agg #[.int .i64 W, .int .i64 T, .slice a n cap], .int .i64 rank] w (RetLT w (tilOf W T xs rank).1.length (tilOf W T xs rank).1 (tilOf W T xs rank).2) := by
  have HN := Lib.hid hn; clear hn
  have HA := Lib.hid ha; clear ha
  by_cases h : rv W T xs = true ∧ 0 ≤ rank ∧ rank < dpT W T xs
  · obtain ⟨hr, h0, h1⟩ := h
    obtain ⟨q, hq⟩ : ∃ q : Nat, rank = q := ⟨rank.toNat, by omega⟩
    subst hq
    have e : tilOf W T xs q = ((tlS W T xs q xs.length).M, true) := by unfold tilOf; rw [if_pos ⟨hr, h0, h1⟩, Int.toNat_natCast]
    rw [e]
    clear e
    have ht : tilT W T xs = (dpT W T xs : Int) := by unfold tilT; rw [if_pos hr]
    have hinv := tlS_inv (W := W) (T := T) (xs := xs) (rank := q) hr (by omega)
    obtain ⟨hW0, hW1, hT0, hT1, v5, _⟩ := rv_true hr
    have hWT : (n : Int) = W * T := by rw [HN.out]; exact v5
    have n36 : n ≤ 36 := by
      have h1 : W * T ≤ 6 * 6 := Int.mul_le_mul hW1 hT1 (by omega) (by omega)
      omega
    have hp : 0 < n := by
      have h1 : 1 * 1 ≤ W * T := Int.mul_le_mul hW0 hT0 (by omega) (by omega)
      omega
    have hdl := dpT_le (W := W) (T := T) (xs := xs) (by rw [← HN.out]; exact n36)
    obtain ⟨D, hD⟩ : ∃ D, D = dpT W T xs := ⟨_, rfl⟩
    rw [← hD] at ht hdl h1
    have hbr : bareL W T xs = List.replicate n 0 := by unfold bareL; rw [if_pos hr, HN.out]
    have HBL : Hid (n = (List.replicate n (0 : Int)).length) := by show n = _; simp
    have HWT := Lib.hid hWT; clear hWT v5
    have HT := Lib.hid ht; clear ht hD
    have hml := (tlS_len (W := W) (T := T) (xs := xs) (rank := q) xs.length).2
    have HML := Lib.hid hml; clear hml
    have HR := Lib.hid hr; clear hr
    have HINV := Lib.hid hinv; clear hinv
    have hin : inB (q : Int) 0 ((D : Int) - 1) = true := by unfold inB; exact decide_eq_true (by omega)
    have HIN := Lib.hid hin; clear hin
    simp only [HML.out]
    rw [← HN.out]
    go_enter Try.func107, Try.ntmps107
    go_wp2_with fail
    refine (sRegionValid_any _ _ _ _ _ xs _ HN.out hn' (HA.out.one _)).mono ?_; rintro e w0 ⟨rfl, hb0⟩
    rw [HR.out]
    have p0 := heap_later (heap_new w _) hb0
    have b0 := below_seq (below1 _ _) hb0
    obtain ⟨c0, c1, c2⟩ := cells3 p0
    go_wp2_with fail
    refine (sTilingsMany_any _ _ _ _ _ xs _ HN.out hn' (HA.out.below b0)).mono ?_; rintro e w1 ⟨rfl, hb1⟩
    rw [HT.out]
    have p1 := heap_later p0 hb1
    have b1 := below_seq b0 hb1
    clear c0 c1 c2
    obtain ⟨c0, c1, c2⟩ := cells3 p1
    go_wp2_with fail
    refine (l1In_any _ _ _ _).mono ?_; rintro e w2 ⟨rfl, rfl⟩
    rw [HIN.out]
    have zl : w.heap.size + 1 ≤ w1.heap.size := heap_lt p1
    go_wp2_with fail
    refine (sLaidBare_ret _ _ _ _ _ xs _ HN.out hn' (HA.out.below b1)).mono ?_; rintro e w2 ⟨a2, cap2, rfl, ho2, hb2⟩
    rw [hbr] at ho2 ⊢
    rw [← HBL.out] at ho2 ⊢
    have p2 := heap_later p1 hb2
    have b2 := below_seq b1 hb2
    have O2 := Lib.hid (ho2.lower (show w.heap.size + 1 ≤ _ by omega))
    clear c0 c1 c2 p1 b1 hb1 hb2 ho2 hbr p0 b0 hb0
    obtain ⟨c0, c1, c2⟩ := cells3 p2
    go_wp2_with fail
    refine (l2First_any _ _ _ _ _ xs _ _ (List.replicate n 0) _ HN.out HBL.out hn' (HA.out.below b2) (OwnsI.at O2.out)).mono ?_; rintro e w3 ⟨rfl, hb3⟩
    have p3 := heap_later p2 hb3
    have b3 := below_seq b2 hb3
    have O3 := Lib.hid (O2.out.below hb3)
    clear c0 c1 c2 p2 b2 hb3 O2
    go_wp2_with fail
    go_loopw [1, 6, 7] (fun r v cl wr => ∃ c : Nat, c ≤ n ∧ r = .int .i64 ((tlS W T xs q c).q : Int) ∧ cl = .int .i64 (firstI xs (tlS W T xs q c).M 0 n) ∧ OwnsI wr (w.heap.size + 1) v (tlS W T xs q c).M ∧ wr.heap[w.heap.size]? = some (.cells #[.int .i64 W, .int .i64 T, .slice a n cap] 25 (0, 0)) ∧ Below w.heap.size w wr) (fun _ _ cl _ => mzJ n cl)
    case atStart =>
      refine ⟨0, Nat.zero_le _, rfl, ?_, ?_, p3, b3⟩
      · show _ = Value.int .i64 (firstI xs (List.replicate xs.length 0) 0 n)
        rw [← HN.out]
      · show OwnsI _ _ _ (List.replicate xs.length 0)
        rw [← HN.out]; exact O3.out
    case round =>
      rename World => wo
      clear p3 b3 O3
      obtain ⟨c, hcm, rfl, rfl, ho, pr, hbel⟩ := hrel
      have BEL := Lib.hid hbel; clear hbel
      obtain ⟨c0, c1, c2⟩ := cells3 pr
      have l1 := heap_lt pr
      obtain ⟨hR0, hqd⟩ := HINV.out c (by rw [← HN.out]; exact hcm)
      have hfin := tlS_skips (W := W) (T := T) (xs := xs) (rank := q) (c := c)
      have hMl := (tlS_len (W := W) (T := T) (xs := xs) (rank := q) c).2
      rcases first_cases xs (tlS W T xs q c).M 0 n with ⟨hf, hno⟩ | ⟨f, _, hfm, hf, hfree, hno⟩
      · have hz : ∀ j, c ≤ j → j < c + (n - c) → (tlS W T xs q c).ys.getD j false = false := by
          intro j h1 h2
          rw [← hR0.free j (by rw [← HN.out]; omega)]
          exact hno j (Nat.zero_le _) (by omega)
        have e2 := hfin (n - c) hz
        rw [show c + (n - c) = n by omega] at e2
        rw [hf]
        rw [← e2] at ho hMl ⊢
        obtain ⟨a6, cap6, hv6⟩ := ho.form2
        rw [hMl, ← HN.out] at hv6
        subst hv6
        have HO := Lib.hid (ho.lower (show w.heap.size ≤ _ by omega)); clear ho e2 hz hno hf hfin hMl
        go_wp2
        go_ret2
        exact ⟨a6, cap6, rfl, HO.out, BEL.out⟩
      · have hyf : (tlS W T xs q c).ys.getD f false = true := by rw [← hR0.free f (by rw [← HN.out]; exact hfm)]; exact hfree
        have hcf : c ≤ f := by
          rcases Nat.lt_or_ge f c with h | h
          · rw [hR0.done f h] at hyf; cases hyf
          · exact h
        have hz : ∀ j, c ≤ j → j < c + (f - c) → (tlS W T xs q c).ys.getD j false = false := by
          intro j h1 h2
          rw [← hR0.free j (by rw [← HN.out]; omega)]
          exact hno j (Nat.zero_le _) (by omega)
        have e2 := hfin (f - c) hz
        rw [show c + (f - c) = f by omega] at e2
        rw [hf]
        rw [← e2] at ho hMl hyf ⊢
        clear hz hno hf hfree hfin hcm e2 hR0 hqd
        obtain ⟨hR0, hqd⟩ := HINV.out f (by rw [← HN.out]; omega)
        have hgo := tlS_go (W := W) (T := T) (xs := xs) (rank := q) (k := f) hyf
        have hnext := HINV.out (f + 1) (by rw [← HN.out]; omega)
        have hq36 := dpT_le (W := W) (T := T) (xs := (tlS W T xs q f).ys) (by rw [hR0.ly, ← HN.out]; exact n36)
        have hMS : ∀ way : Int, (tlS W T xs q (f + 1)).M = laidL W T xs (tlS W T xs q f).M f way → mzJ n (.int .i64 (firstI xs (laidL W T xs (tlS W T xs q f).M f way) 0 n)) < n + 1 - f := by
          intro way hw
          rw [← hw]
          refine mzJ_less hfm (fun j hj => ?_)
          rw [hnext.1.free j (by rw [← HN.out]; omega)]
          exact hnext.1.done j hj
        have HGM0 := hgo
        obtain ⟨S, hS⟩ : ∃ S, S = tlS W T xs q f := ⟨_, rfl⟩
        rw [← hS] at ho hMl hyf hgo hR0 hqd hq36 hMS ⊢
        clear hS HGM0 hnext
        obtain ⟨ys, M, r⟩ := S
        simp only at ho hMl hyf hgo hR0 hqd hq36 hMS ⊢
        rw [← HN.out] at hMl
        obtain ⟨a6, cap6, hv6⟩ := ho.form2
        rw [hMl] at hv6
        subst hv6
        have HO := Lib.hid ho; clear ho
        have hlokM := hR0.ok
        have hfl : ∀ way : Int, layF W T xs M f way = (laidL W T xs M f way, canLay W T xs M f way) := fun way => by unfold layF; rw [hlokM]; rfl
        have HFL := Lib.hid hfl; clear hfl hlokM
        have hll : ∀ way : Int, (laidL W T xs M f way).length = n := fun way => by rw [laidL_len]; exact hMl
        have HLL := Lib.hid hll; clear hll
        have HMLn := Lib.hid hMl.symm; clear hMl
        have HMS := Lib.hid hMS; clear hMS
        have hwl := withN_le' (W := W) (T := T) (xs := ys) (by rw [hR0.ly, ← HN.out]; exact n36) f 1
        have hcanE := hR0.can (c := f) (by rw [← HN.out]; exact hfm) 1
        have hEast := hR0.count (by rw [← HN.out]; exact hfm) 1 (by omega)
        rw [← HN.out] at hEast
        have hQ0' : canTake W T ys f 1 = false → withN W T ys f 1 = 0 := fun h => by unfold withN; rw [h]; rfl
        obtain ⟨Q, hQ⟩ : ∃ Q, Q = withN W T ys f 1 := ⟨_, rfl⟩
        rw [← hQ] at hgo hwl hEast hQ0'
        have e1 : (f : Int) < n := by omega
        clear hQ hyf hR0 hcf
        go_wp2_with fail
        refine (sLayOne_ret _ _ _ _ _ xs _ _ _ M _ _ _ HN.out hn' HMLn.out hn' (HA.out.below BEL.out) (OwnsI.at HO.out)).mono ?_; rintro e w4 ⟨a4, cap4, rfl, ho4, hb4⟩
        have hla4 : layF W T xs M f 1 = (laidL W T xs M f 1, canLay W T xs M f 1) := HFL.out 1
        rw [hla4]
        rw [hla4] at ho4
        simp only [HLL.out 1] at ho4 ⊢
        have p4 := heap_later pr hb4
        have B4 := Lib.hid (below_seq BEL.out hb4)
        have M4 := Lib.hid (HO.out.below hb4)
        have X4 := Lib.hid (OwnsI.lower ho4 (show w.heap.size + 1 ≤ _ by omega))
        have l4 := heap_lt p4
        clear ho4 hb4 hla4
        clear c0 c1 c2
        obtain ⟨c0, c1, c2⟩ := cells3 p4
        cases hcl : canLay W T xs M f 1
        · have hQ0 : Q = 0 := hQ0' (by rw [← hcanE]; exact hcl)
          subst hQ0
          rw [if_pos (Nat.zero_le _)] at hgo
          have HGO := Lib.hid hgo; clear hgo
          have HGM : Hid ((tlS W T xs q (f + 1)).M = laidL W T xs M f 2) := by show _ = _; rw [HGO.out]
          clear hEast hcanE hQ0' hcl
          go_wp2_with fail
          refine (sLayOne_ret _ _ _ _ _ xs _ _ _ M _ _ _ HN.out hn' HMLn.out hn' (HA.out.below B4.out) (OwnsI.at M4.out)).mono ?_; rintro e w5 ⟨a5, cap5, rfl, ho5, hb5⟩
          have hla5 : layF W T xs M f 2 = (laidL W T xs M f 2, canLay W T xs M f 2) := HFL.out 2
          rw [hla5]
          rw [hla5] at ho5
          simp only [HLL.out 2] at ho5 ⊢
          have p5 := heap_later p4 hb5
          have B5 := Lib.hid (below_seq B4.out hb5)
          have M5 := Lib.hid (M4.out.below hb5)
          have X5 := Lib.hid (OwnsI.lower ho5 (show w.heap.size + 1 ≤ _ by omega))
          have l5 := heap_lt p5
          clear ho5 hb5 hla5
          clear c0 c1 c2
          obtain ⟨c0, c1, c2⟩ := cells3 p5
          go_wp2_with fail
          refine (l2First_any _ _ _ _ _ xs _ _ (laidL W T xs M f 2) _ HN.out (HLL.out 2).symm hn' (HA.out.below B5.out) (OwnsI.at X5.out)).mono ?_; rintro e w9 ⟨rfl, hb9⟩
          have p9 := heap_later p5 hb9
          have B9 := below_seq B5.out hb9
          have X9 := X5.out.below hb9
          go_wp2_with fail
          have hms := HMS.out 2 HGM.out
          refine ⟨⟨f + 1, by omega, ?_, by rw [HGO.out], by rw [HGO.out]; exact X9, p9, B9⟩, ?_⟩
          · first
              | (rw [HGO.out]; done)
              | (rw [HGO.out]; rfl)
              | (rw [HGO.out]
                 show Value.int _ _ = Value.int _ _
                 congr 1
                 show _ = ((r - 0 : Nat) : Int)
                 omega)
          · show mzJ n (.int .i64 (firstI xs (laidL W T xs M f 2) 0 n)) < mzJ n (.int .i64 (f : Int))
            rw [mzJ_nat]
            exact hms
        · have hE := hEast hcl
          have HE := Lib.hid hE; clear hEast hcanE hQ0' hcl hE
          go_wp2_with fail
          refine (l3With_any _ _ _ _ _ xs _ _ (laidL W T xs M f 1) _ HN.out (HLL.out 1).symm hp n36 (HA.out.below B4.out) (OwnsI.at X4.out)).mono ?_; rintro e w6 ⟨rfl, hb6⟩
          rw [HE.out]
          have p6 := heap_later p4 hb6
          have B6 := Lib.hid (below_seq B4.out hb6)
          have M6 := Lib.hid (M4.out.below hb6)
          have X6 := Lib.hid (X4.out.below hb6)
          have l6 := heap_lt p6
          clear c0 c1 c2 hb6
          obtain ⟨c0, c1, c2⟩ := cells3 p6
          by_cases hle : Q ≤ r
          · rw [if_pos hle] at hgo
            have HGO := Lib.hid hgo; clear hgo
            have HGM : Hid ((tlS W T xs q (f + 1)).M = laidL W T xs M f 2) := by show _ = _; rw [HGO.out]
            have e3 : (Q : Int) ≤ r := by omega
            go_wp2_with fail
            refine (sLayOne_ret _ _ _ _ _ xs _ _ _ M _ _ _ HN.out hn' HMLn.out hn' (HA.out.below B6.out) (OwnsI.at M6.out)).mono ?_; rintro e w5 ⟨a5, cap5, rfl, ho5, hb5⟩
            have hla5 : layF W T xs M f 2 = (laidL W T xs M f 2, canLay W T xs M f 2) := HFL.out 2
            rw [hla5]
            rw [hla5] at ho5
            simp only [HLL.out 2] at ho5 ⊢
            have p5 := heap_later p6 hb5
            have B5 := Lib.hid (below_seq B6.out hb5)
            have M5 := Lib.hid (M6.out.below hb5)
            have X5 := Lib.hid (OwnsI.lower ho5 (show w.heap.size + 1 ≤ _ by omega))
            have l5 := heap_lt p5
            clear ho5 hb5 hla5
            clear c0 c1 c2
            obtain ⟨c0, c1, c2⟩ := cells3 p5
            go_wp2_with fail
            refine (l2First_any _ _ _ _ _ xs _ _ (laidL W T xs M f 2) _ HN.out (HLL.out 2).symm hn' (HA.out.below B5.out) (OwnsI.at X5.out)).mono ?_; rintro e w9 ⟨rfl, hb9⟩
            have p9 := heap_later p5 hb9
            have B9 := below_seq B5.out hb9
            have X9 := X5.out.below hb9
            go_wp2_with fail
            have hms := HMS.out 2 HGM.out
            refine ⟨⟨f + 1, by omega, ?_, by rw [HGO.out], by rw [HGO.out]; exact X9, p9, B9⟩, ?_⟩
            · first
                | (rw [HGO.out]; done)
                | (rw [HGO.out]; rfl)
                | (rw [HGO.out]
                   show Value.int _ _ = Value.int _ _
                   congr 1
                   show _ = ((r - Q : Nat) : Int)
                   omega)
            · show mzJ n (.int .i64 (firstI xs (laidL W T xs M f 2) 0 n)) < mzJ n (.int .i64 (f : Int))
              rw [mzJ_nat]
              exact hms
          · rw [if_neg hle] at hgo
            have HGO := Lib.hid hgo; clear hgo
            have HGM : Hid ((tlS W T xs q (f + 1)).M = laidL W T xs M f 1) := by show _ = _; rw [HGO.out]
            have e3 : (r : Int) < Q := by omega
            go_wp2_with fail
            refine (l2First_any _ _ _ _ _ xs _ _ (laidL W T xs M f 1) _ HN.out (HLL.out 1).symm hn' (HA.out.below B6.out) (OwnsI.at X6.out)).mono ?_; rintro e w9 ⟨rfl, hb9⟩
            have p9 := heap_later p6 hb9
            have B9 := below_seq B6.out hb9
            have X9 := X6.out.below hb9
            go_wp2_with fail
            have hms := HMS.out 1 HGM.out
            refine ⟨⟨f + 1, by omega, ?_, by rw [HGO.out], by rw [HGO.out]; exact X9, p9, B9⟩, ?_⟩
            · first
                | (rw [HGO.out]; done)
                | (rw [HGO.out]; rfl)
                | (rw [HGO.out]
                   show Value.int _ _ = Value.int _ _
                   congr 1
                   show _ = (r : Int)
                   omega)
            · show mzJ n (.int .i64 (firstI xs (laidL W T xs M f 1) 0 n)) < mzJ n (.int .i64 (f : Int))
              rw [mzJ_nat]
              exact hms
  · have e : tilOf W T xs rank = ([], false) := by unfold tilOf; rw [if_neg h]
    rw [e]
    clear e
    by_cases hr : rv W T xs = true
    · have ht : tilT W T xs = (dpT W T xs : Int) := by unfold tilT; rw [if_pos hr]
      have n36 : xs.length ≤ 36 := by
        obtain ⟨hW0, hW1, hT0, hT1, v5, _⟩ := rv_true hr
        have h1 : W * T ≤ 6 * 6 := Int.mul_le_mul hW1 hT1 (by omega) (by omega)
        omega
      have hdl := dpT_le (W := W) (T := T) (xs := xs) n36
      have hin : inB rank 0 ((dpT W T xs : Int) - 1) = false := by
        unfold inB
        refine decide_eq_false (fun q => h ⟨hr, q.1, by omega⟩)
      obtain ⟨D, hD⟩ : ∃ D, D = dpT W T xs := ⟨_, rfl⟩
      rw [← hD] at ht hin hdl
      have HT := Lib.hid ht; clear ht hD h
      go_enter Try.func107, Try.ntmps107
      go_wp2_with fail
      refine (sRegionValid_any _ _ _ _ _ xs _ HN.out hn' (HA.out.one _)).mono ?_; rintro e w0 ⟨rfl, hb0⟩
      rw [hr]
      have p0 := heap_later (heap_new w _) hb0
      have b0 := below_seq (below1 _ _) hb0
      obtain ⟨c0, c1, c2⟩ := cells3 p0
      go_wp2_with fail
      refine (sTilingsMany_any _ _ _ _ _ xs _ HN.out hn' (HA.out.below b0)).mono ?_; rintro e w1 ⟨rfl, hb1⟩
      rw [HT.out]
      go_wp2_with fail
      refine (l1In_any _ _ _ _).mono ?_; rintro e w2 ⟨rfl, rfl⟩
      rw [hin]
      go_wp2
      go_ret2
      exact ⟨_, _, rfl, own_nil_lit _ (by have := b0.size; have := hb1.size; omega), below_seq (below_seq b0 hb1) (below1 _ _)⟩
    · rw [Bool.not_eq_true] at hr
      clear h
      go_enter Try.func107, Try.ntmps107
      go_wp2_with fail
      refine (sRegionValid_any _ _ _ _ _ xs _ HN.out hn' (HA.out.one _)).mono ?_; rintro e w0 ⟨rfl, hb0⟩
      rw [hr]
      have b0 := below_seq (below1 _ _) hb0
      go_wp2
      go_ret2
      exact ⟨_, _, rfl, own_nil_lit _ b0.size, below_seq b0 (below1 _ _)⟩

end Go.Proofs.Ytknigcjpgkolgaa
