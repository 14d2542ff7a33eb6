/- Contracts of impl.barOk, impl.coloursOf and of both functions ColourMany. No statement is proved here. -/
import Derived.Test.YtpcajacekmidbaaJLaid20
import Derived.Test.YtpcajacekmidbaaJDpY
import Derived.Deep.DeepMust
namespace Go.Proofs.Ytpcajacekmidbaa
open Go.RowKit
set_option linter.unusedVariables false
set_option maxRecDepth 100000
set_option linter.unusedSimpArgs false

structure R0 (W T : Int) (xs : List Bool) (c : Nat) (M : List Int) (ys : List Bool) : Prop where
  ly : ys.length = xs.length
  lm : M.length = xs.length
  ok : lok W T xs M = true
  free : ∀ j, j < xs.length → freeB xs M j = ys.getD j false
  done : ∀ j, j < c → ys.getD j false = false

theorem R0.start {W T : Int} {xs : List Bool} (hr : rv W T xs = true) : R0 W T xs 0 (List.replicate xs.length 0) xs := by
  have hz : ∀ k : Nat, (List.replicate xs.length (0 : Int)).getD k 0 = 0 := by
    intro k
    rw [List.getD_eq_getElem?_getD]
    rcases Nat.lt_or_ge k xs.length with h' | h'
    · rw [List.getElem?_replicate_of_lt h']; rfl
    · rw [List.getElem?_eq_none (by simpa using h')]; rfl
  refine ⟨rfl, by simp, ?_, ?_, fun j hj => absurd hj (Nat.not_lt_zero _)⟩
  · unfold lok goodN
    rw [hr]
    simp only [List.length_replicate, BEq.rfl, Bool.true_and, List.all_eq_true]
    intro k _
    unfold goodB
    rw [hz]
    rfl
  · intro j _
    unfold freeB
    rw [hz]
    simp

theorem R0.skip {W T : Int} {xs : List Bool} {M : List Int} {c : Nat} {ys : List Bool} (h : R0 W T xs c M ys) (hc : ys.getD c false = false) : R0 W T xs (c + 1) M ys :=
  ⟨h.ly, h.lm, h.ok, h.free, fun j hj => by
    by_cases e : j = c
    · rw [e]; exact hc
    · exact h.done j (by omega)⟩

theorem R0.can {W T : Int} {xs : List Bool} {M : List Int} {c c' : Nat} {ys : List Bool} (h : R0 W T xs c' M ys) (hc : c < xs.length) (way : Int) : canLay W T xs M c way = canTake W T ys c way := by
  obtain ⟨hr, _, _⟩ := lok_rv h.ok
  obtain ⟨v1, v2, v3, v4, v5, _⟩ := rv_true hr
  unfold canLay canTake
  rw [h.ly]
  by_cases h0 : 0 ≤ cellB W T xs.length c way
  · have hbd := cellB_bd (W := W) (T := T) (n := xs.length) (k := (c : Int)) (way := way) v1 v5 h0
    simp only [Int.toNat_natCast]
    rw [h.free c hc, h.free _ (by omega), Bool.and_assoc]
  · rw [decide_eq_false h0]; rfl

theorem R0.step {W T : Int} {xs : List Bool} {M : List Int} {c : Nat} {ys : List Bool} {way : Int} (h : R0 W T xs c M ys) (hc : c < xs.length) (hw : 1 ≤ way ∧ way ≤ 4) (hcan : canTake W T ys c way = true) :
    R0 W T xs (c + 1) (laidL W T xs M c way) (takeB W T ys c way) := by
  obtain ⟨hr, _, _⟩ := lok_rv h.ok
  obtain ⟨v1, v2, v3, v4, v5, _⟩ := rv_true hr
  have hlay : canLay W T xs M c way = true := by rw [h.can hc]; exact hcan
  have hcan' := hcan
  unfold canTake at hcan'
  rw [h.ly, Bool.and_eq_true, Bool.and_eq_true, decide_eq_true_eq] at hcan'
  obtain ⟨h0, hyc, hyo⟩ := hcan'
  have hbd := cellB_bd (W := W) (T := T) (n := xs.length) (k := (c : Int)) (way := way) v1 v5 h0
  obtain ⟨o, hcell⟩ : ∃ o : Nat, cellB W T xs.length c way = o := ⟨(cellB W T xs.length c way).toNat, by omega⟩
  rw [hcell] at hbd hyo
  rw [Int.toNat_natCast] at hyc hyo
  have hs : stepI W T c way = o := by have := hcell; unfold cellB at this; rw [if_pos (by omega)] at this; exact this
  have ho : o < xs.length := by omega
  have hne : o ≠ c := by omega
  have hfc : freeB xs M c = true := by rw [h.free c hc]; exact hyc
  have hfo : freeB xs M o = true := by rw [h.free o ho]; exact hyo
  have hback := rk_back (W := W) (T := T) (k := (c : Int)) (way := way) v1 v2 (by omega) (by omega) (by omega) (by rw [hs]; omega)
  rw [hs] at hback
  have e1 : takeB W T ys c way = lessB ys [c, o] := by unfold takeB; rw [hcan, h.ly, hcell]; simp
  have e2 : laidL W T xs M c way = (M.set c way).set o (backI way) := by unfold laidL; rw [hlay, hcell]; simp
  rw [e1, e2]
  have hgd : ∀ j : Nat, ((M.set c way).set o (backI way)).getD j 0 = if j = o then backI way else if j = c then way else M.getD j 0 := fun j => getD_set2 (by rw [h.lm]; exact hc) (by rw [h.lm]; exact ho)
  have hlg : ∀ j, j < xs.length → (lessB ys [c, o]).getD j false = (ys.getD j false && !(decide (j = c) || decide (j = o))) := by
    intro j hj
    rw [lessB_get _ (by rw [h.ly]; exact hj)]
    by_cases a1 : j = c
    · subst a1; simp
    · by_cases a2 : j = o
      · subst a2; simp
      · simp [a1, a2]
  refine ⟨by rw [lessB_len, h.ly], by simp [h.lm], lok_lay h.ok hc ho hne hfc hfo hw hs hback, ?_, ?_⟩
  · intro j hj
    rw [hlg j hj, ← h.free j hj]
    unfold freeB
    rw [hgd j]
    by_cases a2 : j = o
    · subst a2
      have := back_nz (way := way) (by omega)
      simp [-List.getD_eq_getElem?_getD, this]
    · by_cases a1 : j = c
      · subst a1
        have : way ≠ 0 := by omega
        simp [-List.getD_eq_getElem?_getD, a2, this]
      · simp [-List.getD_eq_getElem?_getD, a1, a2]
  · intro j hj
    by_cases a1 : j = c
    · subst a1; rw [hlg j hc]; simp
    · rw [hlg j (by omega), h.done j (by omega)]; rfl

theorem R0.count {W T : Int} {xs : List Bool} {M : List Int} {c : Nat} {ys : List Bool} (h : R0 W T xs c M ys) (hc : c < xs.length) (way : Int) (hw : 1 ≤ way ∧ way ≤ 4) (hlay : canLay W T xs M c way = true) :
    tilT W T (lessB xs (covN (laidL W T xs M c way) xs.length)) = (withN W T ys c way : Int) := by
  have hcan : canTake W T ys c way = true := by rw [← h.can hc]; exact hlay
  obtain ⟨hr, _, _⟩ := lok_rv h.ok
  obtain ⟨v1, v2, v3, v4, v5, _⟩ := rv_true hr
  have h0 : 0 ≤ cellB W T xs.length c way := by unfold canLay at hlay; simp only [Bool.and_eq_true, decide_eq_true_eq] at hlay; exact hlay.1.1
  have hbd := cellB_bd (W := W) (T := T) (n := xs.length) (k := (c : Int)) (way := way) v1 v5 h0
  obtain ⟨o, ho⟩ : ∃ o : Nat, cellB W T xs.length c way = o := ⟨(cellB W T xs.length c way).toNat, by omega⟩
  rw [ho] at hbd
  have e2 : laidL W T xs M c way = (M.set c way).set o (backI way) := by unfold laidL; rw [hlay, ho]; simp
  have e3 : withN W T ys c way = dpT W T (lessB ys [c, o]) := by unfold withN; rw [hcan, h.ly, ho]; simp
  have hgd : ∀ j : Nat, ((M.set c way).set o (backI way)).getD j 0 = if j = o then backI way else if j = c then way else M.getD j 0 := fun j => getD_set2 (by rw [h.lm]; exact hc) (by rw [h.lm]; omega)
  have hbn := back_nz (way := way) (by omega)
  have e4 : lessB xs (covN ((M.set c way).set o (backI way)) xs.length) = lessB ys [c, o] := by
    unfold lessB
    rw [h.ly]
    refine tab_congr (fun j hj => ?_)
    unfold lessF
    rw [← h.free j hj]
    unfold freeB
    have hm := covN_mem (M := (M.set c way).set o (backI way)) (j := j) xs.length
    rw [hgd j] at hm
    rw [Bool.eq_iff_iff]
    simp only [Bool.and_eq_true, Bool.not_eq_true', List.contains_eq_mem, decide_eq_false_iff_not, hm, List.mem_cons, List.not_mem_nil, or_false, beq_iff_eq]
    by_cases a2 : j = o
    · subst a2; simp [-List.getD_eq_getElem?_getD, hbn]; omega
    · by_cases a1 : j = c
      · subst a1; simp [-List.getD_eq_getElem?_getD, a2]; omega
      · simp [-List.getD_eq_getElem?_getD, a1, a2, hj]
  unfold tilT
  rw [if_pos (rv_less hr), e2, e4, e3]

/-- What is left, what is laid, and the rank among what is left, once the cells before the k-th one are done. -/
structure TS where
  ys : List Bool
  M : List Int
  q : Nat
def tlS (W T : Int) (xs : List Bool) (rank : Nat) : Nat → TS
  | 0 => ⟨xs, List.replicate xs.length 0, rank⟩
  | k + 1 =>
    if (tlS W T xs rank k).ys.getD k false = true then
      (if withN W T (tlS W T xs rank k).ys k 1 ≤ (tlS W T xs rank k).q then ⟨takeB W T (tlS W T xs rank k).ys k 2, laidL W T xs (tlS W T xs rank k).M k 2, (tlS W T xs rank k).q - withN W T (tlS W T xs rank k).ys k 1⟩
       else ⟨takeB W T (tlS W T xs rank k).ys k 1, laidL W T xs (tlS W T xs rank k).M k 1, (tlS W T xs rank k).q⟩)
    else tlS W T xs rank k
theorem tlS_skip {W T : Int} {xs : List Bool} {rank k : Nat} (h : (tlS W T xs rank k).ys.getD k false = false) : tlS W T xs rank (k + 1) = tlS W T xs rank k := by
  have e : tlS W T xs rank (k + 1) = if (tlS W T xs rank k).ys.getD k false = true then
      (if withN W T (tlS W T xs rank k).ys k 1 ≤ (tlS W T xs rank k).q then ⟨takeB W T (tlS W T xs rank k).ys k 2, laidL W T xs (tlS W T xs rank k).M k 2, (tlS W T xs rank k).q - withN W T (tlS W T xs rank k).ys k 1⟩
       else ⟨takeB W T (tlS W T xs rank k).ys k 1, laidL W T xs (tlS W T xs rank k).M k 1, (tlS W T xs rank k).q⟩)
    else tlS W T xs rank k := rfl
  rw [e, if_neg (by rw [h]; simp)]
theorem tlS_go {W T : Int} {xs : List Bool} {rank k : Nat} (h : (tlS W T xs rank k).ys.getD k false = true) : tlS W T xs rank (k + 1) =
      (if withN W T (tlS W T xs rank k).ys k 1 ≤ (tlS W T xs rank k).q then ⟨takeB W T (tlS W T xs rank k).ys k 2, laidL W T xs (tlS W T xs rank k).M k 2, (tlS W T xs rank k).q - withN W T (tlS W T xs rank k).ys k 1⟩
       else ⟨takeB W T (tlS W T xs rank k).ys k 1, laidL W T xs (tlS W T xs rank k).M k 1, (tlS W T xs rank k).q⟩) := by
  have e : tlS W T xs rank (k + 1) = if (tlS W T xs rank k).ys.getD k false = true then
      (if withN W T (tlS W T xs rank k).ys k 1 ≤ (tlS W T xs rank k).q then ⟨takeB W T (tlS W T xs rank k).ys k 2, laidL W T xs (tlS W T xs rank k).M k 2, (tlS W T xs rank k).q - withN W T (tlS W T xs rank k).ys k 1⟩
       else ⟨takeB W T (tlS W T xs rank k).ys k 1, laidL W T xs (tlS W T xs rank k).M k 1, (tlS W T xs rank k).q⟩)
    else tlS W T xs rank k := rfl
  rw [e, if_pos h]
theorem tlS_len {W T : Int} {xs : List Bool} {rank : Nat} : ∀ k, (tlS W T xs rank k).ys.length = xs.length ∧ (tlS W T xs rank k).M.length = xs.length
  | 0 => ⟨rfl, by show (List.replicate xs.length (0 : Int)).length = _; simp⟩
  | k + 1 => by
    obtain ⟨h1, h2⟩ := tlS_len (W := W) (T := T) (xs := xs) (rank := rank) k
    cases h : (tlS W T xs rank k).ys.getD k false
    · rw [tlS_skip h]; exact ⟨h1, h2⟩
    · rw [tlS_go h]
      split
      · exact ⟨by rw [takeB_len]; exact h1, by rw [laidL_len]; exact h2⟩
      · exact ⟨by rw [takeB_len]; exact h1, by rw [laidL_len]; exact h2⟩

theorem with_pos {W T : Int} {ys : List Bool} {k : Nat} {way : Int} {q : Nat} (h : q < withN W T ys k way) : canTake W T ys k way = true ∧ dpT W T (takeB W T ys k way) = withN W T ys k way := by
  have hc : canTake W T ys k way = true := by
    cases hc : canTake W T ys k way
    · unfold withN at h; rw [hc] at h; simp at h
    · rfl
  refine ⟨hc, ?_⟩
  unfold takeB withN
  rw [hc]
  rfl

theorem tlS_inv {W T : Int} {xs : List Bool} {rank : Nat} (hr : rv W T xs = true) (hq : rank < dpT W T xs) : ∀ k, k ≤ xs.length → R0 W T xs k (tlS W T xs rank k).M (tlS W T xs rank k).ys ∧ (tlS W T xs rank k).q < dpT W T (tlS W T xs rank k).ys
  | 0, _ => ⟨R0.start hr, hq⟩
  | k + 1, hk => by
    obtain ⟨h1, h2⟩ := tlS_inv hr hq k (by omega)
    obtain ⟨v1, v2, v3, v4, v5, _⟩ := rv_true hr
    have h36 : xs.length ≤ 36 := by
      have h1 : W * T ≤ 6 * 6 := Int.mul_le_mul v2 v4 (by omega) (by omega)
      omega
    cases h : (tlS W T xs rank k).ys.getD k false
    · rw [tlS_skip h]; exact ⟨h1.skip h, h2⟩
    · have hsp := dp_split (W := W) (T := T) (ys := (tlS W T xs rank k).ys) (c := k) v1 v2 (by rw [h1.ly]; exact v5) (by rw [h1.ly]; exact h36) (by rw [h1.ly]; omega) h1.done h
      rw [tlS_go h]
      by_cases hle : withN W T (tlS W T xs rank k).ys k 1 ≤ (tlS W T xs rank k).q
      · rw [if_pos hle]
        have hp := with_pos (W := W) (T := T) (ys := (tlS W T xs rank k).ys) (k := k) (way := 2) (q := (tlS W T xs rank k).q - withN W T (tlS W T xs rank k).ys k 1) (by omega)
        exact ⟨h1.step (by omega) (by omega) hp.1, by show (tlS W T xs rank k).q - withN W T (tlS W T xs rank k).ys k 1 < dpT W T (takeB W T (tlS W T xs rank k).ys k 2); rw [hp.2]; omega⟩
      · rw [if_neg hle]
        have hp := with_pos (W := W) (T := T) (ys := (tlS W T xs rank k).ys) (k := k) (way := 1) (q := (tlS W T xs rank k).q) (by omega)
        exact ⟨h1.step (by omega) (by omega) hp.1, by show (tlS W T xs rank k).q < dpT W T (takeB W T (tlS W T xs rank k).ys k 1); rw [hp.2]; omega⟩

theorem tlS_skips {W T : Int} {xs : List Bool} {rank c : Nat} : ∀ d, (∀ j, c ≤ j → j < c + d → (tlS W T xs rank c).ys.getD j false = false) → tlS W T xs rank (c + d) = tlS W T xs rank c
  | 0, _ => rfl
  | d + 1, h => by
    have ih := tlS_skips d (fun j h1 h2 => h j h1 (by omega))
    rw [← ih]
    exact tlS_skip (k := c + d) (by rw [ih]; exact h (c + d) (by omega) (by omega))

def tilOf (W T : Int) (xs : List Bool) (rank : Int) : List Int × Bool := if rv W T xs = true ∧ 0 ≤ rank ∧ rank < dpT W T xs then ((tlS W T xs rank.toNat xs.length).M, true) else ([], false)
theorem tilOf_len (W T : Int) (xs : List Bool) (rank : Int) : (tilOf W T xs rank).1.length ≤ xs.length := by
  unfold tilOf
  split
  · exact Nat.le_of_eq (tlS_len _).2
  · simp

end Go.Proofs.Ytpcajacekmidbaa

namespace Go.Proofs.Ytpcajacekmidbaa
open Go.RowKit
set_option linter.unusedVariables false
set_option maxRecDepth 100000
set_option linter.unusedSimpArgs false

end Go.Proofs.Ytpcajacekmidbaa

namespace Go.Proofs.Ytpcajacekmidbaa
open Go.RowKit
set_option linter.unusedVariables false
set_option maxRecDepth 100000
set_option linter.unusedSimpArgs false

/-- How many rounds may still come: none behind the last cell. -/
def mzJ (n : Nat) (v : Value) : Nat := if intOf v < 0 then 0 else n + 1 - (intOf v).toNat
theorem mzJ_nat (n f : Nat) : mzJ n (.int .i64 (f : Int)) = n + 1 - f := by
  unfold mzJ
  have h : ¬ ((f : Int) < 0) := by omega
  simp [intOf, h]
theorem mzJ_less {xs : List Bool} {M : List Int} {n f : Nat} (hf : f < n) (h : ∀ j, j < f + 1 → freeB xs M j = false) : mzJ n (.int .i64 (firstI xs M 0 n)) < n + 1 - f := by
  rcases first_cases xs M 0 n with ⟨hq, _⟩ | ⟨f2, _, hf2m, hq, hfr, _⟩
  · rw [hq]; unfold mzJ; simp [intOf]; omega
  · rw [hq]
    have hge : f + 1 ≤ f2 := by
      rcases Nat.lt_or_ge f2 (f + 1) with h' | h'
      · rw [h f2 h'] at hfr; cases hfr
      · exact h'
    rw [mzJ_nat]
    omega

set_option maxHeartbeats 4000000 in
theorem sTilingOf_ret (W T : Int) (a : Option Addr) (n cap : Nat) (xs : List Bool) (rank : Int) (w : World) (hn : n = xs.length) (hn' : n ≤ 1048576) (ha : BoolsAt w a xs) :
    Calls Try.prog 96 #[.agg #[.int .i64 W, .int .i64 T, .slice a n cap], .int .i64 rank] w (RetLT w (tilOf W T xs rank).1.length (tilOf W T xs rank).1 (tilOf W T xs rank).2) := by
  have HN := Lib.hid hn; clear hn
  have HA := Lib.hid ha; clear ha
  by_cases h : rv W T xs = true ∧ 0 ≤ rank ∧ rank < dpT W T xs
  · obtain ⟨hr, h0, h1⟩ := h
    obtain ⟨q, hq⟩ : ∃ q : Nat, rank = q := ⟨rank.toNat, by omega⟩
    subst hq
    have e : tilOf W T xs q = ((tlS W T xs q xs.length).M, true) := by unfold tilOf; rw [if_pos ⟨hr, h0, h1⟩, Int.toNat_natCast]
    rw [e]
    clear e
    have ht : tilT W T xs = (dpT W T xs : Int) := by unfold tilT; rw [if_pos hr]
    have hinv := tlS_inv (W := W) (T := T) (xs := xs) (rank := q) hr (by omega)
    obtain ⟨hW0, hW1, hT0, hT1, v5, _⟩ := rv_true hr
    have hWT : (n : Int) = W * T := by rw [HN.out]; exact v5
    have n36 : n ≤ 36 := by
      have h1 : W * T ≤ 6 * 6 := Int.mul_le_mul hW1 hT1 (by omega) (by omega)
      omega
    have hp : 0 < n := by
      have h1 : 1 * 1 ≤ W * T := Int.mul_le_mul hW0 hT0 (by omega) (by omega)
      omega
    have hdl := dpT_le (W := W) (T := T) (xs := xs) (by rw [← HN.out]; exact n36)
    obtain ⟨D, hD⟩ : ∃ D, D = dpT W T xs := ⟨_, rfl⟩
    rw [← hD] at ht hdl h1
    have hbr : bareL W T xs = List.replicate n 0 := by unfold bareL; rw [if_pos hr, HN.out]
    have HBL : Hid (n = (List.replicate n (0 : Int)).length) := by show n = _; simp
    have HWT := Lib.hid hWT; clear hWT v5
    have HT := Lib.hid ht; clear ht hD
    have hml := (tlS_len (W := W) (T := T) (xs := xs) (rank := q) xs.length).2
    have HML := Lib.hid hml; clear hml
    have HR := Lib.hid hr; clear hr
    have HINV := Lib.hid hinv; clear hinv
    have hin : inB (q : Int) 0 ((D : Int) - 1) = true := by unfold inB; exact decide_eq_true (by omega)
    have HIN := Lib.hid hin; clear hin
    simp only [HML.out]
    rw [← HN.out]
    go_enter Try.func96, Try.ntmps96
    go_wp2_with fail
    refine (sRegionValid_any _ _ _ _ _ xs _ HN.out hn' (HA.out.one _)).mono ?_; rintro e w0 ⟨rfl, hb0⟩
    rw [HR.out]
    have p0 := heap_later (heap_new w _) hb0
    have b0 := below_seq (below1 _ _) hb0
    obtain ⟨c0, c1, c2⟩ := cells3 p0
    go_wp2_with fail
    refine (sTilingsMany_any _ _ _ _ _ xs _ HN.out hn' (HA.out.below b0)).mono ?_; rintro e w1 ⟨rfl, hb1⟩
    rw [HT.out]
    have p1 := heap_later p0 hb1
    have b1 := below_seq b0 hb1
    clear c0 c1 c2
    obtain ⟨c0, c1, c2⟩ := cells3 p1
    go_wp2_with fail
    refine (l1In_any _ _ _ _).mono ?_; rintro e w2 ⟨rfl, rfl⟩
    rw [HIN.out]
    have zl : w.heap.size + 1 ≤ w1.heap.size := heap_lt p1
    go_wp2_with fail
    refine (sLaidBare_ret _ _ _ _ _ xs _ HN.out hn' (HA.out.below b1)).mono ?_; rintro e w2 ⟨a2, cap2, rfl, ho2, hb2⟩
    rw [hbr] at ho2 ⊢
    rw [← HBL.out] at ho2 ⊢
    have p2 := heap_later p1 hb2
    have b2 := below_seq b1 hb2
    have O2 := Lib.hid (ho2.lower (show w.heap.size + 1 ≤ _ by omega))
    clear c0 c1 c2 p1 b1 hb1 hb2 ho2 hbr p0 b0 hb0
    obtain ⟨c0, c1, c2⟩ := cells3 p2
    go_wp2_with fail
    refine (l2First_any _ _ _ _ _ xs _ _ (List.replicate n 0) _ HN.out HBL.out hn' (HA.out.below b2) (OwnsI.at O2.out)).mono ?_; rintro e w3 ⟨rfl, hb3⟩
    have p3 := heap_later p2 hb3
    have b3 := below_seq b2 hb3
    have O3 := Lib.hid (O2.out.below hb3)
    clear c0 c1 c2 p2 b2 hb3 O2
    go_wp2_with fail
    go_loopw [1, 6, 7] (fun r v cl wr => ∃ c : Nat, c ≤ n ∧ r = .int .i64 ((tlS W T xs q c).q : Int) ∧ cl = .int .i64 (firstI xs (tlS W T xs q c).M 0 n) ∧ OwnsI wr (w.heap.size + 1) v (tlS W T xs q c).M ∧ wr.heap[w.heap.size]? = some (.cells #[.int .i64 W, .int .i64 T, .slice a n cap] 25 (0, 0)) ∧ Below w.heap.size w wr) (fun _ _ cl _ => mzJ n cl)
    case atStart =>
      refine ⟨0, Nat.zero_le _, rfl, ?_, ?_, p3, b3⟩
      · show _ = Value.int .i64 (firstI xs (List.replicate xs.length 0) 0 n)
        rw [← HN.out]
      · show OwnsI _ _ _ (List.replicate xs.length 0)
        rw [← HN.out]; exact O3.out
    case round =>
      rename World => wo
      clear p3 b3 O3
      obtain ⟨c, hcm, rfl, rfl, ho, pr, hbel⟩ := hrel
      have BEL := Lib.hid hbel; clear hbel
      obtain ⟨c0, c1, c2⟩ := cells3 pr
      have l1 := heap_lt pr
      obtain ⟨hR0, hqd⟩ := HINV.out c (by rw [← HN.out]; exact hcm)
      have hfin := tlS_skips (W := W) (T := T) (xs := xs) (rank := q) (c := c)
      have hMl := (tlS_len (W := W) (T := T) (xs := xs) (rank := q) c).2
      rcases first_cases xs (tlS W T xs q c).M 0 n with ⟨hf, hno⟩ | ⟨f, _, hfm, hf, hfree, hno⟩
      · have hz : ∀ j, c ≤ j → j < c + (n - c) → (tlS W T xs q c).ys.getD j false = false := by
          intro j h1 h2
          rw [← hR0.free j (by rw [← HN.out]; omega)]
          exact hno j (Nat.zero_le _) (by omega)
        have e2 := hfin (n - c) hz
        rw [show c + (n - c) = n by omega] at e2
        rw [hf]
        rw [← e2] at ho hMl ⊢
        obtain ⟨a6, cap6, hv6⟩ := ho.form2
        rw [hMl, ← HN.out] at hv6
        subst hv6
        have HO := Lib.hid (ho.lower (show w.heap.size ≤ _ by omega)); clear ho e2 hz hno hf hfin hMl
        go_wp2
        go_ret2
        exact ⟨a6, cap6, rfl, HO.out, BEL.out⟩
      · have hyf : (tlS W T xs q c).ys.getD f false = true := by rw [← hR0.free f (by rw [← HN.out]; exact hfm)]; exact hfree
        have hcf : c ≤ f := by
          rcases Nat.lt_or_ge f c with h | h
          · rw [hR0.done f h] at hyf; cases hyf
          · exact h
        have hz : ∀ j, c ≤ j → j < c + (f - c) → (tlS W T xs q c).ys.getD j false = false := by
          intro j h1 h2
          rw [← hR0.free j (by rw [← HN.out]; omega)]
          exact hno j (Nat.zero_le _) (by omega)
        have e2 := hfin (f - c) hz
        rw [show c + (f - c) = f by omega] at e2
        rw [hf]
        rw [← e2] at ho hMl hyf ⊢
        clear hz hno hf hfree hfin hcm e2 hR0 hqd
        obtain ⟨hR0, hqd⟩ := HINV.out f (by rw [← HN.out]; omega)
        have hgo := tlS_go (W := W) (T := T) (xs := xs) (rank := q) (k := f) hyf
        have hnext := HINV.out (f + 1) (by rw [← HN.out]; omega)
        have hq36 := dpT_le (W := W) (T := T) (xs := (tlS W T xs q f).ys) (by rw [hR0.ly, ← HN.out]; exact n36)
        have hMS : ∀ way : Int, (tlS W T xs q (f + 1)).M = laidL W T xs (tlS W T xs q f).M f way → mzJ n (.int .i64 (firstI xs (laidL W T xs (tlS W T xs q f).M f way) 0 n)) < n + 1 - f := by
          intro way hw
          rw [← hw]
          refine mzJ_less hfm (fun j hj => ?_)
          rw [hnext.1.free j (by rw [← HN.out]; omega)]
          exact hnext.1.done j hj
        have HGM0 := hgo
        obtain ⟨S, hS⟩ : ∃ S, S = tlS W T xs q f := ⟨_, rfl⟩
        rw [← hS] at ho hMl hyf hgo hR0 hqd hq36 hMS ⊢
        clear hS HGM0 hnext
        obtain ⟨ys, M, r⟩ := S
        simp only at ho hMl hyf hgo hR0 hqd hq36 hMS ⊢
        rw [← HN.out] at hMl
        obtain ⟨a6, cap6, hv6⟩ := ho.form2
        rw [hMl] at hv6
        subst hv6
        have HO := Lib.hid ho; clear ho
        have hlokM := hR0.ok
        have hfl : ∀ way : Int, layF W T xs M f way = (laidL W T xs M f way, canLay W T xs M f way) := fun way => by unfold layF; rw [hlokM]; rfl
        have HFL := Lib.hid hfl; clear hfl hlokM
        have hll : ∀ way : Int, (laidL W T xs M f way).length = n := fun way => by rw [laidL_len]; exact hMl
        have HLL := Lib.hid hll; clear hll
        have HMLn := Lib.hid hMl.symm; clear hMl
        have HMS := Lib.hid hMS; clear hMS
        have hwl := withN_le' (W := W) (T := T) (xs := ys) (by rw [hR0.ly, ← HN.out]; exact n36) f 1
        have hcanE := hR0.can (c := f) (by rw [← HN.out]; exact hfm) 1
        have hEast := hR0.count (by rw [← HN.out]; exact hfm) 1 (by omega)
        rw [← HN.out] at hEast
        have hQ0' : canTake W T ys f 1 = false → withN W T ys f 1 = 0 := fun h => by unfold withN; rw [h]; rfl
        obtain ⟨Q, hQ⟩ : ∃ Q, Q = withN W T ys f 1 := ⟨_, rfl⟩
        rw [← hQ] at hgo hwl hEast hQ0'
        have e1 : (f : Int) < n := by omega
        clear hQ hyf hR0 hcf
        go_wp2_with fail
        refine (sLayOne_ret _ _ _ _ _ xs _ _ _ M _ _ _ HN.out hn' HMLn.out hn' (HA.out.below BEL.out) (OwnsI.at HO.out)).mono ?_; rintro e w4 ⟨a4, cap4, rfl, ho4, hb4⟩
        have hla4 : layF W T xs M f 1 = (laidL W T xs M f 1, canLay W T xs M f 1) := HFL.out 1
        rw [hla4]
        rw [hla4] at ho4
        simp only [HLL.out 1] at ho4 ⊢
        have p4 := heap_later pr hb4
        have B4 := Lib.hid (below_seq BEL.out hb4)
        have M4 := Lib.hid (HO.out.below hb4)
        have X4 := Lib.hid (OwnsI.lower ho4 (show w.heap.size + 1 ≤ _ by omega))
        have l4 := heap_lt p4
        clear ho4 hb4 hla4
        clear c0 c1 c2
        obtain ⟨c0, c1, c2⟩ := cells3 p4
        cases hcl : canLay W T xs M f 1
        · have hQ0 : Q = 0 := hQ0' (by rw [← hcanE]; exact hcl)
          subst hQ0
          rw [if_pos (Nat.zero_le _)] at hgo
          have HGO := Lib.hid hgo; clear hgo
          have HGM : Hid ((tlS W T xs q (f + 1)).M = laidL W T xs M f 2) := by show _ = _; rw [HGO.out]
          clear hEast hcanE hQ0' hcl
          go_wp2_with fail
          refine (sLayOne_ret _ _ _ _ _ xs _ _ _ M _ _ _ HN.out hn' HMLn.out hn' (HA.out.below B4.out) (OwnsI.at M4.out)).mono ?_; rintro e w5 ⟨a5, cap5, rfl, ho5, hb5⟩
          have hla5 : layF W T xs M f 2 = (laidL W T xs M f 2, canLay W T xs M f 2) := HFL.out 2
          rw [hla5]
          rw [hla5] at ho5
          simp only [HLL.out 2] at ho5 ⊢
          have p5 := heap_later p4 hb5
          have B5 := Lib.hid (below_seq B4.out hb5)
          have M5 := Lib.hid (M4.out.below hb5)
          have X5 := Lib.hid (OwnsI.lower ho5 (show w.heap.size + 1 ≤ _ by omega))
          have l5 := heap_lt p5
          clear ho5 hb5 hla5
          clear c0 c1 c2
          obtain ⟨c0, c1, c2⟩ := cells3 p5
          go_wp2_with fail
          refine (l2First_any _ _ _ _ _ xs _ _ (laidL W T xs M f 2) _ HN.out (HLL.out 2).symm hn' (HA.out.below B5.out) (OwnsI.at X5.out)).mono ?_; rintro e w9 ⟨rfl, hb9⟩
          have p9 := heap_later p5 hb9
          have B9 := below_seq B5.out hb9
          have X9 := X5.out.below hb9
          go_wp2_with fail
          have hms := HMS.out 2 HGM.out
          refine ⟨⟨f + 1, by omega, ?_, by rw [HGO.out], by rw [HGO.out]; exact X9, p9, B9⟩, ?_⟩
          · first
              | (rw [HGO.out]; done)
              | (rw [HGO.out]; rfl)
              | (rw [HGO.out]
                 show Value.int _ _ = Value.int _ _
                 congr 1
                 show _ = ((r - 0 : Nat) : Int)
                 omega)
          · show mzJ n (.int .i64 (firstI xs (laidL W T xs M f 2) 0 n)) < mzJ n (.int .i64 (f : Int))
            rw [mzJ_nat]
            exact hms
        · have hE := hEast hcl
          have HE := Lib.hid hE; clear hEast hcanE hQ0' hcl hE
          go_wp2_with fail
          refine (l3With_any _ _ _ _ _ xs _ _ (laidL W T xs M f 1) _ HN.out (HLL.out 1).symm hp n36 (HA.out.below B4.out) (OwnsI.at X4.out)).mono ?_; rintro e w6 ⟨rfl, hb6⟩
          rw [HE.out]
          have p6 := heap_later p4 hb6
          have B6 := Lib.hid (below_seq B4.out hb6)
          have M6 := Lib.hid (M4.out.below hb6)
          have X6 := Lib.hid (X4.out.below hb6)
          have l6 := heap_lt p6
          clear c0 c1 c2 hb6
          obtain ⟨c0, c1, c2⟩ := cells3 p6
          by_cases hle : Q ≤ r
          · rw [if_pos hle] at hgo
            have HGO := Lib.hid hgo; clear hgo
            have HGM : Hid ((tlS W T xs q (f + 1)).M = laidL W T xs M f 2) := by show _ = _; rw [HGO.out]
            have e3 : (Q : Int) ≤ r := by omega
            go_wp2_with fail
            refine (sLayOne_ret _ _ _ _ _ xs _ _ _ M _ _ _ HN.out hn' HMLn.out hn' (HA.out.below B6.out) (OwnsI.at M6.out)).mono ?_; rintro e w5 ⟨a5, cap5, rfl, ho5, hb5⟩
            have hla5 : layF W T xs M f 2 = (laidL W T xs M f 2, canLay W T xs M f 2) := HFL.out 2
            rw [hla5]
            rw [hla5] at ho5
            simp only [HLL.out 2] at ho5 ⊢
            have p5 := heap_later p6 hb5
            have B5 := Lib.hid (below_seq B6.out hb5)
            have M5 := Lib.hid (M6.out.below hb5)
            have X5 := Lib.hid (OwnsI.lower ho5 (show w.heap.size + 1 ≤ _ by omega))
            have l5 := heap_lt p5
            clear ho5 hb5 hla5
            clear c0 c1 c2
            obtain ⟨c0, c1, c2⟩ := cells3 p5
            go_wp2_with fail
            refine (l2First_any _ _ _ _ _ xs _ _ (laidL W T xs M f 2) _ HN.out (HLL.out 2).symm hn' (HA.out.below B5.out) (OwnsI.at X5.out)).mono ?_; rintro e w9 ⟨rfl, hb9⟩
            have p9 := heap_later p5 hb9
            have B9 := below_seq B5.out hb9
            have X9 := X5.out.below hb9
            go_wp2_with fail
            have hms := HMS.out 2 HGM.out
            refine ⟨⟨f + 1, by omega, ?_, by rw [HGO.out], by rw [HGO.out]; exact X9, p9, B9⟩, ?_⟩
            · first
                | (rw [HGO.out]; done)
                | (rw [HGO.out]; rfl)
                | (rw [HGO.out]
                   show Value.int _ _ = Value.int _ _
                   congr 1
                   show _ = ((r - Q : Nat) : Int)
                   omega)
            · show mzJ n (.int .i64 (firstI xs (laidL W T xs M f 2) 0 n)) < mzJ n (.int .i64 (f : Int))
              rw [mzJ_nat]
              exact hms
          · rw [if_neg hle] at hgo
            have HGO := Lib.hid hgo; clear hgo
            have HGM : Hid ((tlS W T xs q (f + 1)).M = laidL W T xs M f 1) := by show _ = _; rw [HGO.out]
            have e3 : (r : Int) < Q := by omega
            go_wp2_with fail
            refine (l2First_any _ _ _ _ _ xs _ _ (laidL W T xs M f 1) _ HN.out (HLL.out 1).symm hn' (HA.out.below B6.out) (OwnsI.at X6.out)).mono ?_; rintro e w9 ⟨rfl, hb9⟩
            have p9 := heap_later p6 hb9
            have B9 := below_seq B6.out hb9
            have X9 := X6.out.below hb9
            go_wp2_with fail
            have hms := HMS.out 1 HGM.out
            refine ⟨⟨f + 1, by omega, ?_, by rw [HGO.out], by rw [HGO.out]; exact X9, p9, B9⟩, ?_⟩
            · first
                | (rw [HGO.out]; done)
                | (rw [HGO.out]; rfl)
                | (rw [HGO.out]
                   show Value.int _ _ = Value.int _ _
                   congr 1
                   show _ = (r : Int)
                   omega)
            · show mzJ n (.int .i64 (firstI xs (laidL W T xs M f 1) 0 n)) < mzJ n (.int .i64 (f : Int))
              rw [mzJ_nat]
              exact hms
  · have e : tilOf W T xs rank = ([], false) := by unfold tilOf; rw [if_neg h]
    rw [e]
    clear e
    by_cases hr : rv W T xs = true
    · have ht : tilT W T xs = (dpT W T xs : Int) := by unfold tilT; rw [if_pos hr]
      have n36 : xs.length ≤ 36 := by
        obtain ⟨hW0, hW1, hT0, hT1, v5, _⟩ := rv_true hr
        have h1 : W * T ≤ 6 * 6 := Int.mul_le_mul hW1 hT1 (by omega) (by omega)
        omega
      have hdl := dpT_le (W := W) (T := T) (xs := xs) n36
      have hin : inB rank 0 ((dpT W T xs : Int) - 1) = false := by
        unfold inB
        refine decide_eq_false (fun q => h ⟨hr, q.1, by omega⟩)
      obtain ⟨D, hD⟩ : ∃ D, D = dpT W T xs := ⟨_, rfl⟩
      rw [← hD] at ht hin hdl
      have HT := Lib.hid ht; clear ht hD h
      go_enter Try.func96, Try.ntmps96
      go_wp2_with fail
      refine (sRegionValid_any _ _ _ _ _ xs _ HN.out hn' (HA.out.one _)).mono ?_; rintro e w0 ⟨rfl, hb0⟩
      rw [hr]
      have p0 := heap_later (heap_new w _) hb0
      have b0 := below_seq (below1 _ _) hb0
      obtain ⟨c0, c1, c2⟩ := cells3 p0
      go_wp2_with fail
      refine (sTilingsMany_any _ _ _ _ _ xs _ HN.out hn' (HA.out.below b0)).mono ?_; rintro e w1 ⟨rfl, hb1⟩
      rw [HT.out]
      go_wp2_with fail
      refine (l1In_any _ _ _ _).mono ?_; rintro e w2 ⟨rfl, rfl⟩
      rw [hin]
      go_wp2
      go_ret2
      exact ⟨_, _, rfl, own_nil_lit _ (by have := b0.size; have := hb1.size; omega), below_seq (below_seq b0 hb1) (below1 _ _)⟩
    · rw [Bool.not_eq_true] at hr
      clear h
      go_enter Try.func96, Try.ntmps96
      go_wp2_with fail
      refine (sRegionValid_any _ _ _ _ _ xs _ HN.out hn' (HA.out.one _)).mono ?_; rintro e w0 ⟨rfl, hb0⟩
      rw [hr]
      have b0 := below_seq (below1 _ _) hb0
      go_wp2
      go_ret2
      exact ⟨_, _, rfl, own_nil_lit _ b0.size, below_seq b0 (below1 _ _)⟩

end Go.Proofs.Ytpcajacekmidbaa

namespace Go.Proofs.Ytpcajacekmidbaa
open Go.RowKit
set_option linter.unusedVariables false
set_option maxRecDepth 100000
set_option linter.unusedSimpArgs false

/-- What stands while the region is made. -/
structure TwoS (rb : Nat) (w : World) (N Pk : Nat) (wx : World) : Prop where
  p : ∃ (W T : Int) (a : Option Addr) (n c : Nat) (xs : List Bool), wx.heap[N]? = some (.cells #[.int .i64 W, .int .i64 T, .slice a n c] 25 (0, 0)) ∧ n = xs.length ∧ n ≤ 36 ∧ (0 ≤ W ∧ W ≤ 6 ∧ 0 ≤ T ∧ T ≤ 6) ∧ OwnsB wx (w.heap.size + 1) (.slice a n c) xs
  q : wx.heap[w.heap.size]? = some (.cells #[.int .i64 0, .int .i64 0, .slice none 0 0] 25 (0, 0))
  r : RD wx rb Pk
  g : w.grownBy wx (some rb)
  z : N + 1 ≤ wx.heap.size
  y : w.heap.size < N
/-- A list of the call's own. -/
def IsL (N : Nat) (v : Value) (wx : World) : Prop := ∃ (la : Option Addr) (m lcap : Nat) (L : List Int), v = .slice la m lcap ∧ m = L.length ∧ m ≤ 36 ∧ OwnsI wx (N + 1) v L
section
variable {rb N Pk : Nat} {w w1 w2 : World} {v : Value}
theorem TwoS.below (h : TwoS rb w N Pk w1) (lr : rb < w.heap.size) (hb : Below w1.heap.size w1 w2) : TwoS rb w N Pk w2 := by
  obtain ⟨W, T, a, n, c, xs, h1, h2, h3, h4, h5⟩ := h.p
  exact ⟨⟨W, T, a, n, c, xs, heap_later h1 hb, h2, h3, h4, h5.below hb⟩, heap_later h.q hb, h.r.below hb, grown_seq' h.g (grown_of_below' hb (some rb)), Nat.le_trans h.z hb.size, h.y⟩
theorem TwoS.pick {Pk' : Nat} (h : TwoS rb w N Pk w1) (lr : rb < w.heap.size) (hg : w1.grownBy w2 (some rb)) (hr : RD w2 rb Pk') : TwoS rb w N Pk' w2 := by
  have hy := h.y
  obtain ⟨W, T, a, n, c, xs, h1, h2, h3, h4, h5⟩ := h.p
  exact ⟨⟨W, T, a, n, c, xs, heap_grown h1 hg (by intro e; have := Option.some.inj e; omega), h2, h3, h4, OwnsB.keptBy h5 hg (fun k e => by have := Option.some.inj e; omega)⟩, heap_grown h.q hg (by intro e; have := Option.some.inj e; omega), hr, grown_seq' h.g hg, Nat.le_trans h.z hg.size, hy⟩
theorem TwoS.mono {Pk' : Nat} (h : TwoS rb w N Pk w1) (hP : Pk ≤ Pk') : TwoS rb w N Pk' w1 := ⟨h.p, h.q, h.r.mono hP, h.g, h.z, h.y⟩
/-- Another region is put in its place. -/
theorem TwoS.put (h : TwoS rb w N Pk w1) (lr : rb < w.heap.size) {W T : Int} {a : Option Addr} {n c B : Nat} {xs : List Bool} (hn : n = xs.length) (h36 : n ≤ 36) (hs : 0 ≤ W ∧ W ≤ 6 ∧ 0 ≤ T ∧ T ≤ 6) (ho : OwnsB w1 B (.slice a n c) xs) (hB : N < B) :
    TwoS rb w N Pk (((w1.setCell ⟨N, 0, none⟩ (.int .i64 W)).setCell ⟨N, 1, none⟩ (.int .i64 T)).setCell ⟨N, 2, none⟩ (.slice a n c)) := by
  have hy := h.y
  obtain ⟨_, _, _, _, _, _, h1, _⟩ := h.p
  exact ⟨⟨W, T, a, n, c, xs, set3_block h1, hn, h36, hs, (ho.set3 hB _ _ _).lower (by omega)⟩, heap_set3_other h.q (by omega) _ _ _, ((h.r.setFar (by omega) _).setFar (by omega) _).setFar (by omega) _, grown_far (grown_far (grown_far h.g (by omega) _) (by omega) _) (by omega) _, by simpa using h.z, hy⟩
theorem IsL.below (h : IsL N v w1) (hb : Below w1.heap.size w1 w2) : IsL N v w2 := by
  obtain ⟨la, m, lcap, L, h1, h2, h3, h4⟩ := h
  exact ⟨la, m, lcap, L, h1, h2, h3, h4.below hb⟩
theorem IsL.pick (h : IsL N v w1) (hr : rb < N) (hg : w1.grownBy w2 (some rb)) : IsL N v w2 := by
  obtain ⟨la, m, lcap, L, h1, h2, h3, h4⟩ := h
  exact ⟨la, m, lcap, L, h1, h2, h3, OwnsI.keptBy h4 hg (fun k e => by have := Option.some.inj e; omega)⟩
theorem IsL.set3 (h : IsL N v w1) {b : Nat} (hb : b ≤ N) (x y z : Value) : IsL N v (((w1.setCell ⟨b, 0, none⟩ x).setCell ⟨b, 1, none⟩ y).setCell ⟨b, 2, none⟩ z) := by
  obtain ⟨la, m, lcap, L, h1, h2, h3, h4⟩ := h
  exact ⟨la, m, lcap, L, h1, h2, h3, ((h4.setBelow (p := ⟨b, 0, none⟩) (by simp; omega) _).setBelow (p := ⟨b, 1, none⟩) (by simp; omega) _).setBelow (p := ⟨b, 2, none⟩) (by simp; omega) _⟩
end
theorem max_one (D : Int) (hD : -1 ≤ D) (h : D ≤ 100000000000) : ∃ E : Int, (if D < 1 then (1 : Int) else D) = E ∧ (if (1 : Int) < D then D else (1 : Int)) = E ∧ 1 ≤ E ∧ E ≤ 100000000000 := by
  by_cases hc : D < 1
  · exact ⟨1, if_pos hc, if_neg (by omega), by omega, by omega⟩
  · refine ⟨D, if_neg hc, ?_, by omega, h⟩
    by_cases h2 : (1 : Int) < D
    · exact if_pos h2
    · rw [if_neg h2]; omega
theorem tilT_bd {W T : Int} {xs : List Bool} (h : xs.length ≤ 36) : -1 ≤ tilT W T xs ∧ tilT W T xs ≤ 100000000000 := by
  unfold tilT
  split
  · have := dpT_le (W := W) (T := T) h
    omega
  · omega
theorem rem_small {E : Int} (hE : 1 ≤ E) (x : Nat) (hx : x < 256) : ∃ V : Int, (x : Int).tmod E = V ∧ (x : Int) % E = V ∧ IntKind.i64.wrap ((x : Int).tmod E) = V ∧ IntKind.i64.wrap ((x : Int) % E) = V ∧ IntKind.i64.wrap V = V ∧ 0 ≤ V ∧ V ≤ 255 := by
  have e1 : (x : Int).tmod E = (x : Int) % E := Int.tmod_eq_emod_of_nonneg (by omega)
  have h0 := Int.emod_nonneg (x : Int) (show E ≠ 0 by omega)
  have h1 : (x : Int) % E ≤ x := by
    rcases Int.lt_or_le (x : Int) E with h | h
    · rw [Int.emod_eq_of_lt (by omega) h]; exact Int.le_refl _
    · have := Int.emod_lt_of_pos (x : Int) (show 0 < E by omega); omega
  have hw : IntKind.i64.wrap ((x : Int) % E) = (x : Int) % E := IntWalk.i64_in _ (by omega)
  exact ⟨(x : Int) % E, e1, rfl, by rw [e1]; exact hw, hw, hw, h0, by omega⟩
end Go.Proofs.Ytpcajacekmidbaa

namespace Go.Proofs.Ytpcajacekmidbaa
open Go.RowKit
set_option linter.unusedVariables false
set_option maxRecDepth 100000
set_option linter.unusedSimpArgs false

def fourS : Obj := .cells #[.int .i64 2, .int .i64 4, .int .i64 4, .int .i64 5] 3 (0, 0)
def twoS : Obj := .cells #[.int .i64 2, .int .i64 3] 3 (0, 0)
structure BoxS (rb P : Nat) (w0 : World) (b0 b1 b2 b3 b4 b5 b6 b7 b8 b9 b10 b11 : Bool) (v9 v10 v11 v12 v13 v14 v15 v16 v17 v18 v19 : Value) (w : World) : Prop where
  rd : RD w rb (P + b2.toNat + b7.toNat)
  gr : w0.grownBy w (some rb)
  lt : w0.heap.size + 1 ≤ w.heap.size
  cur : b11 = false → w.heap[w0.heap.size]? = some (.cells #[.int .i64 0, .int .i64 0, .slice none 0 0] 25 (0, 0))
  f0 : b0 = true → ∃ g, w0.heap.size < g ∧ v9 = .slice (some ⟨g, 0, none⟩) 4 4 ∧ w.heap[g]? = some fourS
  f1 : b1 = true → v10 = .pointer (some ⟨rb, 0, none⟩)
  f2 : b2 = true → ∃ x : Nat, x < 4 ∧ v11 = .int .i64 x
  f3 : b3 = true → ∃ g x, w0.heap.size < g ∧ x < 4 ∧ v12 = .pointer (some ⟨g, x, none⟩) ∧ w.heap[g]? = some fourS
  f4 : b4 = true → ∃ p : Int, 0 ≤ p ∧ p ≤ 6 ∧ v13 = .int .i64 p
  f5 : b5 = true → ∃ g, w0.heap.size < g ∧ v14 = .slice (some ⟨g, 0, none⟩) 2 2 ∧ w.heap[g]? = some twoS
  f6 : b6 = true → v15 = .pointer (some ⟨rb, 0, none⟩)
  f7 : b7 = true → ∃ x : Nat, x < 2 ∧ v16 = .int .i64 x
  f8 : b8 = true → ∃ g x, w0.heap.size < g ∧ x < 2 ∧ v17 = .pointer (some ⟨g, x, none⟩) ∧ w.heap[g]? = some twoS
  f9 : b9 = true → ∃ p : Int, 0 ≤ p ∧ p ≤ 6 ∧ v18 = .int .i64 p
  f10 : b10 = true → BoxIn w0 w v19
  f11 : b11 = true → BoxAt w0 w
/-- Behind new blocks, or a reader's turn, what was known is known. -/
theorem BoxS.kept {rb P : Nat} {w0 w w' : World} {b0 b1 b2 b3 b4 b5 b6 b7 b8 b9 b10 b11 : Bool} {v9 v10 v11 v12 v13 v14 v15 v16 v17 v18 v19 : Value} {b2' b7' : Bool} {v11' v16' : Value}
    (h : BoxS rb P w0 b0 b1 b2 b3 b4 b5 b6 b7 b8 b9 b10 b11 v9 v10 v11 v12 v13 v14 v15 v16 v17 v18 v19 w) (lr : rb < w0.heap.size) (hg : w.grownBy w' (some rb)) (hr : RD w' rb (P + b2'.toNat + b7'.toNat))
    (f2 : b2' = true → ∃ x : Nat, x < 4 ∧ v11' = .int .i64 x) (f7 : b7' = true → ∃ x : Nat, x < 2 ∧ v16' = .int .i64 x) :
    BoxS rb P w0 b0 b1 b2' b3 b4 b5 b6 b7' b8 b9 b10 b11 v9 v10 v11' v12 v13 v14 v15 v16' v17 v18 v19 w' := by
  have k : ∀ g o, w0.heap.size ≤ g → w.heap[g]? = some o → w'.heap[g]? = some o := fun g o h1 h2 => heap_grown h2 hg (by intro e; have := Option.some.inj e; omega)
  refine ⟨hr, grown_seq' h.gr hg, Nat.le_trans h.lt hg.size, fun e => k _ _ (Nat.le_refl _) (h.cur e), fun e => ?_, h.f1, f2, fun e => ?_, h.f4, fun e => ?_, h.f6, f7, fun e => ?_, h.f9, fun e => (h.f10 e).kept lr hg, fun e => (h.f11 e).kept lr hg⟩
  · obtain ⟨g, h1, h2, h3⟩ := h.f0 e; exact ⟨g, h1, h2, k _ _ (by omega) h3⟩
  · obtain ⟨g, x, h1, h2, h3, h4⟩ := h.f3 e; exact ⟨g, x, h1, h2, h3, k _ _ (by omega) h4⟩
  · obtain ⟨g, h1, h2, h3⟩ := h.f5 e; exact ⟨g, h1, h2, k _ _ (by omega) h3⟩
  · obtain ⟨g, x, h1, h2, h3, h4⟩ := h.f8 e; exact ⟨g, x, h1, h2, h3, k _ _ (by omega) h4⟩
theorem storedS {rb P : Nat} {w0 w : World} {b0 b1 b2 b3 b4 b5 b6 b7 b8 b9 b10 b11 : Bool} {v9 v10 v11 v12 v13 v14 v15 v16 v17 v18 v19 : Value} {W T : Int} {a : Option Addr} {m c : Nat} {xs : List Bool}
    (h : BoxS rb P w0 b0 b1 b2 b3 b4 b5 b6 b7 b8 b9 b10 b11 v9 v10 v11 v12 v13 v14 v15 v16 v17 v18 v19 w) (lr : rb < w0.heap.size) (hcur : w.heap[w0.heap.size]? = some (.cells #[.int .i64 0, .int .i64 0, .slice none 0 0] 25 (0, 0)))
    (hm : m = xs.length) (h24 : m ≤ 24) (hbd : 0 ≤ W ∧ W ≤ 6 ∧ 0 ≤ T ∧ T ≤ 6) (ho : OwnsB w (w0.heap.size + 1) (.slice a m c) xs) :
    BoxS rb P w0 b0 b1 b2 b3 b4 b5 b6 b7 b8 b9 b10 true v9 v10 v11 v12 v13 v14 v15 v16 v17 v18 v19 (((w.setCell ⟨w0.heap.size, 0, none⟩ (.int .i64 W)).setCell ⟨w0.heap.size, 1, none⟩ (.int .i64 T)).setCell ⟨w0.heap.size, 2, none⟩ (.slice a m c)) := by
  have k : ∀ g o, w0.heap.size < g → w.heap[g]? = some o → (((w.setCell ⟨w0.heap.size, 0, none⟩ (.int .i64 W)).setCell ⟨w0.heap.size, 1, none⟩ (.int .i64 T)).setCell ⟨w0.heap.size, 2, none⟩ (.slice a m c)).heap[g]? = some o := fun g o h1 h2 => heap_set3_other h2 (by omega) _ _ _
  refine ⟨((h.rd.setFar lr _).setFar lr _).setFar lr _, grown_far (grown_far (grown_far h.gr (Nat.le_refl _) _) (Nat.le_refl _) _) (Nat.le_refl _) _, by simpa using h.lt, (fun e => nomatch e), fun e => ?_, h.f1, h.f2, fun e => ?_, h.f4, fun e => ?_, h.f6, h.f7, fun e => ?_, h.f9, fun e => ?_, fun _ => ⟨W, T, a, m, c, xs, set3_block hcur, hm, h24, hbd, ho.set3 (by omega) _ _ _⟩⟩
  · obtain ⟨g, h1, h2, h3⟩ := h.f0 e; exact ⟨g, h1, h2, k _ _ h1 h3⟩
  · obtain ⟨g, x, h1, h2, h3, h4⟩ := h.f3 e; exact ⟨g, x, h1, h2, h3, k _ _ h1 h4⟩
  · obtain ⟨g, h1, h2, h3⟩ := h.f5 e; exact ⟨g, h1, h2, k _ _ h1 h3⟩
  · obtain ⟨g, x, h1, h2, h3, h4⟩ := h.f8 e; exact ⟨g, x, h1, h2, h3, k _ _ h1 h4⟩
  · obtain ⟨W', T', a', m', c', xs', h1, h2, h3, h4, h5⟩ := h.f10 e
    exact ⟨W', T', a', m', c', xs', h1, h2, h3, h4, h5.set3 (by omega) _ _ _⟩
def IS (rb P : Nat) (w0 : World) (p1 p2 p3 p5 p6 p7 p8 p9 p10 p11 p12 p13 p14 p15 p16 p28 : Value) (d : Array Bool) (a : Act) (w : World) : Prop :=
  ∃ (b0 b1 b2 b3 b4 b5 b6 b7 b8 b9 b10 b11 : Bool) (v9 v10 v11 v12 v13 v14 v15 v16 v17 v18 v19 : Value), d = #[b0, b1, b2, b3, b4, b5, b6, b7, b8, b9, b10, b11] ∧
    a = { tmps := #[.pointer (some ⟨rb, 0, none⟩), p1, p2, p3, .pointer (some ⟨w0.heap.size, 0, none⟩), p5, p6, p7, p8, p9, p10, p11, p12, p13, p14, p15, p16, v9, v10, v11, v12, v13, v14, v15, v16, v17, v18, v19, p28], defers := [] } ∧
    BoxS rb P w0 b0 b1 b2 b3 b4 b5 b6 b7 b8 b9 b10 b11 v9 v10 v11 v12 v13 v14 v15 v16 v17 v18 v19 w
theorem fourS_at {w : World} {g x : Nat} (h : w.heap[g]? = some fourS) (hx : x < 4) : ∃ p : Int, 0 ≤ p ∧ p ≤ 6 ∧ w.cell? ⟨g, x, none⟩ = some (.int .i64 p) := by
  unfold fourS at h
  have hx4 : x = 0 ∨ x = 1 ∨ x = 2 ∨ x = 3 := by omega
  rcases hx4 with rfl | rfl | rfl | rfl
  · exact ⟨2, by omega, by omega, by simp [World.cell?, h]⟩
  · exact ⟨4, by omega, by omega, by simp [World.cell?, h]⟩
  · exact ⟨4, by omega, by omega, by simp [World.cell?, h]⟩
  · exact ⟨5, by omega, by omega, by simp [World.cell?, h]⟩
theorem twoS_at {w : World} {g x : Nat} (h : w.heap[g]? = some twoS) (hx : x < 2) : ∃ p : Int, 0 ≤ p ∧ p ≤ 6 ∧ w.cell? ⟨g, x, none⟩ = some (.int .i64 p) := by
  unfold twoS at h
  have hx4 : x = 0 ∨ x = 1 := by omega
  rcases hx4 with rfl | rfl
  · exact ⟨2, by omega, by omega, by simp [World.cell?, h]⟩
  · exact ⟨3, by omega, by omega, by simp [World.cell?, h]⟩

set_option maxHeartbeats 4000000 in
theorem l20Small_any (rb P : Nat) (t : Int) (w : World) (hn0 : 0 ≤ t) (hn1 : t ≤ 1000) (hP : P ≤ 8000) (h : RD w rb P) :
    Calls Try.prog 95 #[.pointer (some ⟨rb, 0, none⟩), .int .i64 t] w (DrawnT rb (P + 110) w) := by
  have lr := h.lt
  have H := Lib.hid h; clear h
  go_enter Try.func95, Try.ntmps95
  go_wp2_with fail
  refine (l20Some_any rb P t _ hn0 hn1 (by omega) (H.out.below (below1 _ _))).mono ?_; rintro e w2 ⟨W, T, a, n, c, xs, rfl, hm, h36, hs, o2, r2, g2⟩
  have q2 := heap_grown (heap_new w (.cells #[.int .i64 0, .int .i64 0, .slice none 0 0] 25)) g2 (by intro e; have := Option.some.inj e; omega)
  have G2 := Lib.hid (grown_seq' (World.grownBy_alloc w _ _) g2)
  have O2 := Lib.hid (show OwnsB w2 (w.heap.size + 1) (.slice a n c) xs from by simpa using o2)
  have R2 := Lib.hid r2
  have lq := heap_lt q2
  have HM := Lib.hid hm; clear hm
  clear o2 r2 g2 H
  obtain ⟨wB, hwB⟩ : ∃ wB, wB = w2.alloc (.cells #[.int .i64 W, .int .i64 T, .slice a n c] 25) := ⟨_, rfl⟩
  have pB : wB.heap[w2.heap.size]? = some (.cells #[.int .i64 W, .int .i64 T, .slice a n c] 25 (0, 0)) := by rw [hwB]; exact heap_new _ _
  have QB0 : wB.heap[w.heap.size]? = some (.cells #[.int .i64 0, .int .i64 0, .slice none 0 0] 25 (0, 0)) := by rw [hwB]; exact heap_later q2 (below1 _ _)
  have OB0 := Lib.hid (show OwnsB wB (w.heap.size + 1) (.slice a n c) xs by rw [hwB]; exact O2.out.alloc _)
  have RB0 := Lib.hid (show RD wB rb (P + 300) by rw [hwB]; exact R2.out.below (below1 _ _))
  have GB0 := Lib.hid (show w.grownBy wB (some rb) by rw [hwB]; exact grown_seq' G2.out (World.grownBy_alloc _ _ _))
  have zB : w2.heap.size < wB.heap.size := by rw [hwB]; simp
  obtain ⟨c0, c1, c2⟩ := cells3 pB
  clear q2 O2 R2 G2
  go_upto_region 2 with fail
  rw [← hwB]
  clear hwB
  go_wp2_with fail
  refine (sCellsMany_any _ _ _ _ _ xs _ HM.out (by omega) OB0.out.at).mono ?_; rintro e w3 ⟨rfl, hb3⟩
  have QB1 := heap_later QB0 hb3
  have p3 := heap_later pB hb3
  have OB1 := Lib.hid (OB0.out.below hb3)
  have RB1 := Lib.hid (RB0.out.below hb3)
  have GB1 := Lib.hid (grown_seq' GB0.out (grown_of_below' hb3 (some rb)))
  have z3 : w2.heap.size < w3.heap.size := Nat.lt_of_lt_of_le zB hb3.size
  clear hb3 OB0 RB0 GB0 QB0 pB c0 c1 c2
  obtain ⟨M, hM⟩ : ∃ M, many W T xs = M := ⟨_, rfl⟩
  rw [hM]
  clear hM
  by_cases hM16 : (16 : Int) < M
  · go_wp2_with fail
    refine (pick_any rb _ 12 _ (by omega) (by omega) (by omega) RB1.out).mono ?_; rintro e w4 ⟨y, hy, rfl, r4, g4⟩
    have QB := heap_grown QB1 g4 (by intro e; have := Option.some.inj e; omega)
    have p4 := heap_grown p3 g4 (by intro e; have := Option.some.inj e; omega)
    have OB := Lib.hid (OwnsB.keptBy OB1.out g4 (fun k e => by have := Option.some.inj e; omega))
    have RB := Lib.hid r4
    have GB := Lib.hid (grown_seq' GB1.out g4)
    have z4 : w2.heap.size < w4.heap.size := Nat.lt_of_lt_of_le z3 g4.size
    clear r4 g4 OB1 RB1 GB1 QB1 p3
    by_cases hy0 : y = 0
    · subst hy0
      obtain ⟨c0, c1, c2⟩ := cells3 p4
      obtain ⟨d0, d1, d2⟩ := cells3 QB
      have f0 := free3 QB 0
      have f1 := free3 QB 1
      have f2 := free3 QB 2
      go_wp2
      refine bodyPost_ret (v := .agg #[.int .i64 W, .int .i64 T, .slice a n c]) (by simp [results, Try.results95, go_sem, d0, d1, d2]) rfl ?_
      exact ⟨W, T, a, n, c, xs, rfl, HM.out, h36, hs, (OB.out.set3 (by omega) _ _ _).lower (by omega), (((RB.out.setFar lr _).setFar lr _).setFar lr _).mono (by omega), grown_far (grown_far (grown_far GB.out (Nat.le_refl _) _) (Nat.le_refl _) _) (Nat.le_refl _) _⟩
    · have hyp : 0 < y := by omega
      go_wp2
      refine cut_region (fun a0 a' w' => ∃ (v9 v10 v11 v12 v13 v14 v15 v16 v17 v18 v19 : Value), a' = { tmps := #[.pointer (some ⟨rb, 0, none⟩), .int .i64 t, undef, undef, .pointer (some ⟨w.heap.size, 0, none⟩), .pointer (some ⟨w2.heap.size, 0, none⟩), .pointer (some ⟨rb, 0, none⟩), .int .i64 t, .agg #[.int .i64 W, .int .i64 T, .slice a n c], .agg #[.int .i64 W, .int .i64 T, .slice a n c], .int .i64 M, .bool true, .bool true, .pointer (some ⟨rb, 0, none⟩), .int .i64 y, .bool true, .bool true, v9, v10, v11, v12, v13, v14, v15, v16, v17, v18, v19, undef], defers := [] } ∧ BoxAt w w' ∧ RD w' rb (P + 301 + 2) ∧ w.grownBy w' (some rb)) ?_ ?_
      · refine wp_region_inv (IS rb (P + 301) w (.int .i64 t) undef undef (.pointer (some ⟨w2.heap.size, 0, none⟩)) (.pointer (some ⟨rb, 0, none⟩)) (.int .i64 t) (.agg #[.int .i64 W, .int .i64 T, .slice a n c]) (.agg #[.int .i64 W, .int .i64 T, .slice a n c]) (.int .i64 M) (.bool true) (.bool true) (.pointer (some ⟨rb, 0, none⟩)) (.int .i64 y) (.bool true) (.bool true) undef) (by kernel_rfl) (by kernel_rfl) ?_ ?_ ?_ ?_
        · rintro d a w' ⟨b0, b1, b2, b3, b4, b5, b6, b7, b8, b9, b10, b11, v9, v10, v11, v12, v13, v14, v15, v16, v17, v18, v19, rfl, -, -⟩
          exact Nat.le_refl _
        · refine ⟨false, false, false, false, false, false, false, false, false, false, false, false, undef, undef, undef, undef, undef, undef, undef, undef, undef, undef, undef, rfl, rfl, ?_⟩
          exact ⟨RB.out, grown_seq' GB.out (grown_drewN w4 1 _), by show w.heap.size + 1 ≤ w4.heap.size; omega, fun _ => QB, (fun e => nomatch e), (fun e => nomatch e), (fun e => nomatch e), (fun e => nomatch e), (fun e => nomatch e), (fun e => nomatch e), (fun e => nomatch e), (fun e => nomatch e), (fun e => nomatch e), (fun e => nomatch e), (fun e => nomatch e), (fun e => nomatch e)⟩
        · clear QB p4 OB RB GB
          rintro d a w' i ⟨b0, b1, b2, b3, b4, b5, b6, b7, b8, b9, b10, b11, v9, v10, v11, v12, v13, v14, v15, v16, v17, v18, v19, rfl, rfl, hB⟩ hi
          have hlt : i < 12 := ready_lt hi
          have hun := ready_undone hi
          have hc : i = 0 ∨ i = 1 ∨ i = 2 ∨ i = 3 ∨ i = 4 ∨ i = 5 ∨ i = 6 ∨ i = 7 ∨ i = 8 ∨ i = 9 ∨ i = 10 ∨ i = 11 := by omega
          clear hlt
          rcases hc with rfl | rfl | rfl | rfl | rfl | rfl | rfl | rfl | rfl | rfl | rfl | rfl
          · have e0 : b0 = false := hun
            subst e0
            clear hun hi
            have hk := fun o => BoxS.kept hB lr (World.grownBy_alloc w' o (some rb)) (hB.rd.below (below1 w' o)) hB.f2 hB.f7
            refine wpOp_go rfl rfl (fun K hK => ?_)
            go_simp
            refine hK.out _ _ ⟨true, _, _, _, _, _, _, _, _, _, _, _, _, _, _, _, _, _, _, _, _, _, _, rfl, rfl, ?_⟩
            exact { (hk _) with f0 := fun _ => ⟨w'.heap.size, by have := hB.lt; omega, rfl, heap_new _ _⟩ }
          · have e1 : b1 = false := hun
            subst e1
            clear hun hi
            refine wpOp_go rfl rfl (fun K hK => ?_)
            go_simp
            refine hK.out _ _ ⟨_, true, _, _, _, _, _, _, _, _, _, _, _, _, _, _, _, _, _, _, _, _, _, rfl, rfl, ?_⟩
            exact { hB with f1 := fun _ => rfl }
          · have e2 : b2 = false := hun
            subst e2
            have e1 : b1 = true := ready_dep 1 hi (by kernel_rfl)
            subst e1
            clear hun hi
            obtain rfl := hB.f1 rfl
            refine wpOp_go rfl rfl (fun K hK => ?_)
            go_simp
            refine (pick_any rb _ 4 _ (by omega) (by omega) (show P + 301 + _ + _ ≤ 100000 from by cases b7 <;> simp <;> omega) hB.rd).mono ?_; rintro e w2 ⟨x, hx, rfl, r2, g2⟩
            refine hK.out _ _ ⟨_, _, true, _, _, _, _, _, _, _, _, _, _, _, _, _, _, _, _, _, _, _, _, rfl, rfl, ?_⟩
            exact BoxS.kept hB lr g2 (r2.mono (by cases b7 <;> simp)) (fun _ => ⟨x, hx, rfl⟩) hB.f7
          · have e3 : b3 = false := hun
            subst e3
            have e0 : b0 = true := ready_dep 0 hi (by kernel_rfl)
            subst e0
            have e2 : b2 = true := ready_dep 2 hi (by kernel_rfl)
            subst e2
            clear hun hi
            obtain ⟨g, hg, rfl, hh⟩ := hB.f0 rfl
            obtain ⟨x, hx, rfl⟩ := hB.f2 rfl
            have hxi : (x : Int) < 4 := by omega
            refine wpOp_go rfl rfl (fun K hK => ?_)
            go_simp
            refine hK.out _ _ ⟨_, _, _, true, _, _, _, _, _, _, _, _, _, _, _, _, _, _, _, _, _, _, _, rfl, rfl, ?_⟩
            exact { hB with f3 := fun _ => ⟨g, x, hg, hx, rfl, hh⟩ }
          · have e4 : b4 = false := hun
            subst e4
            have e3 : b3 = true := ready_dep 3 hi (by kernel_rfl)
            subst e3
            clear hun hi
            obtain ⟨g, x, hg, hx, rfl, hh⟩ := hB.f3 rfl
            obtain ⟨p, hp0, hp1, hpc⟩ := fourS_at hh hx
            refine wpOp_go rfl rfl (fun K hK => ?_)
            go_simp
            refine hK.out _ _ ⟨_, _, _, _, true, _, _, _, _, _, _, _, _, _, _, _, _, _, _, _, _, _, _, rfl, rfl, ?_⟩
            exact { hB with f4 := fun _ => ⟨p, hp0, hp1, rfl⟩ }
          · have e5 : b5 = false := hun
            subst e5
            clear hun hi
            have hk := fun o => BoxS.kept hB lr (World.grownBy_alloc w' o (some rb)) (hB.rd.below (below1 w' o)) hB.f2 hB.f7
            refine wpOp_go rfl rfl (fun K hK => ?_)
            go_simp
            refine hK.out _ _ ⟨_, _, _, _, _, true, _, _, _, _, _, _, _, _, _, _, _, _, _, _, _, _, _, rfl, rfl, ?_⟩
            exact { (hk _) with f5 := fun _ => ⟨w'.heap.size, by have := hB.lt; omega, rfl, heap_new _ _⟩ }
          · have e6 : b6 = false := hun
            subst e6
            clear hun hi
            refine wpOp_go rfl rfl (fun K hK => ?_)
            go_simp
            refine hK.out _ _ ⟨_, _, _, _, _, _, true, _, _, _, _, _, _, _, _, _, _, _, _, _, _, _, _, rfl, rfl, ?_⟩
            exact { hB with f6 := fun _ => rfl }
          · have e7 : b7 = false := hun
            subst e7
            have e6 : b6 = true := ready_dep 6 hi (by kernel_rfl)
            subst e6
            clear hun hi
            obtain rfl := hB.f6 rfl
            refine wpOp_go rfl rfl (fun K hK => ?_)
            go_simp
            refine (pick_any rb _ 2 _ (by omega) (by omega) (show P + 301 + _ + _ ≤ 100000 from by cases b2 <;> simp <;> omega) hB.rd).mono ?_; rintro e w2 ⟨x, hx, rfl, r2, g2⟩
            refine hK.out _ _ ⟨_, _, _, _, _, _, _, true, _, _, _, _, _, _, _, _, _, _, _, _, _, _, _, rfl, rfl, ?_⟩
            exact BoxS.kept hB lr g2 (r2.mono (by cases b2 <;> simp)) hB.f2 (fun _ => ⟨x, hx, rfl⟩)
          · have e8 : b8 = false := hun
            subst e8
            have e5 : b5 = true := ready_dep 5 hi (by kernel_rfl)
            subst e5
            have e7 : b7 = true := ready_dep 7 hi (by kernel_rfl)
            subst e7
            clear hun hi
            obtain ⟨g, hg, rfl, hh⟩ := hB.f5 rfl
            obtain ⟨x, hx, rfl⟩ := hB.f7 rfl
            have hxi : (x : Int) < 2 := by omega
            refine wpOp_go rfl rfl (fun K hK => ?_)
            go_simp
            refine hK.out _ _ ⟨_, _, _, _, _, _, _, _, true, _, _, _, _, _, _, _, _, _, _, _, _, _, _, rfl, rfl, ?_⟩
            exact { hB with f8 := fun _ => ⟨g, x, hg, hx, rfl, hh⟩ }
          · have e9 : b9 = false := hun
            subst e9
            have e8 : b8 = true := ready_dep 8 hi (by kernel_rfl)
            subst e8
            clear hun hi
            obtain ⟨g, x, hg, hx, rfl, hh⟩ := hB.f8 rfl
            obtain ⟨p, hp0, hp1, hpc⟩ := twoS_at hh hx
            refine wpOp_go rfl rfl (fun K hK => ?_)
            go_simp
            refine hK.out _ _ ⟨_, _, _, _, _, _, _, _, _, true, _, _, _, _, _, _, _, _, _, _, _, _, _, rfl, rfl, ?_⟩
            exact { hB with f9 := fun _ => ⟨p, hp0, hp1, rfl⟩ }
          · have e10 : b10 = false := hun
            subst e10
            have e4 : b4 = true := ready_dep 4 hi (by kernel_rfl)
            subst e4
            have e9 : b9 = true := ready_dep 9 hi (by kernel_rfl)
            subst e9
            clear hun hi
            obtain ⟨p, hp0, hp1, rfl⟩ := hB.f4 rfl
            obtain ⟨q, hq0, hq1, rfl⟩ := hB.f9 rfl
            refine wpOp_go rfl rfl (fun K hK => ?_)
            go_simp
            refine (sRegionBox_ret p q _).mono ?_; rintro e w2 ⟨a, cap, rfl, ho, hb2⟩
            refine hK.out _ _ ⟨_, _, _, _, _, _, _, _, _, _, true, _, _, _, _, _, _, _, _, _, _, _, _, rfl, rfl, ?_⟩
            have hbd := boxF_bd p q
            exact { (BoxS.kept hB lr (grown_of_below' hb2 (some rb)) (hB.rd.below hb2) hB.f2 hB.f7) with f10 := fun _ => ⟨_, _, a, _, cap, _, rfl, rfl, boxF_len p q, ⟨hbd.1, hbd.2.1, hbd.2.2.1, hbd.2.2.2⟩, ho.lower hB.lt⟩ }
          · have e11 : b11 = false := hun
            subst e11
            have e10 : b10 = true := ready_dep 10 hi (by kernel_rfl)
            subst e10
            clear hun hi
            obtain ⟨W, T, a, m, c, xs, rfl, hm, h24, hbd, ho⟩ := hB.f10 rfl
            have HM := Lib.hid hm; clear hm
            have hcur := hB.cur rfl
            obtain ⟨d0, d1, d2⟩ := cells3 hcur
            have z0 := free3 hcur 0
            have z1 := free3 hcur 1
            have z2 := free3 hcur 2
            refine wpOp_go rfl rfl (fun K hK => ?_)
            go_simp
            refine hK.out _ _ ⟨_, _, _, _, _, _, _, _, _, _, _, true, _, _, _, _, _, _, _, _, _, _, _, rfl, rfl, ?_⟩
            exact storedS hB lr hcur HM.out h24 hbd ho
        · rintro d a w' ⟨b0, b1, b2, b3, b4, b5, b6, b7, b8, b9, b10, b11, v9, v10, v11, v12, v13, v14, v15, v16, v17, v18, v19, rfl, rfl, hB⟩ hall
          have e11 : b11 = true := hall 11 (by decide)
          refine ⟨rfl, v9, v10, v11, v12, v13, v14, v15, v16, v17, v18, v19, rfl, hB.f11 e11, hB.rd.mono (by cases b2 <;> cases b7 <;> simp), hB.gr⟩
      · rintro a' w5 ⟨v9, v10, v11, v12, v13, v14, v15, v16, v17, v18, v19, rfl, ⟨W5, T5, a5, m5, c5, xs5, hc5, hm5, h245, hbd5, ho5⟩, r5, g5⟩
        have HM5 := Lib.hid hm5; clear hm5
        have HO5 := Lib.hid ho5; clear ho5
        obtain ⟨d0, d1, d2⟩ := cells3 hc5
        go_wp2
        refine bodyPost_ret (v := .agg #[.int .i64 W5, .int .i64 T5, .slice a5 m5 c5]) (by simp [results, Try.results95, go_sem, d0, d1, d2]) rfl ?_
        exact ⟨W5, T5, a5, m5, c5, xs5, rfl, HM5.out, by omega, hbd5, HO5.out.lower (by omega), r5.mono (by omega), g5⟩
  · have QB := QB1
    have OB := OB1
    have RB := RB1
    have GB := GB1
    obtain ⟨c0, c1, c2⟩ := cells3 p3
    obtain ⟨d0, d1, d2⟩ := cells3 QB
    have f0 := free3 QB 0
    have f1 := free3 QB 1
    have f2 := free3 QB 2
    go_wp2
    refine bodyPost_ret (v := .agg #[.int .i64 W, .int .i64 T, .slice a n c]) (by simp [results, Try.results95, go_sem, d0, d1, d2]) rfl ?_
    exact ⟨W, T, a, n, c, xs, rfl, HM.out, h36, hs, (OB.out.set3 (by omega) _ _ _).lower (by omega), (((RB.out.setFar lr _).setFar lr _).setFar lr _).mono (by omega), grown_far (grown_far (grown_far GB.out (Nat.le_refl _) _) (Nat.le_refl _) _) (Nat.le_refl _) _⟩

end Go.Proofs.Ytpcajacekmidbaa

namespace Go.Proofs.Ytpcajacekmidbaa
open Go.RowKit
set_option linter.unusedVariables false
set_option maxRecDepth 100000
set_option linter.unusedSimpArgs false

theorem RowI.lower {w : World} {B B' g N cap : Nat} {f : Nat → Int} (h : RowI w B g N cap f) (hB : B' ≤ B) : RowI w B' g N cap f :=
  ⟨h.1, h.2.elim Or.inl (fun ⟨g, cap, cur, hv, hg, r⟩ => Or.inr ⟨g, cap, cur, hv, Nat.le_trans hB hg, r⟩)⟩

end Go.Proofs.Ytpcajacekmidbaa
