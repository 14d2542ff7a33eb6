/- Plain facts on the tiling of a rank, and the contract of impl.TilingOf; no statement is proved here. -/
import Derived.Test.YthpifnjoiklgnaaGreatKDpC
namespace Go.Proofs.YthpifnjoiklgnaaGreat
open Go.RowKit
set_option linter.unusedVariables false
set_option maxRecDepth 100000
set_option linter.unusedSimpArgs false

structure R0 (W T : Int) (xs : List Bool) (c : Nat) (M : List Int) (ys : List Bool) : Prop where
 ly : ys.length = xs.length
 lm : M.length = xs.length
 ok : lok W T xs M = true
 free : ∀ j, j < xs.length → freeB xs M j = ys.getD j false
 done : ∀ j, j < c → ys.getD j false = false

theorem R0.start {W T : Int} {xs : List Bool} (hr : rv W T xs = true) : R0 W T xs 0 (List.replicate xs.length 0) xs := by
 have hz : ∀ k : Nat, (List.replicate xs.length (0 : Int)).getD k 0 = 0 := by
  intro k
  rw [List.getD_eq_getElem?_getD]
  rcases Nat.lt_or_ge k xs.length with h' | h'
  · rw [List.getElem?_replicate_of_lt h']; rfl
  · rw [List.getElem?_eq_none (by simpa using h')]; rfl
 refine ⟨rfl, by simp, ?_, ?_, fun j hj => absurd hj (Nat.not_lt_zero _)⟩
 · unfold lok goodN
   rw [hr]
   simp only [List.length_replicate, BEq.rfl, Bool.true_and, List.all_eq_true]
   intro k _
   unfold goodB
   rw [hz]
   rfl
 · intro j _
   unfold freeB
   rw [hz]
   simp

theorem R0.skip {W T : Int} {xs : List Bool} {M : List Int} {c : Nat} {ys : List Bool} (h : R0 W T xs c M ys) (hc : ys.getD c false = false) : R0 W T xs (c + 1) M ys :=
 ⟨h.ly, h.lm, h.ok, h.free, fun j hj => by
  by_cases e : j = c
  · rw [e]; exact hc
  · exact h.done j (by omega)⟩

theorem R0.can {W T : Int} {xs : List Bool} {M : List Int} {c c' : Nat} {ys : List Bool} (h : R0 W T xs c' M ys) (hc : c < xs.length) (way : Int) : canLay W T xs M c way = canTake W T ys c way := by
 obtain ⟨hr, _, _⟩ := lok_rv h.ok
 obtain ⟨v1, v2, v3, v4, v5, _⟩ := rv_true hr
 unfold canLay canTake
 rw [h.ly]
 by_cases h0 : 0 ≤ cellB W T xs.length c way
 · have hbd := cellB_bd (W := W) (T := T) (n := xs.length) (k := (c : Int)) (way := way) v1 v5 h0
   simp only [Int.toNat_natCast]
   rw [h.free c hc, h.free _ (by omega), Bool.and_assoc]
 · rw [decide_eq_false h0]; rfl

theorem R0.step {W T : Int} {xs : List Bool} {M : List Int} {c : Nat} {ys : List Bool} {way : Int} (h : R0 W T xs c M ys) (hc : c < xs.length) (hw : 1 ≤ way ∧ way ≤ 4) (hcan : canTake W T ys c way = true) :
 R0 W T xs (c + 1) (laidL W T xs M c way) (takeB W T ys c way) := by
 obtain ⟨hr, _, _⟩ := lok_rv h.ok
 obtain ⟨v1, v2, v3, v4, v5, _⟩ := rv_true hr
 have hlay : canLay W T xs M c way = true := by rw [h.can hc]; exact hcan
 have hcan' := hcan
 unfold canTake at hcan'
 rw [h.ly, Bool.and_eq_true, Bool.and_eq_true, decide_eq_true_eq] at hcan'
 obtain ⟨h0, hyc, hyo⟩ := hcan'
 have hbd := cellB_bd (W := W) (T := T) (n := xs.length) (k := (c : Int)) (way := way) v1 v5 h0
 obtain ⟨o, hcell⟩ : ∃ o : Nat, cellB W T xs.length c way = o := ⟨(cellB W T xs.length c way).toNat, by omega⟩
 rw [hcell] at hbd hyo
 rw [Int.toNat_natCast] at hyc hyo
 have hs : stepI W T c way = o := by have := hcell; unfold cellB at this; rw [if_pos (by omega)] at this; exact this
 have ho : o < xs.length := by omega
 have hne : o ≠ c := by omega
 have hfc : freeB xs M c = true := by rw [h.free c hc]; exact hyc
 have hfo : freeB xs M o = true := by rw [h.free o ho]; exact hyo
 have hback := rk_back (W := W) (T := T) (k := (c : Int)) (way := way) v1 v2 (by omega) (by omega) (by omega) (by rw [hs]; omega)
 rw [hs] at hback
 have e1 : takeB W T ys c way = lessB ys [c, o] := by unfold takeB; rw [hcan, h.ly, hcell]; simp
 have e2 : laidL W T xs M c way = (M.set c way).set o (backI way) := by unfold laidL; rw [hlay, hcell]; simp
 rw [e1, e2]
 have hgd : ∀ j : Nat, ((M.set c way).set o (backI way)).getD j 0 = if j = o then backI way else if j = c then way else M.getD j 0 := fun j => getD_set2 (by rw [h.lm]; exact hc) (by rw [h.lm]; exact ho)
 have hlg : ∀ j, j < xs.length → (lessB ys [c, o]).getD j false = (ys.getD j false && !(decide (j = c) || decide (j = o))) := by
  intro j hj
  rw [lessB_get _ (by rw [h.ly]; exact hj)]
  by_cases a1 : j = c
  · subst a1; simp
  · by_cases a2 : j = o
    · subst a2; simp
    · simp [a1, a2]
 refine ⟨by rw [lessB_len, h.ly], by simp [h.lm], lok_lay h.ok hc ho hne hfc hfo hw hs hback, ?_, ?_⟩
 · intro j hj
   rw [hlg j hj, ← h.free j hj]
   unfold freeB
   rw [hgd j]
   by_cases a2 : j = o
   · subst a2
     have := back_nz (way := way) (by omega)
     simp [-List.getD_eq_getElem?_getD, this]
   · by_cases a1 : j = c
     · subst a1
       have : way ≠ 0 := by omega
       simp [-List.getD_eq_getElem?_getD, a2, this]
     · simp [-List.getD_eq_getElem?_getD, a1, a2]
 · intro j hj
   by_cases a1 : j = c
   · subst a1; rw [hlg j hc]; simp
   · rw [hlg j (by omega), h.done j (by omega)]; rfl

theorem R0.count {W T : Int} {xs : List Bool} {M : List Int} {c : Nat} {ys : List Bool} (h : R0 W T xs c M ys) (hc : c < xs.length) (way : Int) (hw : 1 ≤ way ∧ way ≤ 4) (hlay : canLay W T xs M c way = true) :
 tilT W T (lessB xs (covN (laidL W T xs M c way) xs.length)) = (withN W T ys c way : Int) := by
 have hcan : canTake W T ys c way = true := by rw [← h.can hc]; exact hlay
 obtain ⟨hr, _, _⟩ := lok_rv h.ok
 obtain ⟨v1, v2, v3, v4, v5, _⟩ := rv_true hr
 have h0 : 0 ≤ cellB W T xs.length c way := by unfold canLay at hlay; simp only [Bool.and_eq_true, decide_eq_true_eq] at hlay; exact hlay.1.1
 have hbd := cellB_bd (W := W) (T := T) (n := xs.length) (k := (c : Int)) (way := way) v1 v5 h0
 obtain ⟨o, ho⟩ : ∃ o : Nat, cellB W T xs.length c way = o := ⟨(cellB W T xs.length c way).toNat, by omega⟩
 rw [ho] at hbd
 have e2 : laidL W T xs M c way = (M.set c way).set o (backI way) := by unfold laidL; rw [hlay, ho]; simp
 have e3 : withN W T ys c way = dpT W T (lessB ys [c, o]) := by unfold withN; rw [hcan, h.ly, ho]; simp
 have hgd : ∀ j : Nat, ((M.set c way).set o (backI way)).getD j 0 = if j = o then backI way else if j = c then way else M.getD j 0 := fun j => getD_set2 (by rw [h.lm]; exact hc) (by rw [h.lm]; omega)
 have hbn := back_nz (way := way) (by omega)
 have e4 : lessB xs (covN ((M.set c way).set o (backI way)) xs.length) = lessB ys [c, o] := by
  unfold lessB
  rw [h.ly]
  refine tab_congr (fun j hj => ?_)
  unfold lessF
  rw [← h.free j hj]
  unfold freeB
  have hm := covN_mem (M := (M.set c way).set o (backI way)) (j := j) xs.length
  rw [hgd j] at hm
  rw [Bool.eq_iff_iff]
  simp only [Bool.and_eq_true, Bool.not_eq_true', List.contains_eq_mem, decide_eq_false_iff_not, hm, List.mem_cons, List.not_mem_nil, or_false, beq_iff_eq]
  by_cases a2 : j = o
  · subst a2; simp [-List.getD_eq_getElem?_getD, hbn]; omega
  · by_cases a1 : j = c
    · subst a1; simp [-List.getD_eq_getElem?_getD, a2]; omega
    · simp [-List.getD_eq_getElem?_getD, a1, a2, hj]
 unfold tilT
 rw [if_pos (rv_less hr), e2, e4, e3]

structure TS where
 ys : List Bool
 M : List Int
 q : Nat
def tlS (W T : Int) (xs : List Bool) (rank : Nat) : Nat → TS
 | 0 => ⟨xs, List.replicate xs.length 0, rank⟩
 | k + 1 =>
   if (tlS W T xs rank k).ys.getD k false = true then
    (if withN W T (tlS W T xs rank k).ys k 1 ≤ (tlS W T xs rank k).q then ⟨takeB W T (tlS W T xs rank k).ys k 2, laidL W T xs (tlS W T xs rank k).M k 2, (tlS W T xs rank k).q - withN W T (tlS W T xs rank k).ys k 1⟩
     else ⟨takeB W T (tlS W T xs rank k).ys k 1, laidL W T xs (tlS W T xs rank k).M k 1, (tlS W T xs rank k).q⟩)
   else tlS W T xs rank k
theorem tlS_skip {W T : Int} {xs : List Bool} {rank k : Nat} (h : (tlS W T xs rank k).ys.getD k false = false) : tlS W T xs rank (k + 1) = tlS W T xs rank k := by
 have e : tlS W T xs rank (k + 1) = if (tlS W T xs rank k).ys.getD k false = true then
  (if withN W T (tlS W T xs rank k).ys k 1 ≤ (tlS W T xs rank k).q then ⟨takeB W T (tlS W T xs rank k).ys k 2, laidL W T xs (tlS W T xs rank k).M k 2, (tlS W T xs rank k).q - withN W T (tlS W T xs rank k).ys k 1⟩
   else ⟨takeB W T (tlS W T xs rank k).ys k 1, laidL W T xs (tlS W T xs rank k).M k 1, (tlS W T xs rank k).q⟩)
  else tlS W T xs rank k := rfl
 rw [e, if_neg (by rw [h]; simp)]
theorem tlS_go {W T : Int} {xs : List Bool} {rank k : Nat} (h : (tlS W T xs rank k).ys.getD k false = true) : tlS W T xs rank (k + 1) =
 (if withN W T (tlS W T xs rank k).ys k 1 ≤ (tlS W T xs rank k).q then ⟨takeB W T (tlS W T xs rank k).ys k 2, laidL W T xs (tlS W T xs rank k).M k 2, (tlS W T xs rank k).q - withN W T (tlS W T xs rank k).ys k 1⟩
  else ⟨takeB W T (tlS W T xs rank k).ys k 1, laidL W T xs (tlS W T xs rank k).M k 1, (tlS W T xs rank k).q⟩) := by
 have e : tlS W T xs rank (k + 1) = if (tlS W T xs rank k).ys.getD k false = true then
  (if withN W T (tlS W T xs rank k).ys k 1 ≤ (tlS W T xs rank k).q then ⟨takeB W T (tlS W T xs rank k).ys k 2, laidL W T xs (tlS W T xs rank k).M k 2, (tlS W T xs rank k).q - withN W T (tlS W T xs rank k).ys k 1⟩
   else ⟨takeB W T (tlS W T xs rank k).ys k 1, laidL W T xs (tlS W T xs rank k).M k 1, (tlS W T xs rank k).q⟩)
  else tlS W T xs rank k := rfl
 rw [e, if_pos h]
theorem tlS_len {W T : Int} {xs : List Bool} {rank : Nat} : ∀ k, (tlS W T xs rank k).ys.length = xs.length ∧ (tlS W T xs rank k).M.length = xs.length
 | 0 => ⟨rfl, by show (List.replicate xs.length (0 : Int)).length = _; simp⟩
 | k + 1 => by
   obtain ⟨h1, h2⟩ := tlS_len (W := W) (T := T) (xs := xs) (rank := rank) k
   cases h : (tlS W T xs rank k).ys.getD k false
   · rw [tlS_skip h]; exact ⟨h1, h2⟩
   · rw [tlS_go h]
     split
     · exact ⟨by rw [takeB_len]; exact h1, by rw [laidL_len]; exact h2⟩
     · exact ⟨by rw [takeB_len]; exact h1, by rw [laidL_len]; exact h2⟩

theorem with_pos {W T : Int} {ys : List Bool} {k : Nat} {way : Int} {q : Nat} (h : q < withN W T ys k way) : canTake W T ys k way = true ∧ dpT W T (takeB W T ys k way) = withN W T ys k way := by
 have hc : canTake W T ys k way = true := by
  cases hc : canTake W T ys k way
  · unfold withN at h; rw [hc] at h; simp at h
  · rfl
 refine ⟨hc, ?_⟩
 unfold takeB withN
 rw [hc]
 rfl

theorem tlS_inv {W T : Int} {xs : List Bool} {rank : Nat} (hr : rv W T xs = true) (hq : rank < dpT W T xs) : ∀ k, k ≤ xs.length → R0 W T xs k (tlS W T xs rank k).M (tlS W T xs rank k).ys ∧ (tlS W T xs rank k).q < dpT W T (tlS W T xs rank k).ys
 | 0, _ => ⟨R0.start hr, hq⟩
 | k + 1, hk => by
   obtain ⟨h1, h2⟩ := tlS_inv hr hq k (by omega)
   obtain ⟨v1, v2, v3, v4, v5, _⟩ := rv_true hr
   have h36 : xs.length ≤ 36 := by
    have h1 : W * T ≤ 6 * 6 := Int.mul_le_mul v2 v4 (by omega) (by omega)
    omega
   cases h : (tlS W T xs rank k).ys.getD k false
   · rw [tlS_skip h]; exact ⟨h1.skip h, h2⟩
   · have hsp := dp_split (W := W) (T := T) (ys := (tlS W T xs rank k).ys) (c := k) v1 v2 (by rw [h1.ly]; exact v5) (by rw [h1.ly]; exact h36) (by rw [h1.ly]; omega) h1.done h
     rw [tlS_go h]
     by_cases hle : withN W T (tlS W T xs rank k).ys k 1 ≤ (tlS W T xs rank k).q
     · rw [if_pos hle]
       have hp := with_pos (W := W) (T := T) (ys := (tlS W T xs rank k).ys) (k := k) (way := 2) (q := (tlS W T xs rank k).q - withN W T (tlS W T xs rank k).ys k 1) (by omega)
       exact ⟨h1.step (by omega) (by omega) hp.1, by show (tlS W T xs rank k).q - withN W T (tlS W T xs rank k).ys k 1 < dpT W T (takeB W T (tlS W T xs rank k).ys k 2); rw [hp.2]; omega⟩
     · rw [if_neg hle]
       have hp := with_pos (W := W) (T := T) (ys := (tlS W T xs rank k).ys) (k := k) (way := 1) (q := (tlS W T xs rank k).q) (by omega)
       exact ⟨h1.step (by omega) (by omega) hp.1, by show (tlS W T xs rank k).q < dpT W T (takeB W T (tlS W T xs rank k).ys k 1); rw [hp.2]; omega⟩

theorem tlS_skips {W T : Int} {xs : List Bool} {rank c : Nat} : ∀ d, (∀ j, c ≤ j → j < c + d → (tlS W T xs rank c).ys.getD j false = false) → tlS W T xs rank (c + d) = tlS W T xs rank c
 | 0, _ => rfl
 | d + 1, h => by
   have ih := tlS_skips d (fun j h1 h2 => h j h1 (by omega))
   rw [← ih]
   exact tlS_skip (k := c + d) (by rw [ih]; exact h (c + d) (by omega) (by omega))

def tilOf (W T : Int) (xs : List Bool) (rank : Int) : List Int × Bool := if rv W T xs = true ∧ 0 ≤ rank ∧ rank < dpT W T xs then ((tlS W T xs rank.toNat xs.length).M, true) else ([], false)
theorem tilOf_len (W T : Int) (xs : List Bool) (rank : Int) : (tilOf W T xs rank).1.length ≤ xs.length := by
 unfold tilOf
 split
 · exact Nat.le_of_eq (tlS_len _).2
 · simp

end Go.Proofs.YthpifnjoiklgnaaGreat

namespace Go.Proofs.YthpifnjoiklgnaaGreat
open Go.RowKit
set_option linter.unusedVariables false
set_option maxRecDepth 100000
set_option linter.unusedSimpArgs false

set_option maxHeartbeats 4000000 in
theorem iTilingOf_ret (W T : Int) (a : Option Addr) (n cap : Nat) (xs : List Bool) (rank : Int) (w : World) (hn : n = xs.length) (hn' : n ≤ 1048576) (ha : BoolsAt w a xs) :
 Calls Tryz.prog 12 #[.agg #[.int .i64 W, .int .i64 T, .slice a n cap], .int .i64 rank] w (RetLT w (tilOf W T xs rank).1.length (tilOf W T xs rank).1 (tilOf W T xs rank).2) := by
 have HN := Lib.hid hn; clear hn
 have HA := Lib.hid ha; clear ha
 by_cases h : rv W T xs = true ∧ 0 ≤ rank ∧ rank < dpT W T xs
 · obtain ⟨hr, h0, h1⟩ := h
   obtain ⟨q, hq⟩ : ∃ q : Nat, rank = q := ⟨rank.toNat, by omega⟩
   subst hq
   have e : tilOf W T xs q = ((tlS W T xs q xs.length).M, true) := by unfold tilOf; rw [if_pos ⟨hr, h0, h1⟩, Int.toNat_natCast]
   rw [e]
   clear e
   have ht : tilT W T xs = (dpT W T xs : Int) := by unfold tilT; rw [if_pos hr]
   obtain ⟨hW0, hW1, hT0, hT1, v5, _⟩ := rv_true hr
   have hWT : (n : Int) = W * T := by rw [HN.out]; exact v5
   have n36 : n ≤ 36 := by
    have h1 : W * T ≤ 6 * 6 := Int.mul_le_mul hW1 hT1 (by omega) (by omega)
    omega
   have hp : 0 < n := by
    have h1 : 1 * 1 ≤ W * T := Int.mul_le_mul hW0 hT0 (by omega) (by omega)
    omega
   have hdl := dpT_le (W := W) (T := T) (xs := xs) (by rw [← HN.out]; exact n36)
   obtain ⟨D, hD⟩ : ∃ D, D = dpT W T xs := ⟨_, rfl⟩
   rw [← hD] at ht hdl h1
   have hbr : bareL W T xs = List.replicate n 0 := by unfold bareL; rw [if_pos hr, HN.out]
   have HBL : Hid (n = (List.replicate n (0 : Int)).length) := by show n = _; simp
   have HWT := Lib.hid hWT; clear hWT v5
   have HT := Lib.hid ht; clear ht hD
   have hml := (tlS_len (W := W) (T := T) (xs := xs) (rank := q) xs.length).2
   have HML := Lib.hid hml; clear hml hr
   simp only [HML.out]
   rw [← HN.out]
   go_enter Tryz.func12, Tryz.ntmps12
   go_wp2_with fail
   refine (iTilingsMany_any _ _ _ _ _ xs _ HN.out hn' (HA.out.one _)).mono ?_; rintro e w1 ⟨rfl, hb1⟩
   rw [HT.out]
   have p1 := heap_later (heap_new w _) hb1
   have b1 := below_seq (below1 _ _) hb1
   have zl : w.heap.size + 1 ≤ w1.heap.size := heap_lt p1
   obtain ⟨c0, c1, c2⟩ := cells3 p1
   go_wp2_with fail
   refine (iLaidBare_ret _ _ _ _ _ xs _ HN.out hn' (HA.out.below b1)).mono ?_; rintro e w2 ⟨a2, cap2, rfl, ho2, hb2⟩
   rw [hbr] at ho2 ⊢
   rw [← HBL.out] at ho2 ⊢
   have p2 := heap_later p1 hb2
   have b2 := below_seq b1 hb2
   have hf2 := OwnsI.forms ho2
   obtain ⟨g2, hg2⟩ : ∃ g2, a2 = some ⟨g2, 0, none⟩ := by
    rcases hf2 with ⟨_, h⟩ | ⟨g, cp, h, _⟩
    · exact absurd (congrArg List.length h) (by rw [← HBL.out]; simp; omega)
    · simp only [Value.slice.injEq] at h; exact ⟨g, h.1⟩
   subst hg2
   have O2 := Lib.hid (ho2.lower (show w.heap.size + 1 ≤ _ by omega))
   obtain ⟨hgl0, hgl1⟩ := OwnsI.lt ho2
   clear c0 c1 c2 p1 b1 hb1 hb2 ho2 hbr hf2
   obtain ⟨c0, c1, c2⟩ := cells3 p2
   go_wp2_with fail
   refine (copyField_any _ _ _ _ _ xs _ HN.out (by omega) (by omega) (by omega) (by omega) HWT.out hp (HA.out.below b2)).mono ?_; rintro e w3 ⟨g, rfl, ho3, hb3⟩
   have b3 := below_seq b2 hb3
   have p3 := heap_later p2 hb3
   have hgl := World.ownsRow.lt ho3 g rfl
   have O3 := Lib.hid ((ho3.lower (show w.heap.size + 1 ≤ _ by omega)).alloc (.cells #[.int .i64 W, .int .i64 T, .slice (some ⟨g, 0, none⟩) n n] 25))
   have OM := Lib.hid ((O2.out.below hb3).alloc (.cells #[.int .i64 W, .int .i64 T, .slice (some ⟨g, 0, none⟩) n n] 25))
   have pB := heap_new w3 (.cells #[.int .i64 W, .int .i64 T, .slice (some ⟨g, 0, none⟩) n n] 25)
   have pA := heap_later p3 (below1 w3 (.cells #[.int .i64 W, .int .i64 T, .slice (some ⟨g, 0, none⟩) n n] 25))
   obtain ⟨wB, hwB⟩ : ∃ wB, wB = w3.alloc (.cells #[.int .i64 W, .int .i64 T, .slice (some ⟨g, 0, none⟩) n n] 25) := ⟨_, rfl⟩
   have bB : Below w.heap.size w wB := by rw [hwB]; exact below_seq b3 (below1 _ _)
   rw [← hwB] at pB pA O3 OM
   have z3 := hb3.size
   have hgg : g ≠ g2 := by omega
   have hgb : g ≠ w3.heap.size := by omega
   have hg2b : g2 ≠ w3.heap.size := by omega
   have hga : g ≠ w.heap.size := by omega
   have hg2a : g2 ≠ w.heap.size := by omega
   clear c0 c1 c2 p2 b2 hb3 ho3 b3 O2 p3
   go_wp2_with fail
   rw [← hwB]
   clear hwB
   go_loopw [1, 9, 10, 25] (fun r _ _ i wr => ∃ k : Nat, k ≤ n ∧ i = .int .i64 k ∧ r = .int .i64 ((tlS W T xs q k).q : Int) ∧ OwnsB wr (w.heap.size + 1) (.slice (some ⟨g, 0, none⟩) n n) (tlS W T xs q k).ys ∧ OwnsI wr (w.heap.size + 1) (.slice (some ⟨g2, 0, none⟩) n cap2) (tlS W T xs q k).M ∧ (tlS W T xs q k).q ≤ q ∧
    wr.heap[w3.heap.size]? = some (.cells #[.int .i64 W, .int .i64 T, .slice (some ⟨g, 0, none⟩) n n] 25 (0, 0)) ∧ wr.heap[w.heap.size]? = some (.cells #[.int .i64 W, .int .i64 T, .slice a n cap] 25 (0, 0)) ∧ Below w.heap.size w wr) (fun _ _ _ i _ => n - (intOf i).toNat)
   case atStart => exact ⟨0, Nat.zero_le _, rfl, rfl, O3.out, by show OwnsI _ _ _ (List.replicate xs.length 0); rw [← HN.out]; exact OM.out, Nat.le_refl _, pB, pA, bB⟩
   case round =>
    rename World => wo
    clear O3 OM pB pA bB
    obtain ⟨k, hk, rfl, rfl, ho, hm, hqq, pr, pa, hbel⟩ := hrel
    have BEL := Lib.hid hbel; clear hbel
    by_cases hlt : k < n
    · obtain ⟨c0, c1, c2⟩ := cells3 pr
      obtain ⟨a0, a1, a2⟩ := cells3 pa
      have l1 := heap_lt pr
      have l2 := heap_lt pa
      have e1 : (k : Int) < n := by omega
      obtain ⟨hyl, hMl⟩ := tlS_len (W := W) (T := T) (xs := xs) (rank := q) k
      have hgo := tlS_go (W := W) (T := T) (xs := xs) (rank := q) (k := k)
      have hsk := tlS_skip (W := W) (T := T) (xs := xs) (rank := q) (k := k)
      obtain ⟨S, hS⟩ : ∃ S, S = tlS W T xs q k := ⟨_, rfl⟩
      rw [← hS] at ho hm hyl hMl hgo hsk hqq ⊢
      clear hS
      obtain ⟨ys, M, r⟩ := S
      simp only at ho hm hyl hMl hgo hsk hqq ⊢
      rw [← HN.out] at hyl hMl
      have HO := Lib.hid ho; clear ho
      have HMo := Lib.hid hm; clear hm
      have hcell : wo.cell? ⟨g, k, none⟩ = some (.bool (ys.getD k false)) := (RowB.of HO.out hyl.symm).cell hlt
      obtain ⟨yk, hyk⟩ : ∃ yk, yk = ys.getD k false := ⟨_, rfl⟩
      rw [← hyk] at hcell hgo hsk
      have HYL := Lib.hid hyl.symm; clear hyl
      have HMLn := Lib.hid hMl.symm; clear hMl
      clear hyk
      cases yk
      · have HSK := Lib.hid (hsk rfl); clear hsk hgo
        go_wp2_with fail
        exact ⟨⟨k + 1, by omega, by go_num, by rw [HSK.out], by rw [HSK.out]; exact HO.out, by rw [HSK.out]; exact HMo.out, by rw [HSK.out]; exact hqq, pr, pa, BEL.out⟩, by simp [intOf]; omega⟩
      · have hgo' := hgo rfl
        clear hsk hgo
        have hwl := withN_le' (W := W) (T := T) (xs := ys) (by rw [← HYL.out]; exact n36) k 1
        obtain ⟨Q, hQ⟩ : ∃ Q, Q = withN W T ys k 1 := ⟨_, rfl⟩
        rw [← hQ] at hgo' hwl
        go_wp2_with fail
        refine (countWith_any _ _ _ _ _ ys _ _ _ HYL.out hW0 hW1 hT0 hT1 HWT.out (OwnsB.at HO.out)).mono ?_; rintro e w4 ⟨rfl, hb4⟩
        rw [← hQ]
        have p4 := heap_later pr hb4
        have q4 := heap_later pa hb4
        have B4 := Lib.hid (below_seq BEL.out hb4)
        have O4 := Lib.hid (HO.out.below hb4)
        have M4 := Lib.hid (HMo.out.below hb4)
        clear c0 c1 c2 a0 a1 a2 pr pa hQ hcell hb4 l1 l2
        obtain ⟨c0, c1, c2⟩ := cells3 p4
        obtain ⟨a0, a1, a2⟩ := cells3 q4
        have l1 := heap_lt p4
        have l2 := heap_lt q4
        by_cases hle : Q ≤ r
        · rw [if_pos hle] at hgo'
          have HGO := Lib.hid hgo'; clear hgo'
          have e3 : (Q : Int) ≤ r := by omega
          go_wp2_with fail
          refine (takeOut_any _ _ _ _ _ _ ys _ _ _ HYL.out hW0 hW1 hT0 hT1 HWT.out O4.out).mono ?_; rintro e w5 ⟨rfl, ho5, g5⟩
          have p5 := heap_grown p4 g5 (by intro h; exact hgb (Option.some.inj h))
          have q5 := heap_grown q4 g5 (by intro h; exact hga (Option.some.inj h))
          have M5 := Lib.hid (World.ownsRow.kept M4.out g5 (Or.inr (by intro h; exact hgg (Option.some.inj h).symm)))
          have B5 := Lib.hid (below_grown B4.out g5 (Nat.le_refl _) (by intro j hj; have := Option.some.inj hj; omega))
          clear c0 c1 c2 a0 a1 a2
          obtain ⟨a0, a1, a2⟩ := cells3 q5
          have l3 := heap_lt q5
          go_wp2_with fail
          refine (layDown_any _ _ _ _ _ xs _ _ _ M _ _ _ HN.out hn' HMLn.out hW0 hW1 hT0 hT1 HWT.out (HA.out.below B5.out) M5.out).mono ?_; rintro e w6 ⟨rfl, hm6, g6⟩
          have p6 := heap_grown p5 g6 (by intro h; exact hg2b (Option.some.inj h))
          have q6 := heap_grown q5 g6 (by intro h; exact hg2a (Option.some.inj h))
          have O6 := World.ownsRow.kept ho5 g6 (Or.inr (by intro h; exact hgg (Option.some.inj h)))
          have B6 := below_grown B5.out g6 (Nat.le_refl _) (by intro j hj; have := Option.some.inj hj; omega)
          go_wp2_with fail
          refine ⟨⟨k + 1, by omega, by go_num, ?_, by rw [HGO.out]; exact O6, by rw [HGO.out]; exact hm6, by rw [HGO.out]; show r - Q ≤ q; omega, p6, q6, B6⟩, by simp [intOf]; omega⟩
          rw [HGO.out]
          show Value.int _ _ = Value.int _ _
          congr 1
          show _ = ((r - Q : Nat) : Int)
          omega
        · rw [if_neg hle] at hgo'
          have HGO := Lib.hid hgo'; clear hgo'
          have e3 : (r : Int) < Q := by omega
          go_wp2_with fail
          refine (takeOut_any _ _ _ _ _ _ ys _ _ _ HYL.out hW0 hW1 hT0 hT1 HWT.out O4.out).mono ?_; rintro e w5 ⟨rfl, ho5, g5⟩
          have p5 := heap_grown p4 g5 (by intro h; exact hgb (Option.some.inj h))
          have q5 := heap_grown q4 g5 (by intro h; exact hga (Option.some.inj h))
          have M5 := Lib.hid (World.ownsRow.kept M4.out g5 (Or.inr (by intro h; exact hgg (Option.some.inj h).symm)))
          have B5 := Lib.hid (below_grown B4.out g5 (Nat.le_refl _) (by intro j hj; have := Option.some.inj hj; omega))
          clear c0 c1 c2 a0 a1 a2
          obtain ⟨a0, a1, a2⟩ := cells3 q5
          have l3 := heap_lt q5
          go_wp2_with fail
          refine (layDown_any _ _ _ _ _ xs _ _ _ M _ _ _ HN.out hn' HMLn.out hW0 hW1 hT0 hT1 HWT.out (HA.out.below B5.out) M5.out).mono ?_; rintro e w6 ⟨rfl, hm6, g6⟩
          have p6 := heap_grown p5 g6 (by intro h; exact hg2b (Option.some.inj h))
          have q6 := heap_grown q5 g6 (by intro h; exact hg2a (Option.some.inj h))
          have O6 := World.ownsRow.kept ho5 g6 (Or.inr (by intro h; exact hgg (Option.some.inj h)))
          have B6 := below_grown B5.out g6 (Nat.le_refl _) (by intro j hj; have := Option.some.inj hj; omega)
          go_wp2_with fail
          exact ⟨⟨k + 1, by omega, by go_num, by rw [HGO.out], by rw [HGO.out]; exact O6, by rw [HGO.out]; exact hm6, by rw [HGO.out]; exact hqq, p6, q6, B6⟩, by simp [intOf]; omega⟩
    · obtain rfl : k = n := by omega
      have HMo := Lib.hid hm; clear hm
      go_wp2
      go_ret2
      exact ⟨_, _, rfl, HMo.out.lower (show w.heap.size ≤ _ by omega), BEL.out⟩
 · have e : tilOf W T xs rank = ([], false) := by unfold tilOf; rw [if_neg h]
   rw [e]
   clear e
   obtain ⟨t, ht⟩ : ∃ t, t = tilT W T xs := ⟨_, rfl⟩
   by_cases hneg : rank < 0
   · go_enter Tryz.func12, Tryz.ntmps12
     go_wp2
     go_ret2
     exact ⟨none, 0, rfl, OwnsI.nil _ _, below1 _ _⟩
   · have hge : t ≤ rank := by
      rw [ht]; unfold tilT
      by_cases hr : rv W T xs = true
      · rw [if_pos hr]
        have : ¬ rank < dpT W T xs := fun q => h ⟨hr, by omega, q⟩
        omega
      · rw [if_neg hr]; omega
     clear h
     go_enter Tryz.func12, Tryz.ntmps12
     go_wp2_with fail
     refine (iTilingsMany_any _ _ _ _ _ xs _ HN.out hn' (HA.out.one _)).mono ?_; rintro e w1 ⟨rfl, hb1⟩
     rw [← ht]
     clear ht
     go_wp2
     go_ret2
     exact ⟨none, 0, rfl, OwnsI.nil _ _, below_seq (below1 _ _) hb1⟩

end Go.Proofs.YthpifnjoiklgnaaGreat
