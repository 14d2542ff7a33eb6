/- Plain facts on tilings: the other cell of a domino; colours; parities; all tilings are in the list, in order. -/
import Derived.Test.YtlnnoeojgdeagaaAllM
import Derived.Test.YtlnnoeojgdeagaaTurnP
import Derived.Test.YtlnnoeojgdeagaaBal
namespace Go.Proofs.Ytlnnoeojgdeagaa
open Go.RowKit
set_option linter.unusedVariables false
set_option maxRecDepth 100000
set_option linter.unusedSimpArgs false

/-- The other cell of the domino on a cell; the cell itself if there is none. -/
def prt (W T : Int) (L : List Int) (i : Nat) : Nat := if L.getD i 0 = 0 then i else (stepI W T i (L.getD i 0)).toNat
theorem prt_zero {W T : Int} {L : List Int} {i : Nat} (h : L.getD i 0 = 0) : prt W T L i = i := by unfold prt; rw [if_pos h]
theorem prt_at {W T : Int} {xs : List Bool} {L : List Int} (h : lok W T xs L = true) {i : Nat} (hi : i < xs.length) (h0 : L.getD i 0 ≠ 0) :
    stepI W T i (L.getD i 0) = prt W T L i ∧ prt W T L i < xs.length ∧ prt W T L i ≠ i ∧ xs.getD i false = true ∧ xs.getD (prt W T L i) false = true ∧ L.getD (prt W T L i) 0 = backI (L.getD i 0) ∧ 1 ≤ L.getD i 0 ∧ L.getD i 0 ≤ 4 ∧ prt W T L (prt W T L i) = i := by
  obtain ⟨o, hs, ho, hne, hx, hxo, hb, hback, w1, w4⟩ := lok_at h hi h0
  have e : prt W T L i = o := by unfold prt; rw [if_neg h0, hs]; rfl
  have hb0 : backI (L.getD i 0) ≠ 0 := by unfold backI; omega
  rw [e]
  refine ⟨hs, ho, hne, hx, hxo, hb, w1, w4, ?_⟩
  unfold prt
  rw [hb, if_neg hb0, hback]
  rfl
theorem prt_lt {W T : Int} {xs : List Bool} {L : List Int} (h : lok W T xs L = true) {i : Nat} (hi : i < xs.length) : prt W T L i < xs.length := by
  by_cases h0 : L.getD i 0 = 0
  · rw [prt_zero h0]; exact hi
  · exact (prt_at h hi h0).2.1
theorem prt_prt {W T : Int} {xs : List Bool} {L : List Int} (h : lok W T xs L = true) {i : Nat} (hi : i < xs.length) : prt W T L (prt W T L i) = i := by
  by_cases h0 : L.getD i 0 = 0
  · rw [prt_zero h0, prt_zero h0]
  · exact (prt_at h hi h0).2.2.2.2.2.2.2.2
/-- What is summed over all cells may be asked of the other cells. -/
theorem sum_prt {W T : Int} {xs : List Bool} {L : List Int} (h : lok W T xs L = true) (f : Nat → Nat) : (sumN xs.length fun i => f (prt W T L i)) = sumN xs.length f :=
  sumN_reindex (prt W T L) (prt W T L) f (fun i hi => prt_lt h hi) (fun i hi => prt_lt h hi) (fun i hi => prt_prt h hi) (fun i hi => prt_prt h hi)

theorem tok_lokP {W T : Int} {xs : List Bool} {L : List Int} (h : tok W T xs L = true) : lok W T xs L = true := by unfold tok at h; simp only [Bool.and_eq_true] at h; exact h.1
theorem tok_cell {W T : Int} {xs : List Bool} {L : List Int} (h : tok W T xs L = true) {i : Nat} (hi : i < xs.length) (hx : xs.getD i false = true) : L.getD i 0 ≠ 0 := by
  have hl := tok_lokP h
  obtain ⟨_, hlen, _⟩ := lok_rv hl
  intro h0
  have hf : freeB xs L i = true := by unfold freeB; rw [hx, h0]; rfl
  unfold tok at h
  rw [hl, Bool.true_and, decide_eq_true_eq] at h
  rcases first_cases xs L 0 L.length with ⟨_, hno⟩ | ⟨k, _, _, hk, _⟩
  · have := hno i (Nat.zero_le _) (by omega)
    rw [hf] at this; cases this
  · rw [hk] at h; omega
theorem tok_ofAll {W T : Int} {xs : List Bool} {L : List Int} (hl : lok W T xs L = true) (h : ∀ i, i < xs.length → xs.getD i false = true → L.getD i 0 ≠ 0) : tok W T xs L = true := by
  obtain ⟨_, hlen, _⟩ := lok_rv hl
  refine tok_all hl fun j _ hj => ?_
  unfold freeB
  by_cases hx : xs.getD j false = true
  · have := h j (by omega) hx
    rw [hx, Bool.true_and]
    simpa using this
  · rw [show xs.getD j false = false by simpa using hx]; rfl

/-! Colours -/
def ckDark (W T k v : Nat) : Bool := decide (stepI W T k v < 0) || (dkAt W (stepI W T k v).toNat == !dkAt W k)
theorem ckDark_all : ((List.range 7).all fun W => (List.range 7).all fun T => (List.range (W * T)).all fun k => (List.range 5).all fun v => ckDark W T k v) = true := by decide +kernel
def ckCol (W T k v : Nat) : Bool := decide (stepI W T k v < 0) || (if v = 1 then decide ((stepI W T k v).toNat % W = k % W + 1) else if v = 3 then decide ((stepI W T k v).toNat % W + 1 = k % W) else decide ((stepI W T k v).toNat % W = k % W))
theorem ckCol_all : ((List.range 7).all fun W => (List.range 7).all fun T => (List.range (W * T)).all fun k => (List.range 5).all fun v => ckCol W T k v) = true := by decide +kernel
theorem step_dark {W T k : Nat} {way : Int} {o : Nat} (hW : W ≤ 6) (hT : T ≤ 6) (hk : k < W * T) (hw : 1 ≤ way ∧ way ≤ 4) (h : stepI W T k way = o) : dkAt W o = !dkAt W k := by
  obtain ⟨v, rfl⟩ := Int.eq_ofNat_of_zero_le (show 0 ≤ way by omega)
  have := all4 ckDark_all hW hT hk (show v ≤ 4 by omega)
  unfold ckDark at this
  rw [h] at this
  simp only [Bool.or_eq_true, decide_eq_true_eq, beq_iff_eq, Int.toNat_natCast] at this
  rcases this with h1 | h1
  · omega
  · exact h1
theorem step_col {W T k : Nat} {way : Int} {o : Nat} (hW : W ≤ 6) (hT : T ≤ 6) (hk : k < W * T) (hw : 1 ≤ way ∧ way ≤ 4) (h : stepI W T k way = o) :
    (way = 1 → o % W = k % W + 1) ∧ (way = 3 → o % W + 1 = k % W) ∧ (way = 2 ∨ way = 4 → o % W = k % W) := by
  obtain ⟨v, rfl⟩ := Int.eq_ofNat_of_zero_le (show 0 ≤ way by omega)
  have := all4 ckCol_all hW hT hk (show v ≤ 4 by omega)
  unfold ckCol at this
  rw [h] at this
  simp only [Bool.or_eq_true, decide_eq_true_eq, Int.toNat_natCast] at this
  have h2 : (if v = 1 then decide (o % W = k % W + 1) else if v = 3 then decide (o % W + 1 = k % W) else decide (o % W = k % W)) = true := by
    rcases this with h1 | h1
    · omega
    · exact h1
  refine ⟨fun e => ?_, fun e => ?_, fun e => ?_⟩
  · have : v = 1 := by omega
    subst this; simpa using h2
  · have : v = 3 := by omega
    subst this; simpa using h2
  · have h3 : v ≠ 1 := by omega
    have h4 : v ≠ 3 := by omega
    rw [if_neg h3, if_neg h4] at h2
    simpa using h2
/-- A tiling covers as many dark cells as light ones; and so on each side of a set of cells that its dominoes do not leave. -/
theorem dark_half {W T : Nat} {xs : List Bool} {L : List Int} (h : tok W T xs L = true) (p : Nat → Bool) (hp : ∀ i, i < xs.length → L.getD i 0 ≠ 0 → p (prt W T L i) = p i) :
    (sumN xs.length fun i => b2n (xs.getD i false && p i && dkAt W i)) = sumN xs.length fun i => b2n (xs.getD i false && p i && !dkAt W i) := by
  have hl := tok_lokP h
  obtain ⟨hr, v1, v2, v3, v4, v5, v6⟩ := lok_parts hl
  rw [← sum_prt hl]
  refine sumN_congr fun i hi => ?_
  by_cases h0 : L.getD i 0 = 0
  · have hx : xs.getD i false = false := by
      cases hx : xs.getD i false
      · rfl
      · exact absurd h0 (tok_cell h hi hx)
    rw [prt_zero h0, hx]
    rfl
  · obtain ⟨hs, ho, hne, hx, hxo, hb, w1, w4, _⟩ := prt_at hl hi h0
    rw [hp i hi h0, hx, hxo, step_dark v2 v4 (by omega) ⟨w1, w4⟩ hs]
theorem tok_bal {W T : Nat} {xs : List Bool} {L : List Int} (h : tok W T xs L = true) : bal W T xs = true := by
  have hl := tok_lokP h
  obtain ⟨hr, v1, v2, v3, v4, v5, v6⟩ := lok_parts hl
  have h1 := dark_half h (fun _ => true) (fun _ _ _ => rfl)
  have h2 := dark_light xs (fun i => dkAt W i)
  simp only [Bool.and_true] at h1
  have h3 : dkN W xs xs.length = sumN xs.length fun i => b2n (xs.getD i false && dkAt W i) := dkN_sum _ _ _
  unfold bal dark
  rw [hr, Bool.true_and]
  simp only [if_true]
  have : 2 * dkN W xs xs.length = cnt xs := by omega
  simp only [beq_iff_eq]
  omega
theorem tok_twice {W T : Nat} {xs : List Bool} {L : List Int} (h : tok W T xs L = true) : 2 * laidN W T xs L = cnt xs := by
  have hl := tok_lokP h
  obtain ⟨_, hlen, _⟩ := lok_rv hl
  have h1 := free_cnt hl
  have h2 := nz_twice hl
  have h3 : freeN xs L = 0 := by
    unfold freeN
    refine countP_none fun i hi => ?_
    have hi' := List.mem_range.1 hi
    unfold freeB
    cases hx : xs.getD i false
    · rfl
    · have := tok_cell h hi' hx
      rw [Bool.true_and]; simpa using this
  omega
/-! How many dominoes are flat, but for an even number -/
def evN (W : Nat) (xs : List Bool) : Nat := sumN xs.length fun i => b2n (xs.getD i false && i % W % 2 == 0)
theorem flat_parity {W T : Nat} {xs : List Bool} {L : List Int} (h : tok W T xs L = true) : ∃ u : Nat, evN W xs = wayN L 1 L.length + 2 * u := by
  have hl := tok_lokP h
  obtain ⟨hr, v1, v2, v3, v4, v5, v6⟩ := lok_parts hl
  have hlen : L.length = xs.length := by rw [v6, v5]
  refine ⟨sumN xs.length fun i => b2n (L.getD i 0 == 2 && i % W % 2 == 0), ?_⟩
  have e4 : (sumN xs.length fun i => b2n (L.getD i 0 == 4 && i % W % 2 == 0)) = sumN xs.length fun i => b2n (L.getD i 0 == 2 && i % W % 2 == 0) := by
    rw [← sum_prt hl]
    refine sumN_congr fun i hi => ?_
    by_cases h0 : L.getD i 0 = 0
    · rw [prt_zero h0, h0]; rfl
    · obtain ⟨hs, ho, hne, hx, hxo, hb, w1, w4, _⟩ := prt_at hl hi h0
      rw [hb]
      obtain ⟨_, _, c3⟩ := step_col v2 v4 (show i < W * T by omega) ⟨w1, w4⟩ hs
      by_cases h2 : L.getD i 0 = 2
      · rw [c3 (Or.inl h2), h2]; rfl
      · have e1 : (backI (L.getD i 0) == 4) = false := by rw [beq_eq_false_iff_ne]; unfold backI; omega
        have e2 : (L.getD i 0 == 2) = false := by rw [beq_eq_false_iff_ne]; exact h2
        rw [e1, e2]; rfl
  have e3 : (sumN xs.length fun i => b2n (L.getD i 0 == 3 && i % W % 2 == 0)) = sumN xs.length fun i => b2n (L.getD i 0 == 1 && !(i % W % 2 == 0)) := by
    rw [← sum_prt hl]
    refine sumN_congr fun i hi => ?_
    by_cases h0 : L.getD i 0 = 0
    · rw [prt_zero h0, h0]; rfl
    · obtain ⟨hs, ho, hne, hx, hxo, hb, w1, w4, _⟩ := prt_at hl hi h0
      rw [hb]
      obtain ⟨c1, _, _⟩ := step_col v2 v4 (show i < W * T by omega) ⟨w1, w4⟩ hs
      by_cases h1 : L.getD i 0 = 1
      · have hc := c1 h1
        have e1 : (prt W T L i % W % 2 == 0) = !(i % W % 2 == 0) := by
          rw [hc]
          apply Bool.eq_iff_iff.2
          simp only [beq_iff_eq, Bool.not_eq_true', beq_eq_false_iff_ne]
          omega
        rw [h1, e1]; rfl
      · have e1 : (backI (L.getD i 0) == 3) = false := by rw [beq_eq_false_iff_ne]; unfold backI; omega
        have e2 : (L.getD i 0 == 1) = false := by rw [beq_eq_false_iff_ne]; exact h1
        rw [e1, e2]; rfl
  have e1 : wayN L 1 L.length = (sumN xs.length fun i => b2n (L.getD i 0 == 1 && i % W % 2 == 0)) + sumN xs.length fun i => b2n (L.getD i 0 == 1 && !(i % W % 2 == 0)) := by
    unfold wayN
    rw [countP_sumN, hlen, ← sumN_add]
    refine sumN_congr fun i _ => ?_
    cases L.getD i 0 == 1 <;> cases i % W % 2 == 0 <;> rfl
  have e0 : evN W xs = (sumN xs.length fun i => b2n (L.getD i 0 == 1 && i % W % 2 == 0)) + ((sumN xs.length fun i => b2n (L.getD i 0 == 2 && i % W % 2 == 0)) + ((sumN xs.length fun i => b2n (L.getD i 0 == 3 && i % W % 2 == 0)) + sumN xs.length fun i => b2n (L.getD i 0 == 4 && i % W % 2 == 0))) := by
    unfold evN
    rw [← sumN_add, ← sumN_add, ← sumN_add]
    refine sumN_congr fun i hi => ?_
    by_cases h0 : L.getD i 0 = 0
    · have hx : xs.getD i false = false := by
        cases hx : xs.getD i false
        · rfl
        · exact absurd h0 (tok_cell h hi hx)
      rw [hx, h0]; rfl
    · obtain ⟨hs, ho, hne, hx, hxo, hb, w1, w4, _⟩ := prt_at hl hi h0
      rw [hx]
      have : L.getD i 0 = 1 ∨ L.getD i 0 = 2 ∨ L.getD i 0 = 3 ∨ L.getD i 0 = 4 := by omega
      rcases this with e | e | e | e <;> rw [e] <;> cases i % W % 2 == 0 <;> rfl
  rw [e0, e3, e4, e1]
  omega
/-- Two tilings of a region have as many flat dominoes, but for an even number. -/
theorem flat_even {W T : Nat} {xs : List Bool} {L M : List Int} (h : tok W T xs L = true) (k : tok W T xs M = true) : (flatN W T xs M - flatN W T xs L) % 2 = 0 := by
  obtain ⟨u, hu⟩ := flat_parity h
  obtain ⟨v, hv⟩ := flat_parity k
  unfold flatN
  rw [if_pos (tok_lokP h), if_pos (tok_lokP k)]
  omega
theorem flat_turned {W T : Nat} {xs : List Bool} {L : List Int} (h : lok W T xs L = true) : flatN T W (turned W T xs) (turnedI W T L) + flatN W T xs L = laidN W T xs L := by
  obtain ⟨hr, v1, v2, v3, v4, v5, v6⟩ := lok_parts h
  have hW : 0 < W := by omega
  have hT : 0 < T := by omega
  have e1 : wayN (turnedI W T L) 1 (W * T) = wayN L 4 (W * T) := by
    unfold wayN
    rw [countP_sumN, countP_sumN]
    rw [← sumN_reindex (tSrc W T) (tDst W T) (fun i => if L.getD i 0 == 4 then 1 else 0) (fun i hi => tSrc_lt hW hT hi) (fun i hi => tDst_lt hW hT hi) (fun i hi => tDst_src hW hT hi) (fun i hi => tSrc_dst hW hT hi)]
    refine sumN_congr fun i hi => ?_
    rw [turnedI_at L hi]
    have hw := lok_way h (k := tSrc W T i) (by rw [v6]; exact tSrc_lt hW hT hi)
    have e : (turnW (L.getD (tSrc W T i) 0) == 1) = (L.getD (tSrc W T i) 0 == 4) := by
      apply Bool.eq_iff_iff.2
      simp only [beq_iff_eq]
      unfold turnW
      split <;> omega
    rw [e]
  have e2 := (count_ends h).2
  rw [v6] at e2
  unfold flatN laidN
  rw [if_pos h, if_pos h, if_pos (lok_turned h), turnedI_len, v6, e1, ← e2]
  omega
end Go.Proofs.Ytlnnoeojgdeagaa
