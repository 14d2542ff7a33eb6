/- Lists of dominoes turned and mirrored: they are right for the field turned and mirrored. Merged of: TurnP, TokP, AllP. -/
import Derived.Test.YthjocjiiihebbaaLayOne
import Derived.Test.YthjocjiiihebbaaTurnIS
import Derived.Test.YthjocjiiihebbaaFlipM
import Derived.Test.YthjocjiiihebbaaLaidP
import Derived.Test.YthjocjiiihebbaaAllS
namespace Go.Proofs.Ythjocjiiihebbaa
open Go.RowKit
set_option linter.unusedVariables false
set_option maxRecDepth 100000
set_option linter.unusedSimpArgs false

def ckTurn (W T k v : Nat) : Bool := decide (stepI W T k v < 0) || (stepI T W (tDst W T k) ((v % 4 + 1 : Nat) : Int) == ((tDst W T (stepI W T k v).toNat : Nat) : Int))
def ckFlip (W T k v : Nat) : Bool := decide (stepI W T k v < 0) || (stepI W T (fIdx W k) (flipW v) == ((fIdx W (stepI W T k v).toNat : Nat) : Int))
def ckFour (W T j : Nat) : Bool := tSrc W T (tSrc T W (tSrc W T (tSrc T W j))) == j
theorem ckTurn_all : ((List.range 7).all fun W => (List.range 7).all fun T => (List.range (W * T)).all fun k => (List.range 5).all fun v => ckTurn W T k v) = true := by decide +kernel
theorem ckFlip_all : ((List.range 7).all fun W => (List.range 7).all fun T => (List.range (W * T)).all fun k => (List.range 5).all fun v => ckFlip W T k v) = true := by decide +kernel
theorem ckFour_all : ((List.range 7).all fun W => (List.range 7).all fun T => (List.range (W * T)).all fun j => ckFour W T j) = true := by decide +kernel
theorem all4 {p : Nat → Nat → Nat → Nat → Bool} (h : ((List.range 7).all fun W => (List.range 7).all fun T => (List.range (W * T)).all fun k => (List.range 5).all fun v => p W T k v) = true) {W T k v : Nat} (hW : W ≤ 6) (hT : T ≤ 6) (hk : k < W * T) (hv : v ≤ 4) : p W T k v = true := by
  have h1 := List.all_eq_true.1 h W (List.mem_range.2 (by omega))
  have h2 := List.all_eq_true.1 h1 T (List.mem_range.2 (by omega))
  have h3 := List.all_eq_true.1 h2 k (List.mem_range.2 hk)
  exact List.all_eq_true.1 h3 v (List.mem_range.2 (by omega))
theorem step_turn {W T k : Nat} {way : Int} {o : Nat} (hW : W ≤ 6) (hT : T ≤ 6) (hk : k < W * T) (hw : 1 ≤ way ∧ way ≤ 4) (h : stepI W T k way = o) : stepI T W (tDst W T k : Nat) (way % 4 + 1) = ((tDst W T o : Nat) : Int) := by
  obtain ⟨v, rfl⟩ := Int.eq_ofNat_of_zero_le (show 0 ≤ way by omega)
  have := all4 ckTurn_all hW hT hk (show v ≤ 4 by omega)
  unfold ckTurn at this
  rw [h] at this
  simp only [Bool.or_eq_true, decide_eq_true_eq, beq_iff_eq, Int.toNat_natCast] at this
  rcases this with h1 | h1
  · omega
  · rw [← h1]; rfl
theorem step_flip {W T k : Nat} {way : Int} {o : Nat} (hW : W ≤ 6) (hT : T ≤ 6) (hk : k < W * T) (hw : 1 ≤ way ∧ way ≤ 4) (h : stepI W T k way = o) : stepI W T (fIdx W k : Nat) (flipW way) = ((fIdx W o : Nat) : Int) := by
  obtain ⟨v, rfl⟩ := Int.eq_ofNat_of_zero_le (show 0 ≤ way by omega)
  have := all4 ckFlip_all hW hT hk (show v ≤ 4 by omega)
  unfold ckFlip at this
  rw [h] at this
  simp only [Bool.or_eq_true, decide_eq_true_eq, beq_iff_eq, Int.toNat_natCast] at this
  rcases this with h1 | h1
  · omega
  · exact h1
theorem four_src {W T j : Nat} (hW : W ≤ 6) (hT : T ≤ 6) (hj : j < W * T) : tSrc W T (tSrc T W (tSrc W T (tSrc T W j))) = j := by
  have h1 := List.all_eq_true.1 ckFour_all W (List.mem_range.2 (by omega))
  have h2 := List.all_eq_true.1 h1 T (List.mem_range.2 (by omega))
  have h3 := List.all_eq_true.1 h2 j (List.mem_range.2 hj)
  exact beq_iff_eq.1 h3
theorem turnedI_len (W T : Nat) (L : List Int) : (turnedI W T L).length = W * T := by simp [turnedI, tabI_len]
theorem flippedI_len (W T : Nat) (L : List Int) : (flippedI W T L).length = W * T := by simp [flippedI, tabI_len]
theorem turnedI_at {W T : Nat} (L : List Int) {j : Nat} (hj : j < W * T) : (turnedI W T L).getD j 0 = turnW (L.getD (tSrc W T j) 0) := tabI_getD _ hj
theorem flippedI_at {W T : Nat} (L : List Int) {j : Nat} (hj : j < W * T) : (flippedI W T L).getD j 0 = flipW (L.getD (fIdx W j) 0) := tabI_getD _ hj
theorem lok_parts {W T : Nat} {xs : List Bool} {L : List Int} (h : lok W T xs L = true) : rv W T xs = true ∧ 1 ≤ W ∧ W ≤ 6 ∧ 1 ≤ T ∧ T ≤ 6 ∧ xs.length = W * T ∧ L.length = W * T := by
  obtain ⟨hr, hlen, _⟩ := lok_rv h
  obtain ⟨v1, v2, v3, v4, v5, v6⟩ := rv_parts.1 hr
  exact ⟨hr, v1, v2, v3, v4, v5, by rw [hlen, v5]⟩
/-- A list that is right, turned, is right for the region turned. -/
theorem lok_turned {W T : Nat} {xs : List Bool} {L : List Int} (h : lok W T xs L = true) : lok T W (turned W T xs) (turnedI W T L) = true := by
  obtain ⟨hr, v1, v2, v3, v4, v5, v6⟩ := lok_parts h
  have hW : 0 < W := by omega
  have hT : 0 < T := by omega
  refine lok_of (rv_turned hr) (by rw [turnedI_len, turned_len]) fun j hj hz => ?_
  rw [turned_len] at hj
  rw [turnedI_at L hj] at hz ⊢
  have hk := tSrc_lt hW hT hj
  have hjs := tDst_src hW hT hj
  obtain ⟨k, hkk⟩ : ∃ k, k = tSrc W T j := ⟨_, rfl⟩
  rw [← hkk] at hz hk hjs ⊢
  have hLk : L.getD k 0 ≠ 0 := by intro e; rw [e] at hz; exact hz rfl
  obtain ⟨o, hs, ho, hne, hx, hxo, hb, _, w1, w4⟩ := lok_at h (by rw [v5]; exact hk) hLk
  have how := tDst_lt hW hT (show o < W * T by rw [← v5]; exact ho)
  have e1 : turnW (L.getD k 0) = L.getD k 0 % 4 + 1 := by unfold turnW; rw [if_neg hLk]
  refine ⟨tDst W T o, ?_, ?_, ?_, ?_⟩
  · rw [e1, ← hjs]; exact step_turn v2 v4 hk ⟨w1, w4⟩ hs
  · rw [turned_at xs hj, ← hkk]; exact hx
  · rw [turned_at xs how, tSrc_dst hW hT (by rw [← v5]; exact ho)]; exact hxo
  · rw [turnedI_at L how, tSrc_dst hW hT (by rw [← v5]; exact ho), hb, e1]
    unfold turnW backI
    rw [if_neg (by omega)]
    omega
theorem lok_flipped {W T : Nat} {xs : List Bool} {L : List Int} (h : lok W T xs L = true) : lok W T (flipped W T xs) (flippedI W T L) = true := by
  obtain ⟨hr, v1, v2, v3, v4, v5, v6⟩ := lok_parts h
  have hW : 0 < W := by omega
  have hT : 0 < T := by omega
  refine lok_of (rv_flipped hr) (by rw [flippedI_len, flipped_len]) fun j hj hz => ?_
  rw [flipped_len] at hj
  rw [flippedI_at L hj] at hz ⊢
  have hk := fIdx_lt (T := T) hW hj
  have hjs := fIdx_fIdx (k := j) hW
  obtain ⟨k, hkk⟩ : ∃ k, k = fIdx W j := ⟨_, rfl⟩
  rw [← hkk] at hz hk hjs ⊢
  have hLk : L.getD k 0 ≠ 0 := by intro e; rw [e] at hz; exact hz rfl
  obtain ⟨o, hs, ho, hne, hx, hxo, hb, _, w1, w4⟩ := lok_at h (by rw [v5]; exact hk) hLk
  have how := fIdx_lt (T := T) hW (show o < W * T by rw [← v5]; exact ho)
  refine ⟨fIdx W o, ?_, ?_, ?_, ?_⟩
  · have := step_flip v2 v4 hk ⟨w1, w4⟩ hs
    rw [hjs] at this
    exact this
  · rw [flipped_at xs hj, ← hkk]; exact hx
  · rw [flipped_at xs how, fIdx_fIdx hW]; exact hxo
  · rw [flippedI_at L how, fIdx_fIdx hW, hb]
    unfold flipW backI
    split <;> split <;> omega
theorem turn4 {v : Int} (h0 : 0 ≤ v) (h4 : v ≤ 4) : turnW (turnW (turnW (turnW v))) = v := by
  unfold turnW
  by_cases h : v = 0
  · subst h; rfl
  · rw [if_neg h, if_neg (by omega), if_neg (by omega), if_neg (by omega)]; omega
theorem flip2 {v : Int} (h0 : 0 ≤ v) (h4 : v ≤ 4) : flipW (flipW v) = v := by
  unfold flipW
  by_cases h : v = 1 ∨ v = 3
  · rw [if_pos h]
    rcases h with rfl | rfl <;> rfl
  · rw [if_neg h, if_neg h]
/-- Turned four times a list is as before. -/
theorem turned_four {W T : Nat} {xs : List Bool} {L : List Int} (h : lok W T xs L = true) : turnedI T W (turnedI W T (turnedI T W (turnedI W T L))) = L := by
  obtain ⟨hr, v1, v2, v3, v4, v5, v6⟩ := lok_parts h
  have hW : 0 < W := by omega
  have hT : 0 < T := by omega
  refine ext_getD (by rw [turnedI_len, v6, Nat.mul_comm]) fun j hj => ?_
  rw [turnedI_len, Nat.mul_comm] at hj
  have h1 : tSrc T W j < T * W := tSrc_lt hT hW (by rw [Nat.mul_comm]; exact hj)
  have h2 : tSrc W T (tSrc T W j) < W * T := tSrc_lt hW hT (by rw [Nat.mul_comm]; exact h1)
  have h3 : tSrc T W (tSrc W T (tSrc T W j)) < T * W := tSrc_lt hT hW (by rw [Nat.mul_comm]; exact h2)
  rw [turnedI_at _ (by rw [Nat.mul_comm]; exact hj), turnedI_at _ (by rw [Nat.mul_comm]; exact h1), turnedI_at _ (by rw [Nat.mul_comm]; exact h2), turnedI_at _ (by rw [Nat.mul_comm]; exact h3), four_src v2 v4 hj]
  have := lok_way h (k := j) (by rw [v6]; exact hj)
  exact turn4 this.1 this.2
theorem flipped_two {W T : Nat} {xs : List Bool} {L : List Int} (h : lok W T xs L = true) : flippedI W T (flippedI W T L) = L := by
  obtain ⟨hr, v1, v2, v3, v4, v5, v6⟩ := lok_parts h
  have hW : 0 < W := by omega
  refine ext_getD (by rw [flippedI_len, v6]) fun j hj => ?_
  rw [flippedI_len] at hj
  have h1 : fIdx W j < W * T := fIdx_lt hW hj
  rw [flippedI_at _ hj, flippedI_at _ h1, fIdx_fIdx hW]
  have := lok_way h (k := j) (by rw [v6]; exact hj)
  exact flip2 this.1 this.2
end Go.Proofs.Ythjocjiiihebbaa

namespace Go.Proofs.Ythjocjiiihebbaa
open Go.RowKit
set_option linter.unusedVariables false
set_option maxRecDepth 100000
set_option linter.unusedSimpArgs false

/-- The other cell of the domino on a cell; the cell itself if there is none. -/
def prt (W T : Int) (L : List Int) (i : Nat) : Nat := if L.getD i 0 = 0 then i else (stepI W T i (L.getD i 0)).toNat
theorem prt_zero {W T : Int} {L : List Int} {i : Nat} (h : L.getD i 0 = 0) : prt W T L i = i := by unfold prt; rw [if_pos h]
theorem prt_at {W T : Int} {xs : List Bool} {L : List Int} (h : lok W T xs L = true) {i : Nat} (hi : i < xs.length) (h0 : L.getD i 0 ≠ 0) :
    stepI W T i (L.getD i 0) = prt W T L i ∧ prt W T L i < xs.length ∧ prt W T L i ≠ i ∧ xs.getD i false = true ∧ xs.getD (prt W T L i) false = true ∧ L.getD (prt W T L i) 0 = backI (L.getD i 0) ∧ 1 ≤ L.getD i 0 ∧ L.getD i 0 ≤ 4 ∧ prt W T L (prt W T L i) = i := by
  obtain ⟨o, hs, ho, hne, hx, hxo, hb, hback, w1, w4⟩ := lok_at h hi h0
  have e : prt W T L i = o := by unfold prt; rw [if_neg h0, hs]; rfl
  have hb0 : backI (L.getD i 0) ≠ 0 := by unfold backI; omega
  rw [e]
  refine ⟨hs, ho, hne, hx, hxo, hb, w1, w4, ?_⟩
  unfold prt
  rw [hb, if_neg hb0, hback]
  rfl
theorem prt_lt {W T : Int} {xs : List Bool} {L : List Int} (h : lok W T xs L = true) {i : Nat} (hi : i < xs.length) : prt W T L i < xs.length := by
  by_cases h0 : L.getD i 0 = 0
  · rw [prt_zero h0]; exact hi
  · exact (prt_at h hi h0).2.1
theorem prt_prt {W T : Int} {xs : List Bool} {L : List Int} (h : lok W T xs L = true) {i : Nat} (hi : i < xs.length) : prt W T L (prt W T L i) = i := by
  by_cases h0 : L.getD i 0 = 0
  · rw [prt_zero h0, prt_zero h0]
  · exact (prt_at h hi h0).2.2.2.2.2.2.2.2
/-- What is summed over all cells may be asked of the other cells. -/
theorem sum_prt {W T : Int} {xs : List Bool} {L : List Int} (h : lok W T xs L = true) (f : Nat → Nat) : (sumN xs.length fun i => f (prt W T L i)) = sumN xs.length f :=
  sumN_reindex (prt W T L) (prt W T L) f (fun i hi => prt_lt h hi) (fun i hi => prt_lt h hi) (fun i hi => prt_prt h hi) (fun i hi => prt_prt h hi)

theorem tok_lokP {W T : Int} {xs : List Bool} {L : List Int} (h : tok W T xs L = true) : lok W T xs L = true := by unfold tok at h; simp only [Bool.and_eq_true] at h; exact h.1
theorem tok_cell {W T : Int} {xs : List Bool} {L : List Int} (h : tok W T xs L = true) {i : Nat} (hi : i < xs.length) (hx : xs.getD i false = true) : L.getD i 0 ≠ 0 := by
  have hl := tok_lokP h
  obtain ⟨_, hlen, _⟩ := lok_rv hl
  intro h0
  have hf : freeB xs L i = true := by unfold freeB; rw [hx, h0]; rfl
  unfold tok at h
  rw [hl, Bool.true_and, decide_eq_true_eq] at h
  rcases first_cases xs L 0 L.length with ⟨_, hno⟩ | ⟨k, _, _, hk, _⟩
  · have := hno i (Nat.zero_le _) (by omega)
    rw [hf] at this; cases this
  · rw [hk] at h; omega
theorem tok_ofAll {W T : Int} {xs : List Bool} {L : List Int} (hl : lok W T xs L = true) (h : ∀ i, i < xs.length → xs.getD i false = true → L.getD i 0 ≠ 0) : tok W T xs L = true := by
  obtain ⟨_, hlen, _⟩ := lok_rv hl
  refine tok_all hl fun j _ hj => ?_
  unfold freeB
  by_cases hx : xs.getD j false = true
  · have := h j (by omega) hx
    rw [hx, Bool.true_and]
    simpa using this
  · rw [show xs.getD j false = false by simpa using hx]; rfl

/-! Colours -/
def ckDark (W T k v : Nat) : Bool := decide (stepI W T k v < 0) || (dkAt W (stepI W T k v).toNat == !dkAt W k)
theorem ckDark_all : ((List.range 7).all fun W => (List.range 7).all fun T => (List.range (W * T)).all fun k => (List.range 5).all fun v => ckDark W T k v) = true := by decide +kernel
def ckCol (W T k v : Nat) : Bool := decide (stepI W T k v < 0) || (if v = 1 then decide ((stepI W T k v).toNat % W = k % W + 1) else if v = 3 then decide ((stepI W T k v).toNat % W + 1 = k % W) else decide ((stepI W T k v).toNat % W = k % W))
theorem ckCol_all : ((List.range 7).all fun W => (List.range 7).all fun T => (List.range (W * T)).all fun k => (List.range 5).all fun v => ckCol W T k v) = true := by decide +kernel
theorem step_dark {W T k : Nat} {way : Int} {o : Nat} (hW : W ≤ 6) (hT : T ≤ 6) (hk : k < W * T) (hw : 1 ≤ way ∧ way ≤ 4) (h : stepI W T k way = o) : dkAt W o = !dkAt W k := by
  obtain ⟨v, rfl⟩ := Int.eq_ofNat_of_zero_le (show 0 ≤ way by omega)
  have := all4 ckDark_all hW hT hk (show v ≤ 4 by omega)
  unfold ckDark at this
  rw [h] at this
  simp only [Bool.or_eq_true, decide_eq_true_eq, beq_iff_eq, Int.toNat_natCast] at this
  rcases this with h1 | h1
  · omega
  · exact h1
theorem step_col {W T k : Nat} {way : Int} {o : Nat} (hW : W ≤ 6) (hT : T ≤ 6) (hk : k < W * T) (hw : 1 ≤ way ∧ way ≤ 4) (h : stepI W T k way = o) :
    (way = 1 → o % W = k % W + 1) ∧ (way = 3 → o % W + 1 = k % W) ∧ (way = 2 ∨ way = 4 → o % W = k % W) := by
  obtain ⟨v, rfl⟩ := Int.eq_ofNat_of_zero_le (show 0 ≤ way by omega)
  have := all4 ckCol_all hW hT hk (show v ≤ 4 by omega)
  unfold ckCol at this
  rw [h] at this
  simp only [Bool.or_eq_true, decide_eq_true_eq, Int.toNat_natCast] at this
  have h2 : (if v = 1 then decide (o % W = k % W + 1) else if v = 3 then decide (o % W + 1 = k % W) else decide (o % W = k % W)) = true := by
    rcases this with h1 | h1
    · omega
    · exact h1
  refine ⟨fun e => ?_, fun e => ?_, fun e => ?_⟩
  · have : v = 1 := by omega
    subst this; simpa using h2
  · have : v = 3 := by omega
    subst this; simpa using h2
  · have h3 : v ≠ 1 := by omega
    have h4 : v ≠ 3 := by omega
    rw [if_neg h3, if_neg h4] at h2
    simpa using h2
/-- A tiling covers as many dark cells as light ones; and so on each side of a set of cells that its dominoes do not leave. -/
theorem dark_half {W T : Nat} {xs : List Bool} {L : List Int} (h : tok W T xs L = true) (p : Nat → Bool) (hp : ∀ i, i < xs.length → L.getD i 0 ≠ 0 → p (prt W T L i) = p i) :
    (sumN xs.length fun i => b2n (xs.getD i false && p i && dkAt W i)) = sumN xs.length fun i => b2n (xs.getD i false && p i && !dkAt W i) := by
  have hl := tok_lokP h
  obtain ⟨hr, v1, v2, v3, v4, v5, v6⟩ := lok_parts hl
  rw [← sum_prt hl]
  refine sumN_congr fun i hi => ?_
  by_cases h0 : L.getD i 0 = 0
  · have hx : xs.getD i false = false := by
      cases hx : xs.getD i false
      · rfl
      · exact absurd h0 (tok_cell h hi hx)
    rw [prt_zero h0, hx]
    rfl
  · obtain ⟨hs, ho, hne, hx, hxo, hb, w1, w4, _⟩ := prt_at hl hi h0
    rw [hp i hi h0, hx, hxo, step_dark v2 v4 (by omega) ⟨w1, w4⟩ hs]
theorem tok_bal {W T : Nat} {xs : List Bool} {L : List Int} (h : tok W T xs L = true) : bal W T xs = true := by
  have hl := tok_lokP h
  obtain ⟨hr, v1, v2, v3, v4, v5, v6⟩ := lok_parts hl
  have h1 := dark_half h (fun _ => true) (fun _ _ _ => rfl)
  have h2 := dark_light xs (fun i => dkAt W i)
  simp only [Bool.and_true] at h1
  have h3 : dkN W xs xs.length = sumN xs.length fun i => b2n (xs.getD i false && dkAt W i) := dkN_sum _ _ _
  unfold bal dark
  rw [hr, Bool.true_and]
  simp only [if_true]
  have : 2 * dkN W xs xs.length = cnt xs := by omega
  simp only [beq_iff_eq]
  omega
theorem tok_twice {W T : Nat} {xs : List Bool} {L : List Int} (h : tok W T xs L = true) : 2 * laidN W T xs L = cnt xs := by
  have hl := tok_lokP h
  obtain ⟨_, hlen, _⟩ := lok_rv hl
  have h1 := free_cnt hl
  have h2 := nz_twice hl
  have h3 : freeN xs L = 0 := by
    unfold freeN
    refine countP_none fun i hi => ?_
    have hi' := List.mem_range.1 hi
    unfold freeB
    cases hx : xs.getD i false
    · rfl
    · have := tok_cell h hi' hx
      rw [Bool.true_and]; simpa using this
  omega
/-! How many dominoes are flat, but for an even number -/
def evN (W : Nat) (xs : List Bool) : Nat := sumN xs.length fun i => b2n (xs.getD i false && i % W % 2 == 0)
theorem flat_parity {W T : Nat} {xs : List Bool} {L : List Int} (h : tok W T xs L = true) : ∃ u : Nat, evN W xs = wayN L 1 L.length + 2 * u := by
  have hl := tok_lokP h
  obtain ⟨hr, v1, v2, v3, v4, v5, v6⟩ := lok_parts hl
  have hlen : L.length = xs.length := by rw [v6, v5]
  refine ⟨sumN xs.length fun i => b2n (L.getD i 0 == 2 && i % W % 2 == 0), ?_⟩
  have e4 : (sumN xs.length fun i => b2n (L.getD i 0 == 4 && i % W % 2 == 0)) = sumN xs.length fun i => b2n (L.getD i 0 == 2 && i % W % 2 == 0) := by
    rw [← sum_prt hl]
    refine sumN_congr fun i hi => ?_
    by_cases h0 : L.getD i 0 = 0
    · rw [prt_zero h0, h0]; rfl
    · obtain ⟨hs, ho, hne, hx, hxo, hb, w1, w4, _⟩ := prt_at hl hi h0
      rw [hb]
      obtain ⟨_, _, c3⟩ := step_col v2 v4 (show i < W * T by omega) ⟨w1, w4⟩ hs
      by_cases h2 : L.getD i 0 = 2
      · rw [c3 (Or.inl h2), h2]; rfl
      · have e1 : (backI (L.getD i 0) == 4) = false := by rw [beq_eq_false_iff_ne]; unfold backI; omega
        have e2 : (L.getD i 0 == 2) = false := by rw [beq_eq_false_iff_ne]; exact h2
        rw [e1, e2]; rfl
  have e3 : (sumN xs.length fun i => b2n (L.getD i 0 == 3 && i % W % 2 == 0)) = sumN xs.length fun i => b2n (L.getD i 0 == 1 && !(i % W % 2 == 0)) := by
    rw [← sum_prt hl]
    refine sumN_congr fun i hi => ?_
    by_cases h0 : L.getD i 0 = 0
    · rw [prt_zero h0, h0]; rfl
    · obtain ⟨hs, ho, hne, hx, hxo, hb, w1, w4, _⟩ := prt_at hl hi h0
      rw [hb]
      obtain ⟨c1, _, _⟩ := step_col v2 v4 (show i < W * T by omega) ⟨w1, w4⟩ hs
      by_cases h1 : L.getD i 0 = 1
      · have hc := c1 h1
        have e1 : (prt W T L i % W % 2 == 0) = !(i % W % 2 == 0) := by
          rw [hc]
          apply Bool.eq_iff_iff.2
          simp only [beq_iff_eq, Bool.not_eq_true', beq_eq_false_iff_ne]
          omega
        rw [h1, e1]; rfl
      · have e1 : (backI (L.getD i 0) == 3) = false := by rw [beq_eq_false_iff_ne]; unfold backI; omega
        have e2 : (L.getD i 0 == 1) = false := by rw [beq_eq_false_iff_ne]; exact h1
        rw [e1, e2]; rfl
  have e1 : wayN L 1 L.length = (sumN xs.length fun i => b2n (L.getD i 0 == 1 && i % W % 2 == 0)) + sumN xs.length fun i => b2n (L.getD i 0 == 1 && !(i % W % 2 == 0)) := by
    unfold wayN
    rw [countP_sumN, hlen, ← sumN_add]
    refine sumN_congr fun i _ => ?_
    cases L.getD i 0 == 1 <;> cases i % W % 2 == 0 <;> rfl
  have e0 : evN W xs = (sumN xs.length fun i => b2n (L.getD i 0 == 1 && i % W % 2 == 0)) + ((sumN xs.length fun i => b2n (L.getD i 0 == 2 && i % W % 2 == 0)) + ((sumN xs.length fun i => b2n (L.getD i 0 == 3 && i % W % 2 == 0)) + sumN xs.length fun i => b2n (L.getD i 0 == 4 && i % W % 2 == 0))) := by
    unfold evN
    rw [← sumN_add, ← sumN_add, ← sumN_add]
    refine sumN_congr fun i hi => ?_
    by_cases h0 : L.getD i 0 = 0
    · have hx : xs.getD i false = false := by
        cases hx : xs.getD i false
        · rfl
        · exact absurd h0 (tok_cell h hi hx)
      rw [hx, h0]; rfl
    · obtain ⟨hs, ho, hne, hx, hxo, hb, w1, w4, _⟩ := prt_at hl hi h0
      rw [hx]
      have : L.getD i 0 = 1 ∨ L.getD i 0 = 2 ∨ L.getD i 0 = 3 ∨ L.getD i 0 = 4 := by omega
      rcases this with e | e | e | e <;> rw [e] <;> cases i % W % 2 == 0 <;> rfl
  rw [e0, e3, e4, e1]
  omega
/-- Two tilings of a region have as many flat dominoes, but for an even number. -/
theorem flat_even {W T : Nat} {xs : List Bool} {L M : List Int} (h : tok W T xs L = true) (k : tok W T xs M = true) : (flatN W T xs M - flatN W T xs L) % 2 = 0 := by
  obtain ⟨u, hu⟩ := flat_parity h
  obtain ⟨v, hv⟩ := flat_parity k
  unfold flatN
  rw [if_pos (tok_lokP h), if_pos (tok_lokP k)]
  omega
theorem flat_turned {W T : Nat} {xs : List Bool} {L : List Int} (h : lok W T xs L = true) : flatN T W (turned W T xs) (turnedI W T L) + flatN W T xs L = laidN W T xs L := by
  obtain ⟨hr, v1, v2, v3, v4, v5, v6⟩ := lok_parts h
  have hW : 0 < W := by omega
  have hT : 0 < T := by omega
  have e1 : wayN (turnedI W T L) 1 (W * T) = wayN L 4 (W * T) := by
    unfold wayN
    rw [countP_sumN, countP_sumN]
    rw [← sumN_reindex (tSrc W T) (tDst W T) (fun i => if L.getD i 0 == 4 then 1 else 0) (fun i hi => tSrc_lt hW hT hi) (fun i hi => tDst_lt hW hT hi) (fun i hi => tDst_src hW hT hi) (fun i hi => tSrc_dst hW hT hi)]
    refine sumN_congr fun i hi => ?_
    rw [turnedI_at L hi]
    have hw := lok_way h (k := tSrc W T i) (by rw [v6]; exact tSrc_lt hW hT hi)
    have e : (turnW (L.getD (tSrc W T i) 0) == 1) = (L.getD (tSrc W T i) 0 == 4) := by
      apply Bool.eq_iff_iff.2
      simp only [beq_iff_eq]
      unfold turnW
      split <;> omega
    rw [e]
  have e2 := (count_ends h).2
  rw [v6] at e2
  unfold flatN laidN
  rw [if_pos h, if_pos h, if_pos (lok_turned h), turnedI_len, v6, e1, ← e2]
  omega
end Go.Proofs.Ythjocjiiihebbaa

namespace Go.Proofs.Ythjocjiiihebbaa
open Go.RowKit
set_option linter.unusedVariables false
set_option maxRecDepth 100000
set_option linter.unusedSimpArgs false

/-- M has all dominoes of L. -/
def Has (L M : List Int) : Prop := ∀ k, L.getD k 0 ≠ 0 → M.getD k 0 = L.getD k 0
theorem canLay_of {W T : Int} {xs : List Bool} {L : List Int} {c o : Nat} {way : Int} (hr : rv W T xs = true) (hc : c < xs.length) (hs : stepI W T c way = o) (h1 : freeB xs L c = true) (h2 : freeB xs L o = true) : canLay W T xs L c way = true ∧ laidL W T xs L c way = (L.set c way).set o (backI way) := by
  have hcell : cellB W T xs.length c way = o := by unfold cellB; rw [if_pos ⟨by omega, by omega⟩]; exact hs
  have h : canLay W T xs L c way = true := canLay_yes (by rw [hcell]; omega) (by simpa using h1) (by rw [hcell]; simpa using h2)
  refine ⟨h, ?_⟩
  unfold laidL
  rw [if_pos h, hcell]
  rfl
theorem allL_mem {W T : Int} {xs : List Bool} : ∀ (f : Nat) (L M : List Int), freeN xs L < f → lok W T xs L = true → tok W T xs M = true → Has L M → M ∈ allL W T xs f L
  | 0, L, M, h, _, _, _ => absurd h (Nat.not_lt_zero _)
  | f + 1, L, M, hf, hl, hM, hh => by
    have hlM := tok_lokP hM
    obtain ⟨hr, hlen, _⟩ := lok_rv hl
    obtain ⟨_, hlenM, _⟩ := lok_rv hlM
    obtain ⟨v1, v2, v3, v4, v5, _⟩ := rv_true hr
    rcases first_cases xs L 0 xs.length with ⟨h0, hno⟩ | ⟨c, _, hc, h0, hfc, hno⟩
    · rw [allL_done h0 (by omega)]
      have e : M = L := by
        refine ext_getD (by rw [hlenM, hlen]) fun k hk => ?_
        rw [hlenM] at hk
        by_cases hz : L.getD k 0 = 0
        · have hx : xs.getD k false = false := by
            cases hx : xs.getD k false
            · rfl
            · have h1 := hno k (Nat.zero_le _) hk
              unfold freeB at h1
              rw [hx, hz] at h1; cases h1
          rw [hz]
          by_cases hm : M.getD k 0 = 0
          · exact hm
          · obtain ⟨_, _, _, _, hx', _⟩ := lok_at hlM hk hm
            rw [hx] at hx'; cases hx'
        · exact hh k hz
      rw [e]; exact List.mem_cons_self
    · rw [allL_succ h0 (by omega)]
      obtain ⟨hxc, hLc⟩ := free_zero hfc
      have hMc := tok_cell hM hc hxc
      obtain ⟨o, hs, ho, hne, _, hxo, hMo, hback, w1, w4⟩ := lok_at hlM hc hMc
      have hLo : L.getD o 0 = 0 := by
        by_cases hz : L.getD o 0 = 0
        · exact hz
        · exfalso
          have e1 := hh o hz
          obtain ⟨o2, hs2, _, _, _, _, hb2, _, _, _⟩ := lok_at hl ho hz
          rw [← e1, hMo, hback] at hs2
          have : o2 = c := by omega
          subst this
          rw [← e1, hMo, back_back ⟨w1, w4⟩] at hb2
          exact hMc (by rw [← hb2]; exact hLc)
      have hfo : freeB xs L o = true := by unfold freeB; rw [hxo, hLo]; rfl
      have hway : M.getD c 0 = 1 ∨ M.getD c 0 = 2 := by
        have hoc : c < o := by
          rcases Nat.lt_or_ge o c with h | h
          · have := hno o (Nat.zero_le _) h
            rw [hfo] at this; cases this
          · omega
        have : M.getD c 0 = 1 ∨ M.getD c 0 = 2 ∨ M.getD c 0 = 3 ∨ M.getD c 0 = 4 := by omega
        rcases this with e | e | e | e
        · exact Or.inl e
        · exact Or.inr e
        · rw [e] at hs; have := step_three hs (by omega); omega
        · rw [e] at hs; have := step_four hs (by omega); omega
      obtain ⟨hcan, hlaid⟩ := canLay_of hr hc hs hfc hfo
      have hhas : Has (laidL W T xs L c (M.getD c 0)) M := by
        rw [hlaid]
        intro k hk
        rw [getD_set2 (by rw [hlen]; exact hc) (by rw [hlen]; exact ho)] at hk ⊢
        by_cases e1 : k = o
        · rw [if_pos e1, e1, hMo]
        · rw [if_neg e1] at hk ⊢
          by_cases e2 : k = c
          · rw [if_pos e2, e2]
          · rw [if_neg e2] at hk ⊢; exact hh k hk
      have hrec := allL_mem f (laidL W T xs L c (M.getD c 0)) M (by have := free_drop' hway hl hcan; omega) (lok_laid hl hcan) hM hhas
      rw [List.mem_append]
      rcases hway with e | e
      · rw [e] at hcan hrec
        exact Or.inl (by rw [if_pos hcan]; exact hrec)
      · rw [e] at hcan hrec
        exact Or.inr (by rw [if_pos hcan]; exact hrec)
theorem bare_zero (W T : Int) (xs : List Bool) (k : Nat) : (bareL W T xs).getD k 0 = 0 := by
  unfold bareL
  split
  · by_cases h : k < xs.length
    · simp [List.getD, h]
    · simp [List.getD, h]
  · simp [List.getD]
/-- Every tiling is in the list. -/
theorem mem_allF {W T : Int} {xs : List Bool} {M : List Int} (h : tok W T xs M = true) : M ∈ allF W T xs := by
  have hl := tok_lokP h
  obtain ⟨hr, _, _⟩ := lok_rv hl
  unfold allF
  rw [if_pos hr]
  exact allL_mem _ _ _ (by have := freeN_le xs (bareL W T xs); omega) (by rw [lok_bareL]; exact hr) h (fun k hk => absurd (bare_zero W T xs k) hk)
theorem mem_allF_iff {W T : Int} {xs : List Bool} {M : List Int} : M ∈ allF W T xs ↔ tok W T xs M = true := ⟨fun h => (allF_each h).2, mem_allF⟩
/-- What comes has the dominoes that lay. -/
theorem allL_has {W T : Int} {xs : List Bool} : ∀ (f : Nat) (L M : List Int), lok W T xs L = true → M ∈ allL W T xs f L → Has L M
  | 0, L, M, _, h => by simp [allL] at h
  | f + 1, L, M, hl, h => by
    obtain ⟨hr, hlen, _⟩ := lok_rv hl
    rcases first_cases xs L 0 xs.length with ⟨h0, hno⟩ | ⟨c, _, hc, h0, hfc, hno⟩
    · rw [allL_done h0 (by omega)] at h
      simp only [List.mem_cons, List.not_mem_nil, or_false] at h
      subst h
      exact fun k _ => rfl
    · rw [allL_succ h0 (by omega), List.mem_append] at h
      have part : ∀ way : Int, M ∈ (if canLay W T xs L c way = true then allL W T xs f (laidL W T xs L c way) else []) → Has L M := by
        intro way hm
        split at hm
        · rename_i hcan
          obtain ⟨kn, o, e, hk, ho, hne, hs, hf, hfo, w1, w4, hb, el⟩ := canLay_at hr hlen hcan
          have : kn = c := by omega
          subst this
          have h1 := allL_has f _ M (lok_laid hl hcan) hm
          rw [el] at h1
          intro k hk0
          have hkc : k ≠ kn := by intro e2; rw [e2] at hk0; exact hk0 (free_zero hf).2
          have hko : k ≠ o := by intro e2; rw [e2] at hk0; exact hk0 (free_zero hfo).2
          have h2 := h1 k
          rw [getD_set2 (by rw [hlen]; exact hk) (by rw [hlen]; exact ho), if_neg hko, if_neg hkc] at h2
          exact h2 hk0
        · simp at hm
      rcases h with h | h
      · exact part 1 h
      · exact part 2 h
theorem has_at {W T : Int} {xs : List Bool} {L : List Int} {c : Nat} {way : Int} (hl : lok W T xs L = true) (hcan : canLay W T xs L c way = true) : (laidL W T xs L c way).getD c 0 = way ∧ way ≠ 0 := by
  obtain ⟨hr, hlen, _⟩ := lok_rv hl
  obtain ⟨kn, o, e, hk, ho, hne, hs, hf, hfo, w1, w4, hb, el⟩ := canLay_at hr hlen hcan
  have : kn = c := by omega
  subst this
  rw [el, getD_set2 (by rw [hlen]; exact hk) (by rw [hlen]; exact ho), if_neg (Ne.symm hne), if_pos rfl]
  exact ⟨rfl, by omega⟩
/-- The first cell in which two lists differ has the lesser number in A. -/
def Before (A B : List Int) : Prop := ∃ c, c < A.length ∧ c < B.length ∧ (∀ k, k < c → A.getD k 0 = B.getD k 0) ∧ A.getD c 0 < B.getD c 0
theorem allL_sorted {W T : Int} {xs : List Bool} : ∀ (f : Nat) (L : List Int), lok W T xs L = true → (allL W T xs f L).Pairwise Before
  | 0, L, _ => by simp [allL]
  | f + 1, L, hl => by
    obtain ⟨hr, hlen, _⟩ := lok_rv hl
    rcases first_cases xs L 0 xs.length with ⟨h0, hno⟩ | ⟨c, _, hc, h0, hfc, hno⟩
    · rw [allL_done h0 (by omega)]
      simp
    · rw [allL_succ h0 (by omega), List.pairwise_append]
      refine ⟨?_, ?_, ?_⟩
      · split
        · rename_i hcan
          exact allL_sorted f _ (lok_laid hl hcan)
        · simp
      · split
        · rename_i hcan
          exact allL_sorted f _ (lok_laid hl hcan)
        · simp
      · intro A hA B hB
        split at hA
        · rename_i c1
          split at hB
          · rename_i c2
            have a1 := allL_has f _ A (lok_laid hl c1) hA
            have b1 := allL_has f _ B (lok_laid hl c2) hB
            obtain ⟨la, ta⟩ := allL_each f _ (lok_laid hl c1) A hA
            obtain ⟨lb, tb⟩ := allL_each f _ (lok_laid hl c2) B hB
            have a2 := a1 c (by rw [(has_at hl c1).1]; exact (has_at hl c1).2)
            have b2 := b1 c (by rw [(has_at hl c2).1]; exact (has_at hl c2).2)
            rw [(has_at hl c1).1] at a2
            rw [(has_at hl c2).1] at b2
            have hA' : Has L A := allL_has (f + 1) L A hl (by rw [allL_succ h0 (by omega), List.mem_append]; exact Or.inl (by rw [if_pos c1]; exact hA))
            have hB' : Has L B := allL_has (f + 1) L B hl (by rw [allL_succ h0 (by omega), List.mem_append]; exact Or.inr (by rw [if_pos c2]; exact hB))
            refine ⟨c, by omega, by omega, fun k hk => ?_, by rw [a2, b2]; omega⟩
            by_cases hz : L.getD k 0 = 0
            · have hx : xs.getD k false = false := by
                cases hx : xs.getD k false
                · rfl
                · have h1 := hno k (Nat.zero_le _) hk
                  unfold freeB at h1
                  rw [hx, hz] at h1; cases h1
              have zero : ∀ M : List Int, tok W T xs M = true → M.getD k 0 = 0 := by
                intro M hM
                by_cases hm : M.getD k 0 = 0
                · exact hm
                · obtain ⟨_, _, _, _, hx', _⟩ := lok_at (tok_lokP hM) (show k < xs.length by omega) hm
                  rw [hx] at hx'; cases hx'
              rw [zero A ta, zero B tb]
            · rw [hA' k hz, hB' k hz]
          · simp at hB
        · simp at hA
theorem Before.ne {A B : List Int} (h : Before A B) : A ≠ B := by
  obtain ⟨c, _, _, _, h⟩ := h
  intro e; rw [e] at h; omega
theorem allF_sorted (W T : Int) (xs : List Bool) : (allF W T xs).Pairwise Before := by
  unfold allF
  split
  · rename_i h
    exact allL_sorted _ _ (by rw [lok_bareL]; exact h)
  · simp
theorem allF_nodup (W T : Int) (xs : List Bool) : (allF W T xs).Nodup := (allF_sorted W T xs).imp fun h => h.ne

/-- A list without repeats is no longer than one that has all of it. -/
theorem nodup_le {α : Type} [DecidableEq α] : ∀ (l m : List α), l.Nodup → (∀ x, x ∈ l → x ∈ m) → l.length ≤ m.length
  | [], m, _, _ => by simp
  | a :: l, m, hn, hs => by
    have ha := hs a List.mem_cons_self
    have hn' := List.nodup_cons.1 hn
    have h1 := nodup_le l (m.erase a) hn'.2 (fun x hx => by
      have hne : x ≠ a := fun e => hn'.1 (by rw [← e]; exact hx)
      exact (List.mem_erase_of_ne hne).2 (hs x (List.mem_cons_of_mem _ hx)))
    rw [List.length_erase_of_mem ha] at h1
    have := List.length_pos_of_mem ha
    simp only [List.length_cons]
    omega
theorem map_nodup {α β : Type} {g : α → β} : ∀ (l : List α), l.Nodup → (∀ x, x ∈ l → ∀ y, y ∈ l → g x = g y → x = y) → (l.map g).Nodup
  | [], _, _ => by simp
  | a :: l, hn, hi => by
    have hn' := List.nodup_cons.1 hn
    rw [List.map_cons, List.nodup_cons]
    refine ⟨fun hm => ?_, map_nodup l hn'.2 (fun x hx y hy => hi x (List.mem_cons_of_mem _ hx) y (List.mem_cons_of_mem _ hy))⟩
    obtain ⟨y, hy, he⟩ := List.mem_map.1 hm
    have := hi y (List.mem_cons_of_mem _ hy) a List.mem_cons_self he
    exact hn'.1 (by rw [← this]; exact hy)
theorem tok_turned {W T : Nat} {xs : List Bool} {L : List Int} (h : tok W T xs L = true) : tok T W (turned W T xs) (turnedI W T L) = true := by
  have hl := tok_lokP h
  obtain ⟨hr, v1, v2, v3, v4, v5, v6⟩ := lok_parts hl
  have hW : 0 < W := by omega
  have hT : 0 < T := by omega
  refine tok_ofAll (lok_turned hl) fun j hj hx => ?_
  rw [turned_len] at hj
  rw [turned_at xs hj] at hx
  rw [turnedI_at L hj]
  have := tok_cell h (by rw [v5]; exact tSrc_lt hW hT hj) hx
  unfold turnW
  rw [if_neg this]
  omega
theorem tok_flipped {W T : Nat} {xs : List Bool} {L : List Int} (h : tok W T xs L = true) : tok W T (flipped W T xs) (flippedI W T L) = true := by
  have hl := tok_lokP h
  obtain ⟨hr, v1, v2, v3, v4, v5, v6⟩ := lok_parts hl
  have hW : 0 < W := by omega
  refine tok_ofAll (lok_flipped hl) fun j hj hx => ?_
  rw [flipped_len] at hj
  rw [flipped_at xs hj] at hx
  rw [flippedI_at L hj]
  have h0 := tok_cell h (by rw [v5]; exact fIdx_lt hW hj) hx
  have hw := lok_way hl (k := fIdx W j) (by rw [v6]; exact fIdx_lt hW hj)
  unfold flipW backI
  split <;> omega
theorem all_turned_le {W T : Nat} {xs : List Bool} : (allF W T xs).length ≤ (allF T W (turned W T xs)).length := by
  have e0 : ((allF W T xs).map (turnedI W T)).length = (allF W T xs).length := by simp
  rw [← e0]
  refine nodup_le _ _ (map_nodup _ (allF_nodup _ _ _) fun A hA B hB e => ?_) fun M hM => ?_
  · have h1 := turned_four (tok_lokP (allF_each hA).2)
    have h2 := turned_four (tok_lokP (allF_each hB).2)
    rw [← h1, ← h2, e]
  · obtain ⟨A, hA, rfl⟩ := List.mem_map.1 hM
    exact mem_allF (tok_turned (allF_each hA).2)
theorem all_flipped_le {W T : Nat} {xs : List Bool} : (allF W T xs).length ≤ (allF W T (flipped W T xs)).length := by
  have e0 : ((allF W T xs).map (flippedI W T)).length = (allF W T xs).length := by simp
  rw [← e0]
  refine nodup_le _ _ (map_nodup _ (allF_nodup _ _ _) fun A hA B hB e => ?_) fun M hM => ?_
  · have h1 := flipped_two (tok_lokP (allF_each hA).2)
    have h2 := flipped_two (tok_lokP (allF_each hB).2)
    rw [← h1, ← h2, e]
  · obtain ⟨A, hA, rfl⟩ := List.mem_map.1 hM
    exact mem_allF (tok_flipped (allF_each hA).2)
theorem turned_four_b {W T : Nat} {xs : List Bool} (hW : W ≤ 6) (hT : T ≤ 6) (hW0 : 0 < W) (hT0 : 0 < T) (hl : xs.length = W * T) : turned T W (turned W T (turned T W (turned W T xs))) = xs := by
  refine list_ext (by rw [turned_len, hl, Nat.mul_comm]) fun j hj => ?_
  rw [turned_len, Nat.mul_comm] at hj
  have h1 : tSrc T W j < T * W := tSrc_lt hT0 hW0 (by rw [Nat.mul_comm]; exact hj)
  have h2 : tSrc W T (tSrc T W j) < W * T := tSrc_lt hW0 hT0 (by rw [Nat.mul_comm]; exact h1)
  have h3 : tSrc T W (tSrc W T (tSrc T W j)) < T * W := tSrc_lt hT0 hW0 (by rw [Nat.mul_comm]; exact h2)
  rw [turned_at _ (by rw [Nat.mul_comm]; exact hj), turned_at _ (by rw [Nat.mul_comm]; exact h1), turned_at _ (by rw [Nat.mul_comm]; exact h2), turned_at _ (by rw [Nat.mul_comm]; exact h3), four_src hW hT hj]
/-- Turned and mirrored a region has as many tilings. -/
theorem all_turned {W T : Nat} {xs : List Bool} (h : rv W T xs = true) : (allF T W (turned W T xs)).length = (allF W T xs).length := by
  obtain ⟨v1, v2, v3, v4, v5, v6⟩ := rv_parts.1 h
  have a1 := all_turned_le (W := W) (T := T) (xs := xs)
  have a2 := all_turned_le (W := T) (T := W) (xs := turned W T xs)
  have a3 := all_turned_le (W := W) (T := T) (xs := turned T W (turned W T xs))
  have a4 := all_turned_le (W := T) (T := W) (xs := turned W T (turned T W (turned W T xs)))
  rw [turned_four_b v2 v4 (by omega) (by omega) v5] at a4
  omega
theorem all_flipped {W T : Nat} {xs : List Bool} (h : rv W T xs = true) : (allF W T (flipped W T xs)).length = (allF W T xs).length := by
  obtain ⟨v1, v2, v3, v4, v5, v6⟩ := rv_parts.1 h
  have a1 := all_flipped_le (W := W) (T := T) (xs := xs)
  have a2 := all_flipped_le (W := W) (T := T) (xs := flipped W T xs)
  rw [flipped_flipped (by omega) v5] at a2
  omega
end Go.Proofs.Ythjocjiiihebbaa
