/- Lists of dominoes turned and mirrored: they are right for the field turned and mirrored. -/
import Derived.Test.YtlnnoeojgdeagaaLayOne
import Derived.Test.YtlnnoeojgdeagaaTurnIS
import Derived.Test.YtlnnoeojgdeagaaFlipM
import Derived.Test.YtlnnoeojgdeagaaLaidP
namespace Go.Proofs.Ytlnnoeojgdeagaa
open Go.RowKit
set_option linter.unusedVariables false
set_option maxRecDepth 100000
set_option linter.unusedSimpArgs false

def ckTurn (W T k v : Nat) : Bool := decide (stepI W T k v < 0) || (stepI T W (tDst W T k) ((v % 4 + 1 : Nat) : Int) == ((tDst W T (stepI W T k v).toNat : Nat) : Int))
def ckFlip (W T k v : Nat) : Bool := decide (stepI W T k v < 0) || (stepI W T (fIdx W k) (flipW v) == ((fIdx W (stepI W T k v).toNat : Nat) : Int))
def ckFour (W T j : Nat) : Bool := tSrc W T (tSrc T W (tSrc W T (tSrc T W j))) == j
theorem ckTurn_all : ((List.range 7).all fun W => (List.range 7).all fun T => (List.range (W * T)).all fun k => (List.range 5).all fun v => ckTurn W T k v) = true := by decide +kernel
theorem ckFlip_all : ((List.range 7).all fun W => (List.range 7).all fun T => (List.range (W * T)).all fun k => (List.range 5).all fun v => ckFlip W T k v) = true := by decide +kernel
theorem ckFour_all : ((List.range 7).all fun W => (List.range 7).all fun T => (List.range (W * T)).all fun j => ckFour W T j) = true := by decide +kernel
theorem all4 {p : Nat → Nat → Nat → Nat → Bool} (h : ((List.range 7).all fun W => (List.range 7).all fun T => (List.range (W * T)).all fun k => (List.range 5).all fun v => p W T k v) = true) {W T k v : Nat} (hW : W ≤ 6) (hT : T ≤ 6) (hk : k < W * T) (hv : v ≤ 4) : p W T k v = true := by
  have h1 := List.all_eq_true.1 h W (List.mem_range.2 (by omega))
  have h2 := List.all_eq_true.1 h1 T (List.mem_range.2 (by omega))
  have h3 := List.all_eq_true.1 h2 k (List.mem_range.2 hk)
  exact List.all_eq_true.1 h3 v (List.mem_range.2 (by omega))
theorem step_turn {W T k : Nat} {way : Int} {o : Nat} (hW : W ≤ 6) (hT : T ≤ 6) (hk : k < W * T) (hw : 1 ≤ way ∧ way ≤ 4) (h : stepI W T k way = o) : stepI T W (tDst W T k : Nat) (way % 4 + 1) = ((tDst W T o : Nat) : Int) := by
  obtain ⟨v, rfl⟩ := Int.eq_ofNat_of_zero_le (show 0 ≤ way by omega)
  have := all4 ckTurn_all hW hT hk (show v ≤ 4 by omega)
  unfold ckTurn at this
  rw [h] at this
  simp only [Bool.or_eq_true, decide_eq_true_eq, beq_iff_eq, Int.toNat_natCast] at this
  rcases this with h1 | h1
  · omega
  · rw [← h1]; rfl
theorem step_flip {W T k : Nat} {way : Int} {o : Nat} (hW : W ≤ 6) (hT : T ≤ 6) (hk : k < W * T) (hw : 1 ≤ way ∧ way ≤ 4) (h : stepI W T k way = o) : stepI W T (fIdx W k : Nat) (flipW way) = ((fIdx W o : Nat) : Int) := by
  obtain ⟨v, rfl⟩ := Int.eq_ofNat_of_zero_le (show 0 ≤ way by omega)
  have := all4 ckFlip_all hW hT hk (show v ≤ 4 by omega)
  unfold ckFlip at this
  rw [h] at this
  simp only [Bool.or_eq_true, decide_eq_true_eq, beq_iff_eq, Int.toNat_natCast] at this
  rcases this with h1 | h1
  · omega
  · exact h1
theorem four_src {W T j : Nat} (hW : W ≤ 6) (hT : T ≤ 6) (hj : j < W * T) : tSrc W T (tSrc T W (tSrc W T (tSrc T W j))) = j := by
  have h1 := List.all_eq_true.1 ckFour_all W (List.mem_range.2 (by omega))
  have h2 := List.all_eq_true.1 h1 T (List.mem_range.2 (by omega))
  have h3 := List.all_eq_true.1 h2 j (List.mem_range.2 hj)
  exact beq_iff_eq.1 h3
theorem turnedI_len (W T : Nat) (L : List Int) : (turnedI W T L).length = W * T := by simp [turnedI, tabI_len]
theorem flippedI_len (W T : Nat) (L : List Int) : (flippedI W T L).length = W * T := by simp [flippedI, tabI_len]
theorem turnedI_at {W T : Nat} (L : List Int) {j : Nat} (hj : j < W * T) : (turnedI W T L).getD j 0 = turnW (L.getD (tSrc W T j) 0) := tabI_getD _ hj
theorem flippedI_at {W T : Nat} (L : List Int) {j : Nat} (hj : j < W * T) : (flippedI W T L).getD j 0 = flipW (L.getD (fIdx W j) 0) := tabI_getD _ hj
theorem lok_parts {W T : Nat} {xs : List Bool} {L : List Int} (h : lok W T xs L = true) : rv W T xs = true ∧ 1 ≤ W ∧ W ≤ 6 ∧ 1 ≤ T ∧ T ≤ 6 ∧ xs.length = W * T ∧ L.length = W * T := by
  obtain ⟨hr, hlen, _⟩ := lok_rv h
  obtain ⟨v1, v2, v3, v4, v5, v6⟩ := rv_parts.1 hr
  exact ⟨hr, v1, v2, v3, v4, v5, by rw [hlen, v5]⟩
/-- A list that is right, turned, is right for the region turned. -/
theorem lok_turned {W T : Nat} {xs : List Bool} {L : List Int} (h : lok W T xs L = true) : lok T W (turned W T xs) (turnedI W T L) = true := by
  obtain ⟨hr, v1, v2, v3, v4, v5, v6⟩ := lok_parts h
  have hW : 0 < W := by omega
  have hT : 0 < T := by omega
  refine lok_of (rv_turned hr) (by rw [turnedI_len, turned_len]) fun j hj hz => ?_
  rw [turned_len] at hj
  rw [turnedI_at L hj] at hz ⊢
  have hk := tSrc_lt hW hT hj
  have hjs := tDst_src hW hT hj
  obtain ⟨k, hkk⟩ : ∃ k, k = tSrc W T j := ⟨_, rfl⟩
  rw [← hkk] at hz hk hjs ⊢
  have hLk : L.getD k 0 ≠ 0 := by intro e; rw [e] at hz; exact hz rfl
  obtain ⟨o, hs, ho, hne, hx, hxo, hb, _, w1, w4⟩ := lok_at h (by rw [v5]; exact hk) hLk
  have how := tDst_lt hW hT (show o < W * T by rw [← v5]; exact ho)
  have e1 : turnW (L.getD k 0) = L.getD k 0 % 4 + 1 := by unfold turnW; rw [if_neg hLk]
  refine ⟨tDst W T o, ?_, ?_, ?_, ?_⟩
  · rw [e1, ← hjs]; exact step_turn v2 v4 hk ⟨w1, w4⟩ hs
  · rw [turned_at xs hj, ← hkk]; exact hx
  · rw [turned_at xs how, tSrc_dst hW hT (by rw [← v5]; exact ho)]; exact hxo
  · rw [turnedI_at L how, tSrc_dst hW hT (by rw [← v5]; exact ho), hb, e1]
    unfold turnW backI
    rw [if_neg (by omega)]
    omega
theorem lok_flipped {W T : Nat} {xs : List Bool} {L : List Int} (h : lok W T xs L = true) : lok W T (flipped W T xs) (flippedI W T L) = true := by
  obtain ⟨hr, v1, v2, v3, v4, v5, v6⟩ := lok_parts h
  have hW : 0 < W := by omega
  have hT : 0 < T := by omega
  refine lok_of (rv_flipped hr) (by rw [flippedI_len, flipped_len]) fun j hj hz => ?_
  rw [flipped_len] at hj
  rw [flippedI_at L hj] at hz ⊢
  have hk := fIdx_lt (T := T) hW hj
  have hjs := fIdx_fIdx (k := j) hW
  obtain ⟨k, hkk⟩ : ∃ k, k = fIdx W j := ⟨_, rfl⟩
  rw [← hkk] at hz hk hjs ⊢
  have hLk : L.getD k 0 ≠ 0 := by intro e; rw [e] at hz; exact hz rfl
  obtain ⟨o, hs, ho, hne, hx, hxo, hb, _, w1, w4⟩ := lok_at h (by rw [v5]; exact hk) hLk
  have how := fIdx_lt (T := T) hW (show o < W * T by rw [← v5]; exact ho)
  refine ⟨fIdx W o, ?_, ?_, ?_, ?_⟩
  · have := step_flip v2 v4 hk ⟨w1, w4⟩ hs
    rw [hjs] at this
    exact this
  · rw [flipped_at xs hj, ← hkk]; exact hx
  · rw [flipped_at xs how, fIdx_fIdx hW]; exact hxo
  · rw [flippedI_at L how, fIdx_fIdx hW, hb]
    unfold flipW backI
    split <;> split <;> omega
theorem turn4 {v : Int} (h0 : 0 ≤ v) (h4 : v ≤ 4) : turnW (turnW (turnW (turnW v))) = v := by
  unfold turnW
  by_cases h : v = 0
  · subst h; rfl
  · rw [if_neg h, if_neg (by omega), if_neg (by omega), if_neg (by omega)]; omega
theorem flip2 {v : Int} (h0 : 0 ≤ v) (h4 : v ≤ 4) : flipW (flipW v) = v := by
  unfold flipW
  by_cases h : v = 1 ∨ v = 3
  · rw [if_pos h]
    rcases h with rfl | rfl <;> rfl
  · rw [if_neg h, if_neg h]
/-- Turned four times a list is as before. -/
theorem turned_four {W T : Nat} {xs : List Bool} {L : List Int} (h : lok W T xs L = true) : turnedI T W (turnedI W T (turnedI T W (turnedI W T L))) = L := by
  obtain ⟨hr, v1, v2, v3, v4, v5, v6⟩ := lok_parts h
  have hW : 0 < W := by omega
  have hT : 0 < T := by omega
  refine ext_getD (by rw [turnedI_len, v6, Nat.mul_comm]) fun j hj => ?_
  rw [turnedI_len, Nat.mul_comm] at hj
  have h1 : tSrc T W j < T * W := tSrc_lt hT hW (by rw [Nat.mul_comm]; exact hj)
  have h2 : tSrc W T (tSrc T W j) < W * T := tSrc_lt hW hT (by rw [Nat.mul_comm]; exact h1)
  have h3 : tSrc T W (tSrc W T (tSrc T W j)) < T * W := tSrc_lt hT hW (by rw [Nat.mul_comm]; exact h2)
  rw [turnedI_at _ (by rw [Nat.mul_comm]; exact hj), turnedI_at _ (by rw [Nat.mul_comm]; exact h1), turnedI_at _ (by rw [Nat.mul_comm]; exact h2), turnedI_at _ (by rw [Nat.mul_comm]; exact h3), four_src v2 v4 hj]
  have := lok_way h (k := j) (by rw [v6]; exact hj)
  exact turn4 this.1 this.2
theorem flipped_two {W T : Nat} {xs : List Bool} {L : List Int} (h : lok W T xs L = true) : flippedI W T (flippedI W T L) = L := by
  obtain ⟨hr, v1, v2, v3, v4, v5, v6⟩ := lok_parts h
  have hW : 0 < W := by omega
  refine ext_getD (by rw [flippedI_len, v6]) fun j hj => ?_
  rw [flippedI_len] at hj
  have h1 : fIdx W j < W * T := fIdx_lt hW hj
  rw [flippedI_at _ hj, flippedI_at _ h1, fIdx_fIdx hW]
  have := lok_way h (k := j) (by rw [v6]; exact hj)
  exact flip2 this.1 this.2
end Go.Proofs.Ytlnnoeojgdeagaa
