/- Contracts of the functions TilingTurn and TilingFlip. -/
import Derived.Test.YthjocjiiihebbaaLayOne
import Derived.Test.YthjocjiiihebbaaTurn
import Derived.Test.YthjocjiiihebbaaFlip
namespace Go.Proofs.Ythjocjiiihebbaa
open Go.RowKit
set_option linter.unusedVariables false
set_option maxRecDepth 100000
set_option linter.unusedSimpArgs false

def turnW (v : Int) : Int := if v = 0 then 0 else v % 4 + 1
def flipW (v : Int) : Int := if v = 1 ∨ v = 3 then backI v else v
def tPartI (W T : Nat) (L : List Int) (k j : Nat) : Int := if tSrc W T j < k then turnW (L.getD (tSrc W T j) 0) else 0
def fPartI (W T : Nat) (L : List Int) (k j : Nat) : Int := if fIdx W j < k then flipW (L.getD (fIdx W j) 0) else 0
def turnedI (W T : Nat) (L : List Int) : List Int := tabI (W * T) fun j => turnW (L.getD (tSrc W T j) 0)
def flippedI (W T : Nat) (L : List Int) : List Int := tabI (W * T) fun j => flipW (L.getD (fIdx W j) 0)
def turnLF (W T : Int) (xs : List Bool) (L : List Int) : List Int := if lok W T xs L then turnedI W.toNat T.toNat L else []
def flipLF (W T : Int) (xs : List Bool) (L : List Int) : List Int := if lok W T xs L then flippedI W.toNat T.toNat L else []
theorem tPartI_step {W T : Nat} (L : List Int) {k : Nat} (hW : 0 < W) (hT : 0 < T) (hk : k < W * T) :
    ∀ j, j < W * T → (if j = tDst W T k then turnW (L.getD k 0) else tPartI W T L k j) = tPartI W T L (k + 1) j := by
  intro j hj
  by_cases e : j = tDst W T k
  · rw [if_pos e, e]; unfold tPartI; rw [tSrc_dst hW hT hk]; simp
  · rw [if_neg e]; unfold tPartI
    have : tSrc W T j ≠ k := fun h => e (by rw [← h, tDst_src hW hT hj])
    have : (tSrc W T j < k) = (tSrc W T j < k + 1) := by apply propext; omega
    simp [this]
theorem tPartI_skip {W T : Nat} (L : List Int) {k : Nat} (h : L.getD k 0 = 0) : ∀ j, tPartI W T L k j = tPartI W T L (k + 1) j := by
  intro j
  unfold tPartI
  by_cases e : tSrc W T j = k
  · rw [e, h]; simp [turnW]
  · have : (tSrc W T j < k) = (tSrc W T j < k + 1) := by apply propext; omega
    simp [this]
theorem tPartI_all {W T : Nat} (L : List Int) (hW : 0 < W) (hT : 0 < T) : ∀ j, j < W * T → tPartI W T L (W * T) j = turnW (L.getD (tSrc W T j) 0) := by
  intro j hj; unfold tPartI; rw [if_pos (tSrc_lt hW hT hj)]
theorem fPartI_step {W T : Nat} (L : List Int) {k : Nat} (hW : 0 < W) (hT : 0 < T) (hk : k < W * T) :
    ∀ j, j < W * T → (if j = fIdx W k then flipW (L.getD k 0) else fPartI W T L k j) = fPartI W T L (k + 1) j := by
  intro j _
  by_cases e : j = fIdx W k
  · rw [if_pos e, e]; unfold fPartI; rw [fIdx_fIdx hW]; simp
  · rw [if_neg e]; unfold fPartI
    have : fIdx W j ≠ k := fun h => e (by rw [← h, fIdx_fIdx hW])
    have : (fIdx W j < k) = (fIdx W j < k + 1) := by apply propext; omega
    simp [this]
theorem fPartI_all {W T : Nat} (L : List Int) (hW : 0 < W) (hT : 0 < T) : ∀ j, j < W * T → fPartI W T L (W * T) j = flipW (L.getD (fIdx W j) 0) := by
  intro j hj; unfold fPartI; rw [if_pos (fIdx_lt hW hj)]
theorem lok_nat {W T : Int} {xs : List Bool} {L : List Int} (h : lok W T xs L = true) : ∃ (Wn Tn : Nat), W = Wn ∧ T = Tn ∧ L.length = Wn * Tn := by
  obtain ⟨h1, h2, _⟩ := lok_rv h
  obtain ⟨v1, v2, v3, v4, v5, _⟩ := rv_true h1
  refine ⟨W.toNat, T.toNat, by omega, by omega, ?_⟩
  have e : ((W.toNat * T.toNat : Nat) : Int) = W * T := by rw [Int.natCast_mul, Int.toNat_of_nonneg (by omega), Int.toNat_of_nonneg (by omega)]
  omega
theorem turnLF_len (W T : Int) (xs : List Bool) (L : List Int) : (turnLF W T xs L).length ≤ L.length := by
  unfold turnLF
  by_cases h : lok W T xs L = true
  · obtain ⟨Wn, Tn, rfl, rfl, hl⟩ := lok_nat h
    rw [if_pos h, hl]; simp [turnedI, tabI_len]
  · rw [if_neg h]; simp
theorem flipLF_len (W T : Int) (xs : List Bool) (L : List Int) : (flipLF W T xs L).length ≤ L.length := by
  unfold flipLF
  by_cases h : lok W T xs L = true
  · obtain ⟨Wn, Tn, rfl, rfl, hl⟩ := lok_nat h
    rw [if_pos h, hl]; simp [flippedI, tabI_len]
  · rw [if_neg h]; simp

theorem ret_slice {a : Option Addr} {n n' cap : Nat} (h : n = n') : Ending.returned (.slice a n cap) = .returned (.slice a n' cap) := by rw [h]

end Go.Proofs.Ythjocjiiihebbaa
