/- The four contracts of turning and mirroring in one form: what is returned, whatever the region. -/
import Derived.Test.YtdmnfafmbdmjmaaFlipS
import Derived.Test.YtdmnfafmbdmjmaaBox
namespace Go.Proofs.Ytdmnfafmbdmjmaa
open Go.RowKit
set_option linter.unusedVariables false
set_option maxRecDepth 100000

def turnF (W T : Int) (xs : List Bool) : Int × Int × List Bool := if rv W T xs then (T, W, turned W.toNat T.toNat xs) else (0, 0, [])
def flipF (W T : Int) (xs : List Bool) : Int × Int × List Bool := if rv W T xs then (W, T, flipped W.toNat T.toNat xs) else (0, 0, [])

theorem turnF_len (W T : Int) (xs : List Bool) : (turnF W T xs).2.2.length = if rv W T xs then xs.length else 0 := by
  unfold turnF
  by_cases h : rv W T xs = true
  · obtain ⟨v1, v2, v3, v4, v5, _⟩ := rv_true h
    rw [if_pos h, if_pos h]
    simp only [turned, tab_len]
    have e : ((W.toNat * T.toNat : Nat) : Int) = W * T := by rw [Int.natCast_mul, Int.toNat_of_nonneg (by omega), Int.toNat_of_nonneg (by omega)]
    omega
  · rw [Bool.not_eq_true] at h; rw [h]; simp
theorem flipF_len (W T : Int) (xs : List Bool) : (flipF W T xs).2.2.length = if rv W T xs then xs.length else 0 := by
  unfold flipF
  by_cases h : rv W T xs = true
  · obtain ⟨v1, v2, v3, v4, v5, _⟩ := rv_true h
    rw [if_pos h, if_pos h]
    simp only [flipped, tab_len]
    have e : ((W.toNat * T.toNat : Nat) : Int) = W * T := by rw [Int.natCast_mul, Int.toNat_of_nonneg (by omega), Int.toNat_of_nonneg (by omega)]
    omega
  · rw [Bool.not_eq_true] at h; rw [h]; simp

theorem rv_nat {W T : Int} {xs : List Bool} (h : rv W T xs = true) : ∃ (Wn Tn : Nat), W = Wn ∧ T = Tn ∧ xs.length = Wn * Tn := by
  obtain ⟨v1, v2, v3, v4, v5, _⟩ := rv_true h
  refine ⟨W.toNat, T.toNat, by omega, by omega, ?_⟩
  have e : ((W.toNat * T.toNat : Nat) : Int) = W * T := by rw [Int.natCast_mul, Int.toNat_of_nonneg (by omega), Int.toNat_of_nonneg (by omega)]
  omega

end Go.Proofs.Ytdmnfafmbdmjmaa
