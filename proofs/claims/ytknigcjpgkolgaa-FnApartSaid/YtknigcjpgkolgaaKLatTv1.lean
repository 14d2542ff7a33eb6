/- Plain facts: right heights are those of exactly one tiling, the one that they tell. -/
import Derived.Test.YtknigcjpgkolgaaKLatT
namespace Go.Proofs.Ytknigcjpgkolgaa
open Go.RowKit
set_option linter.unusedVariables false
set_option maxRecDepth 100000
set_option linter.unusedSimpArgs false

/-- What right heights tell: a tiling of which they are the heights. -/
theorem tby_to {W T : Int} {xs : List Bool} {H : List Int} (h : hokB W T xs H = true) : simpleB W T xs = true ∧ (tbyF W T xs H).2 = true ∧ tok W T xs (tbyF W T xs H).1 = true ∧ HtsR W T xs (tbyF W T xs H).1 H := by
  have hs : simpleB W T xs = true := by unfold hokB at h; simp only [Bool.and_eq_true] at h; exact h.1.1.1.1
  obtain ⟨N, fk, hN, hf⟩ := hokP_size hs
  have hp := hok_to hN hf h
  have eN : ((W + 1) * (T + 1)).toNat = N := by omega
  unfold tbyF
  rw [if_pos h, eN]
  refine ⟨hs, rfl, tby_tok hp, Or.inl ⟨by rw [hs, tby_tok hp]; rfl, ?_⟩⟩
  rw [eN]; exact tby_hts hp
end Go.Proofs.Ytknigcjpgkolgaa
