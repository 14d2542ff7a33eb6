/- Plain facts: the lesser and the greater ones of two lists of right heights are right. -/
import Derived.Test.YtknigcjpgkolgaaKLatM
namespace Go.Proofs.Ytknigcjpgkolgaa
open Go.RowKit
set_option linter.unusedVariables false
set_option maxRecDepth 100000
set_option linter.unusedSimpArgs false

theorem hok_entry {W T : Int} {xs : List Bool} {H : List Int} (h : hokB W T xs H = true) {k : Nat} (hk : k < H.length) : -60 ≤ H.getD k 0 ∧ H.getD k 0 ≤ 99 := by
  have hs : simpleB W T xs = true := by unfold hokB at h; simp only [Bool.and_eq_true] at h; exact h.1.1.1.1
  obtain ⟨N, fk, hN, hf⟩ := hokP_size hs
  have hp := hok_to hN hf h
  rw [hp.len] at hk
  cases ha : hAt W T xs k
  · have := hp.off k hk ha; omega
  · have := hp.bd k hk ha; omega
end Go.Proofs.Ytknigcjpgkolgaa
