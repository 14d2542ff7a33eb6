/- Plain facts: the lesser and the greater ones of two lists of right heights are right. -/
import Derived.Test.YtknigcjpgkolgaaKLatM
namespace Go.Proofs.Ytknigcjpgkolgaa
open Go.RowKit
set_option linter.unusedVariables false
set_option maxRecDepth 100000
set_option linter.unusedSimpArgs false

theorem hokB_len {W T : Int} {xs : List Bool} {H : List Int} (h : hokB W T xs H = true) : (H.length : Int) = (W + 1) * (T + 1) ∧ rv W T xs = true := by
  unfold hokB at h
  simp only [Bool.and_eq_true, decide_eq_true_eq] at h
  exact ⟨h.1.1.1.2, simpleB_rv h.1.1.1.1⟩

end Go.Proofs.Ytknigcjpgkolgaa

namespace Go.Proofs.Ytknigcjpgkolgaa
open Go.RowKit
set_option linter.unusedVariables false
set_option maxRecDepth 100000
set_option linter.unusedSimpArgs false

end Go.Proofs.Ytknigcjpgkolgaa

namespace Go.Proofs.Ytknigcjpgkolgaa
open Go.RowKit
set_option linter.unusedVariables false
set_option maxRecDepth 100000
set_option linter.unusedSimpArgs false

theorem hok_of {W T : Int} {xs : List Bool} {H : List Int} {N fk : Nat} (h : HokP W T xs H N fk) : hokB W T xs H = true := by
  unfold hokB
  simp only [Bool.and_eq_true, decide_eq_true_eq, beq_iff_eq]
  have hN := h.hN
  refine ⟨⟨⟨⟨h.hs, by rw [h.len]; omega⟩, ?_⟩, ?_⟩, ?_⟩
  · rw [h.len]
    unfold hsMay
    rw [List.all_eq_true]
    intro k hk
    have hk := List.mem_range.1 hk
    unfold hMay
    cases ha : hAt W T xs k
    · have := h.off k hk ha
      simpa using this
    · have := h.bd k hk ha
      unfold inB
      simpa using this
  · rw [h.len, sdsOk_iff]
    rintro ⟨k, nth⟩ hs
    obtain ⟨h1, h2⟩ := sidesK_mem.1 hs
    exact h.side k nth h1 h2
  · rw [h.len, h.fst]; simpa using h.first
theorem may_cases {W T : Int} {xs : List Bool} {k : Nat} {nth : Bool} {d : Int} (h : rMay W T xs k nth d = true) : (sRise W k nth = 1 ∨ sRise W k nth = -1) ∧ (d = sRise W k nth ∨ (sBoth W T xs k nth = true ∧ d = -3 * sRise W k nth)) := by
  unfold rMay at h
  simp only [Bool.or_eq_true, Bool.and_eq_true, beq_iff_eq] at h
  exact ⟨by unfold sRise; split <;> simp, h⟩
theorem may_of {W T : Int} {xs : List Bool} {k : Nat} {nth : Bool} {d : Int} (h : d = sRise W k nth ∨ (sBoth W T xs k nth = true ∧ d = -3 * sRise W k nth)) : rMay W T xs k nth d = true := by
  unfold rMay
  simp only [Bool.or_eq_true, Bool.and_eq_true, beq_iff_eq]
  exact h
/-- Right heights differ by multiples of 4. -/
theorem hok_mod {W T : Int} {xs : List Bool} {A B : List Int} {N fk : Nat} (hA : HokP W T xs A N fk) (hB : HokP W T xs B N fk) : ∀ k, hAt W T xs k = true → (A.getD k 0 - B.getD k 0) % 4 = 0 := by
  obtain ⟨v1, v2, v3, v4, v5, v6⟩ := rv_true (simpleB_rv hA.hs)
  have hN := hA.hN
  refine corners_all hA.hs hA.fst (fun k => (A.getD k 0 - B.getD k 0) % 4 = 0) ?_ ?_
  · rw [hA.first, hB.first]; rfl
  · intro k nth hu
    obtain ⟨t0, t1, t2⟩ := sTo_lt v1 hu
    have a := may_cases (hA.side k nth (by omega) hu)
    have b := may_cases (hB.side k nth (by omega) hu)
    omega
theorem hok_length {W T : Int} {xs : List Bool} {A B : List Int} (hA : hokB W T xs A = true) (hB : hokB W T xs B = true) : A.length = B.length := by
  have a := (hokB_len hA).1
  have b := (hokB_len hB).1
  omega
end Go.Proofs.Ytknigcjpgkolgaa
