/- Plain facts: the lesser and the greater ones of two lists of right heights are right. -/
import Derived.Test.YtknigcjpgkolgaaKEdge
namespace Go.Proofs.Ytknigcjpgkolgaa
open Go.RowKit
set_option linter.unusedVariables false
set_option maxRecDepth 100000
set_option linter.unusedSimpArgs false

theorem own_set3 {w : World} {B : Nat} {v : Value} {xs : List Int} (h : OwnsI w B v xs) {b : Nat} (hb : b < B) (x y z : Value) : OwnsI (((w.setCell ⟨b, 0, none⟩ x).setCell ⟨b, 1, none⟩ y).setCell ⟨b, 2, none⟩ z) B v xs :=
  ((h.setBelow (p := ⟨b, 0, none⟩) hb x).setBelow (p := ⟨b, 1, none⟩) hb y).setBelow (p := ⟨b, 2, none⟩) hb z
end Go.Proofs.Ytknigcjpgkolgaa

namespace Go.Proofs.Ytknigcjpgkolgaa
open Go.RowKit
set_option linter.unusedVariables false
set_option maxRecDepth 100000
set_option linter.unusedSimpArgs false

/-- Right heights, fact by fact. -/
structure HokP (W T : Int) (xs : List Bool) (H : List Int) (N fk : Nat) : Prop where
  hs : simpleB W T xs = true
  hN : (W + 1) * (T + 1) = (N : Int)
  fst : frstK W T xs N = fk
  len : H.length = N
  off : ∀ k, k < N → hAt W T xs k = false → H.getD k 0 = 99
  bd : ∀ k, k < N → hAt W T xs k = true → -60 ≤ H.getD k 0 ∧ H.getD k 0 ≤ 60
  side : ∀ k nth, k < N → sUsed W T xs k nth = true → rMay W T xs k nth (H.getD (sTo W k nth).toNat 0 - H.getD k 0) = true
  first : H.getD fk 0 = 0
theorem hokP_size {W T : Int} {xs : List Bool} (hs : simpleB W T xs = true) : ∃ N fk : Nat, (W + 1) * (T + 1) = (N : Int) ∧ frstK W T xs N = fk := by
  obtain ⟨v1, v2, v3, v4, v5, v6⟩ := rv_true (simpleB_rv hs)
  have hcb := corn_bd v1 v2 v3 v4
  obtain ⟨N, hN⟩ := Int.eq_ofNat_of_zero_le (show 0 ≤ (W + 1) * (T + 1) by omega)
  have hfr := simple_first hs hN
  obtain ⟨fk, hfk⟩ := Int.eq_ofNat_of_zero_le hfr
  exact ⟨N, fk, hN, hfk⟩
theorem hok_to {W T : Int} {xs : List Bool} {H : List Int} {N fk : Nat} (hN : (W + 1) * (T + 1) = (N : Int)) (hf : frstK W T xs N = fk) (h : hokB W T xs H = true) : HokP W T xs H N fk := by
  unfold hokB at h
  simp only [Bool.and_eq_true, decide_eq_true_eq, beq_iff_eq] at h
  obtain ⟨⟨⟨⟨hs, hl⟩, hm⟩, hsd⟩, h0⟩ := h
  have el : H.length = N := by omega
  rw [el] at hm hsd h0
  have hm' : ∀ k, k < N → hMay W T xs k (H.getD k 0) = true := by
    intro k hk
    unfold hsMay at hm
    exact List.all_eq_true.1 hm k (List.mem_range.2 hk)
  refine ⟨hs, hN, hf, el, ?_, ?_, ?_, ?_⟩
  · intro k hk ha
    have := hm' k hk
    unfold hMay at this
    rw [ha] at this
    simpa using this
  · intro k hk ha
    have := hm' k hk
    unfold hMay inB at this
    rw [ha] at this
    simpa using this
  · intro k nth hk hu
    exact sdsOk_iff.1 hsd (k, nth) (sidesK_mem.2 ⟨hk, hu⟩)
  · rw [hf] at h0; simpa using h0
end Go.Proofs.Ytknigcjpgkolgaa
