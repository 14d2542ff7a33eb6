/- The law FnExactRegionBox: its walk. -/
import Derived.Test.YtlgmnceicnhhnaaBoxS
import Derived.Test.YtlgmnceicnhhnaaLawValid
namespace Go.Proofs.Ytlgmnceicnhhnaa
open Go.RowKit
set_option linter.unusedVariables false
set_option maxRecDepth 100000
set_option linter.unusedSimpArgs false

def RetReg (w : World) (W T : Int) (n : Nat) (xs : List Bool) (e : Ending) (w' : World) : Prop :=
  ∃ (a : Option Addr) (cap : Nat), e = .returned (.agg #[.int .i64 W, .int .i64 T, .slice a n cap]) ∧ OwnsB w' w.heap.size (.slice a n cap) xs ∧ Below w.heap.size w w'

def boxF (W T : Int) : Int × Int × List Bool := if boxB W T then (W, T, List.replicate (W * T).toNat true) else (0, 0, [])
theorem boxF_len (W T : Int) : (boxF W T).2.2.length ≤ 24 := by
  unfold boxF
  split
  · next h => have := boxB_yes h; simp; omega
  · simp

theorem iRegionBox_ret (W T : Int) (w : World) : Calls Try.prog 64 #[.int .i64 W, .int .i64 T] w (RetReg w (boxF W T).1 (boxF W T).2.1 (boxF W T).2.2.length (boxF W T).2.2) := by
  by_cases h : boxB W T = true
  · have hb := boxB_yes h
    refine (iRegionBox_yes W T (W * T).toNat w h (by omega)).mono ?_
    rintro e w' ⟨g, rfl, ho, hb⟩
    unfold boxF; rw [if_pos h]
    simp only [List.length_replicate]
    exact ⟨_, _, rfl, ho.lower (by omega), hb⟩
  · rw [Bool.not_eq_true] at h
    refine (iRegionBox_no W T w h).mono ?_
    rintro e w' ⟨rfl, hb⟩
    unfold boxF; rw [h]
    exact ⟨_, _, rfl, OwnsB.nil _ _, hb⟩
theorem sRegionBox_ret (W T : Int) (w : World) : Calls Try.prog 88 #[.int .i64 W, .int .i64 T] w (RetReg w (boxF W T).1 (boxF W T).2.1 (boxF W T).2.2.length (boxF W T).2.2) := by
  by_cases h : boxB W T = true
  · have hb := boxB_yes h
    refine (sRegionBox_yes W T (W * T).toNat w h (by omega)).mono ?_
    rintro e w' ⟨g, c, rfl, ho, hb⟩
    unfold boxF; rw [if_pos h]
    simp only [List.length_replicate]
    exact ⟨_, _, rfl, ho.lower (by omega), hb⟩
  · rw [Bool.not_eq_true] at h
    refine (sRegionBox_no W T w h).mono ?_
    rintro e w' ⟨rfl, hb⟩
    unfold boxF; rw [h]
    exact ⟨_, _, rfl, OwnsB.nil _ _, hb⟩

theorem okq {n : Nat} (h : n ≤ 1048576) : ((1 : Int) + n < 0) = False ∧ ((1 : Int) + n != 1 + n) = false := ⟨by simp; omega, by simp⟩

end Go.Proofs.Ytlgmnceicnhhnaa
