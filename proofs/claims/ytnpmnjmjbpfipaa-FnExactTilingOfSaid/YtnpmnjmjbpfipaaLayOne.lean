/- Contracts of the two functions LayOne and of impl.LiftOne. -/
import Derived.Test.YtnpmnjmjbpfipaaLay
import Derived.Test.YtnpmnjmjbpfipaaStepT
namespace Go.Proofs.Ytnpmnjmjbpfipaa
open Go.RowKit
set_option linter.unusedVariables false
set_option maxRecDepth 100000
set_option linter.unusedSimpArgs false

theorem clone_own (la : Option Addr) (m lcap : Nat) (L : List Int) (w : World) (hm : m = L.length) (h0 : 0 < m) (hm' : m ≤ 1048576) (hl : IntsAt w la L) :
    Calls Try.prog 56 #[.slice la m lcap] w fun e w' => ∃ g cap, e = .returned (.slice (some ⟨g, 0, none⟩) m cap) ∧ OwnsI w' w.heap.size (.slice (some ⟨g, 0, none⟩) m cap) L ∧ Below w.heap.size w w' := by
  refine (clone_pos la m lcap L w hm h0 hm' hl).mono fun e w' ⟨a, cap, h1, h2, h3⟩ => ?_
  rcases h2.forms with ⟨_, h5⟩ | ⟨g, cap', h4, _, _⟩
  · rw [h5] at hm; simp at hm; omega
  · simp only [Value.slice.injEq] at h4
    obtain ⟨rfl, _, rfl⟩ := h4
    exact ⟨g, cap, h1, h2, h3⟩

theorem ret_slT {a : Option Addr} {n n' cap : Nat} {v : Value} (h : n = n') : Ending.returned (.tuple #[.slice a n cap, v]) = .returned (.tuple #[.slice a n' cap, v]) := by rw [h]
theorem rv_pos {W T : Int} {n : Nat} (h1 : 1 ≤ W) (h2 : 1 ≤ T) (h : (n : Int) = W * T) : 0 < n := by
  have := Int.mul_pos (show 0 < W by omega) (show 0 < T by omega)
  omega

theorem lift_on {W T : Int} {xs : List Bool} {L : List Int} {n kn : Nat} (h : lok W T xs L = true) (hW : 1 ≤ W) (hn : n = xs.length) (hWT : (n : Int) = W * T) (hk : kn < n) (hz : L.getD kn 0 ≠ 0) :
    ∃ on : Nat, on < n ∧ on ≠ kn ∧ stepI W T kn (L.getD kn 0) = on ∧ cellB W T n kn (L.getD kn 0) = on := by
  have hb := lok_both h (k := kn) (by rw [lok_len' h, ← hn]; exact hk) hz
  simp only [bothB, Bool.and_eq_true, decide_eq_true_eq] at hb
  have h0 := hb.1.1.1
  have hs := step_bd (W := W) (T := T) (k := kn) (way := L.getD kn 0) hW (by omega) (by rw [← hWT]; omega)
  have hne := step_ne hW h0 (by omega : (0 : Int) ≤ kn)
  refine ⟨(stepI W T kn (L.getD kn 0)).toNat, by omega, by omega, by omega, ?_⟩
  unfold cellB
  rw [if_pos ⟨by omega, by omega⟩]
  omega

end Go.Proofs.Ytnpmnjmjbpfipaa
