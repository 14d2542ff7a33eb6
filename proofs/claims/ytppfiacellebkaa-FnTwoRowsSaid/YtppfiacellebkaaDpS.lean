/- Contract of spec.TilingsMany. -/
import Derived.Test.YtppfiacellebkaaDpQ
import Derived.Test.YtppfiacellebkaaStepS
import Derived.Test.YtppfiacellebkaaFaultsS
import Derived.Deep.DeepCutAuto
import Derived.Deep.CutBlock
namespace Go.Proofs.Ytppfiacellebkaa
open Go.RowKit Go.Maps
set_option linter.unusedVariables false
set_option maxRecDepth 100000
set_option linter.unusedSimpArgs false

theorem north_zero {W : Int} {s : Nat} (hsB : s < 2 ^ W.toNat) : (s : Int) / 2 ^ W.toNat = 0 := by
  refine Int.ediv_eq_zero_of_lt (by omega) ?_
  have e : (2 : Int) ^ W.toNat = ((2 ^ W.toNat : Nat) : Int) := by simp
  rw [e]
  omega
theorem north_free {W : Int} {s : Nat} (hW0 : 1 ≤ W) (hW1 : W ≤ 6) (hsB : s < 2 ^ W.toNat) (h : s / 2 ^ W.toNat % 2 = 0) : (((s : Int) / 2 ^ W.toNat).tmod 2 == 0) = true := by
  rw [north_zero hsB]; rfl
theorem north_set {W : Int} {s : Nat} (hW0 : 1 ≤ W) (hW1 : W ≤ 6) (hsB : s < 2 ^ W.toNat) (h : s / 2 ^ W.toNat % 2 ≠ 0) : (((s : Int) / 2 ^ W.toNat).tmod 2 == 0) = false := by
  rw [Nat.div_eq_of_lt hsB] at h
  exact absurd rfl h
theorem north_val {W : Int} {s : Nat} (hW0 : 1 ≤ W) (hW1 : W ≤ 6) (hsB : s < 2 ^ W.toNat) : (((s + 2 ^ W.toNat) / 2 : Nat) : Int) = wrap64 ((s : Int) / 2 + wrap64 (2 ^ (W.toNat - 1))) := by
  have hw' : W = 1 ∨ W = 2 ∨ W = 3 ∨ W = 4 ∨ W = 5 ∨ W = 6 := by omega
  rcases hw' with rfl | rfl | rfl | rfl | rfl | rfl <;> simp [wrap64] at hsB ⊢ <;> omega

/-- What the functions TilingsMany answer. -/
def tilT (W T : Int) (xs : List Bool) : Int := if rv W T xs then (dpT W T xs : Int) else -1
def Box (w : World) (b : Nat) (W T : Int) (a : Option Addr) (n cap : Nat) : Prop := w.heap[b]? = some (.cells #[.int .i64 W, .int .i64 T, .slice a n cap] 29 (0, 0))

end Go.Proofs.Ytppfiacellebkaa
