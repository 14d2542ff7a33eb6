/- Plain facts on turning and mirroring lists of truths; nothing here knows of any program. Merged of: TurnMath, Turn. -/
import Derived.Test.YtpcajacekmidbaaOwn
import Derived.Test.YtpcajacekmidbaaDark
import Derived.Test.YtpcajacekmidbaaBox
namespace Go.Proofs.Ytpcajacekmidbaa
set_option linter.unusedVariables false
set_option maxRecDepth 100000

/-- Where a turned region's j-th truth comes from; where the k-th goes. -/
def tSrc (W T j : Nat) : Nat := (T - 1 - j % T) * W + j / T
def tDst (W T k : Nat) : Nat := k % W * T + (T - 1 - k / W)

theorem div_lt_of {W T k : Nat} (hW : 0 < W) (hk : k < W * T) : k / W < T := by
  rw [Nat.div_lt_iff_lt_mul hW, Nat.mul_comm]; exact hk
theorem comb_lt {a b A B : Nat} (ha : a < A) (hb : b < B) : a * B + b < A * B := by
  have : a * B + B ≤ A * B := by rw [← Nat.succ_mul]; exact Nat.mul_le_mul_right B ha
  omega
theorem comb_div {a b B : Nat} (hb : b < B) : (a * B + b) / B = a := by
  rw [Nat.mul_comm, Nat.mul_add_div (by omega), Nat.div_eq_of_lt hb]; omega
theorem comb_mod {a b B : Nat} (hb : b < B) : (a * B + b) % B = b := by
  rw [Nat.mul_comm, Nat.mul_add_mod, Nat.mod_eq_of_lt hb]
theorem comb_eq (k B : Nat) : k / B * B + k % B = k := by
  have := Nat.div_add_mod k B; rw [Nat.mul_comm] at this; exact this

theorem sub_lt {q T : Nat} (h : q < T) : T - 1 - q < T := by omega
theorem sub_sub {q T : Nat} (h : q < T) : T - 1 - (T - 1 - q) = q := by omega
theorem tDst_lt {W T k : Nat} (hW : 0 < W) (hT : 0 < T) (hk : k < W * T) : tDst W T k < W * T :=
  comb_lt (Nat.mod_lt k hW) (sub_lt (div_lt_of hW hk))
theorem tSrc_lt {W T j : Nat} (hW : 0 < W) (hT : 0 < T) (hj : j < W * T) : tSrc W T j < W * T := by
  have h1 : j / T < W := div_lt_of hT (by rw [Nat.mul_comm]; exact hj)
  rw [Nat.mul_comm W T]; exact comb_lt (sub_lt (Nat.mod_lt j hT)) h1
theorem tSrc_dst {W T k : Nat} (hW : 0 < W) (hT : 0 < T) (hk : k < W * T) : tSrc W T (tDst W T k) = k := by
  have h1 := div_lt_of hW hk
  unfold tSrc tDst
  rw [comb_mod (sub_lt h1), comb_div (sub_lt h1), sub_sub h1]
  exact comb_eq k W
theorem tDst_src {W T j : Nat} (hW : 0 < W) (hT : 0 < T) (hj : j < W * T) : tDst W T (tSrc W T j) = j := by
  have h1 : j / T < W := div_lt_of hT (by rw [Nat.mul_comm]; exact hj)
  have h2 := Nat.mod_lt j hT
  unfold tSrc tDst
  rw [comb_mod h1, comb_div h1, sub_sub h2]
  exact comb_eq j T

/-- The turned list behind k rounds, by its index. -/
def tPart (W T : Nat) (xs : List Bool) (k j : Nat) : Bool := decide (tSrc W T j < k) && xs.getD (tSrc W T j) false
def turned (W T : Nat) (xs : List Bool) : List Bool := tab (W * T) fun j => xs.getD (tSrc W T j) false
theorem tPart_step {W T : Nat} (xs : List Bool) {k : Nat} (hW : 0 < W) (hT : 0 < T) (hk : k < W * T) :
    ∀ j, j < W * T → (if j = tDst W T k then xs.getD k false else tPart W T xs k j) = tPart W T xs (k + 1) j := by
  intro j hj
  by_cases e : j = tDst W T k
  · rw [if_pos e, e]; unfold tPart; rw [tSrc_dst hW hT hk]; simp
  · rw [if_neg e]; unfold tPart
    have : tSrc W T j ≠ k := fun h => e (by rw [← h, tDst_src hW hT hj])
    have : (tSrc W T j < k) = (tSrc W T j < k + 1) := by apply propext; omega
    simp [this]
theorem tPart_all {W T : Nat} (xs : List Bool) (hW : 0 < W) (hT : 0 < T) : ∀ j, j < W * T → tPart W T xs (W * T) j = xs.getD (tSrc W T j) false := by
  intro j hj; unfold tPart; simp [tSrc_lt hW hT hj]

/-- The same for mirroring. -/
def fIdx (W k : Nat) : Nat := k / W * W + (W - 1 - k % W)
theorem fIdx_lt {W T k : Nat} (hW : 0 < W) (hk : k < W * T) : fIdx W k < W * T := by
  have h1 := div_lt_of hW hk
  have h2 := Nat.mod_lt k hW
  rw [Nat.mul_comm W T]; exact comb_lt h1 (sub_lt h2)
theorem fIdx_fIdx {W k : Nat} (hW : 0 < W) : fIdx W (fIdx W k) = k := by
  have h2 := Nat.mod_lt k hW
  have h3 : fIdx W k / W = k / W := comb_div (sub_lt h2)
  have h4 : fIdx W k % W = W - 1 - k % W := comb_mod (sub_lt h2)
  have := comb_eq k W
  show fIdx W k / W * W + (W - 1 - fIdx W k % W) = k
  rw [h3, h4, sub_sub h2]; exact this
def fPart (W : Nat) (xs : List Bool) (k j : Nat) : Bool := decide (fIdx W j < k) && xs.getD (fIdx W j) false
def flipped (W T : Nat) (xs : List Bool) : List Bool := tab (W * T) fun j => xs.getD (fIdx W j) false
theorem fPart_step {W : Nat} (xs : List Bool) {k : Nat} (hW : 0 < W) :
    ∀ j, (if j = fIdx W k then xs.getD k false else fPart W xs k j) = fPart W xs (k + 1) j := by
  intro j
  by_cases e : j = fIdx W k
  · rw [if_pos e, e]; unfold fPart; rw [fIdx_fIdx hW]; simp
  · rw [if_neg e]; unfold fPart
    have : fIdx W j ≠ k := fun h => e (by rw [← h, fIdx_fIdx hW])
    have : (fIdx W j < k) = (fIdx W j < k + 1) := by apply propext; omega
    simp [this]
theorem fPart_all {W T : Nat} (xs : List Bool) (hW : 0 < W) : ∀ j, j < W * T → fPart W xs (W * T) j = xs.getD (fIdx W j) false := by
  intro j hj; unfold fPart; simp [fIdx_lt hW hj]
end Go.Proofs.Ytpcajacekmidbaa

namespace Go.Proofs.Ytpcajacekmidbaa
open Go.RowKit
set_option linter.unusedVariables false
set_option maxRecDepth 100000
set_option linter.unusedSimpArgs false

theorem tDst_int {W T k : Nat} (hW : 0 < W) (hk : k < W * T) : (((k : Int) % W) * T + ((T : Int) - 1 - (k : Int) / W)).toNat = tDst W T k := by
  have h1 := div_lt_of hW hk
  have : (((k : Int) % W) * T + ((T : Int) - 1 - (k : Int) / W)) = ((tDst W T k : Nat) : Int) := by
    unfold tDst
    have e : ((T - 1 - k / W : Nat) : Int) = (T : Int) - 1 - ((k / W : Nat) : Int) := by omega
    push_cast
    rw [e]; simp
  rw [this]; simp

end Go.Proofs.Ytpcajacekmidbaa
