/- Contracts of impl.bareField and of the two functions RegionBox. Merged of: Box, BoxS, LawBox. -/
import Derived.Test.YtgfeemghpdeblaaOwn
import Derived.Test.YtgfeemghpdeblaaValid
namespace Go.Proofs.Ytgfeemghpdeblaa
open Go.RowKit
set_option linter.unusedVariables false
set_option maxRecDepth 100000
set_option linter.unusedSimpArgs false

theorem made_bools (N : Nat) : (madeCells (Value.bool false).cells (N * 1)).toList = (List.replicate N false).map Value.bool := by
  rw [show (Value.bool false).cells = #[.bool false] from rfl, toList_madeCells_one]; simp

set_option maxHeartbeats 400000 in
theorem bareField_any (W T : Int) (N : Nat) (w : World) (hW0 : 0 ≤ W) (hW1 : W ≤ 100) (hT0 : 0 ≤ T) (hT1 : T ≤ 100) (hN : W * T = N) (hN1 : N ≤ 10000) :
    Calls Try.prog 98 #[.int .i64 W, .int .i64 T] w fun e w' => ∃ g, e = .returned (.agg #[.int .i64 W, .int .i64 T, .slice (some ⟨g, 0, none⟩) N N]) ∧ OwnsB w' (w.heap.size + 1) (.slice (some ⟨g, 0, none⟩) N N) (List.replicate N false) ∧ Below w.heap.size w w' := by
  obtain ⟨i0, hi, hz0, hz1, hz2⟩ := info_parts infoBool
  have b1 : 0 ≤ W * T := by omega
  have b2 : W * T ≤ 10000 := by omega
  have HNN := Lib.hid hN; clear hN
  go_enter Try.func98, Try.ntmps98
  go_wp2_with (at_make; refine wpList_make_full _ rfl _ _ 22 rfl (w.heap.size + 1) 4 i0 (.bool false) 1 Try.underlying22 hi hz0 hz1 _ _ _ _ N rfl rfl HNN.out HNN.out (by rw [hz2]; omega) (by unfold maxLen; omega) (by simp) ?_; intro w1 hown hgrow; have hb := grown_below hgrow; obtain ⟨hc, hf⟩ := bcell hb; have hz : w.heap.size + 1 ≤ w1.heap.size := (by have := hb.size; simp at this; omega); have HOW := Lib.hid hown; clear hown)
  refine bodyPost_ret (v := .agg #[.int .i64 W, .int .i64 T, .slice (some ⟨w.heap.size + 1, 0, none⟩) N N]) (by simp [results, Try.results98, go_sem, hc, hz]) rfl ⟨_, rfl, ?_, ?_⟩
  · have h := HOW.out
    rw [made_bools] at h
    have h' : OwnsB w1 (w.heap.size + 1) (.slice (some ⟨w.heap.size + 1, 0, none⟩) N N) (List.replicate N false) := by unfold OwnsB; simpa using h
    exact h'.set3 (by simp) _ _ _
  · exact below_set3 (below_seq (below1 _ _) hb) (Nat.le_refl _) _ _ _

def boxB (W T : Int) : Bool := sidesB W T && decide (W * T ≤ 24)

theorem boxB_yes {W T : Int} (h : boxB W T = true) : sidesB W T = true ∧ (decide (24 < W * T)) = false ∧ 1 ≤ W ∧ W ≤ 6 ∧ 1 ≤ T ∧ T ≤ 6 ∧ 1 ≤ W * T ∧ W * T ≤ 24 := by
  simp only [boxB, Bool.and_eq_true, decide_eq_true_eq] at h
  have ⟨h1, h2⟩ := h
  simp only [sidesB, decide_eq_true_eq] at h1
  have := mul_bd h1.1 h1.2.1 h1.2.2.1 h1.2.2.2
  exact ⟨h.1, by simp; omega, h1.1, h1.2.1, h1.2.2.1, h1.2.2.2, this.1, h2⟩

end Go.Proofs.Ytgfeemghpdeblaa

namespace Go.Proofs.Ytgfeemghpdeblaa
open Go.RowKit
set_option linter.unusedVariables false
set_option maxRecDepth 100000
set_option linter.unusedSimpArgs false

theorem boxB_ins {W T : Int} (h : boxB W T = true) : inB W 1 6 = true ∧ inB T 1 6 = true := by
  obtain ⟨_, _, a, b, c, d, _, _⟩ := boxB_yes h
  simp [inB]; omega

end Go.Proofs.Ytgfeemghpdeblaa

namespace Go.Proofs.Ytgfeemghpdeblaa
open Go.RowKit
set_option linter.unusedVariables false
set_option maxRecDepth 100000
set_option linter.unusedSimpArgs false

def RetReg (w : World) (W T : Int) (n : Nat) (xs : List Bool) (e : Ending) (w' : World) : Prop :=
  ∃ (a : Option Addr) (cap : Nat), e = .returned (.agg #[.int .i64 W, .int .i64 T, .slice a n cap]) ∧ OwnsB w' w.heap.size (.slice a n cap) xs ∧ Below w.heap.size w w'

def boxF (W T : Int) : Int × Int × List Bool := if boxB W T then (W, T, List.replicate (W * T).toNat true) else (0, 0, [])
theorem boxF_len (W T : Int) : (boxF W T).2.2.length ≤ 24 := by
  unfold boxF
  split
  · next h => have := boxB_yes h; simp; omega
  · simp

theorem okq {n : Nat} (h : n ≤ 1048576) : ((1 : Int) + n < 0) = False ∧ ((1 : Int) + n != 1 + n) = false := ⟨by simp; omega, by simp⟩

end Go.Proofs.Ytgfeemghpdeblaa
