/- Contracts of spec.RegionTurn and spec.RegionFlip. Merged of: TurnS, FlipS, TurnRet. -/
import Derived.Test.YtpcajacekmidbaaTurn
import Derived.Test.YtpcajacekmidbaaFlip
import Derived.Test.YtpcajacekmidbaaBox
namespace Go.Proofs.Ytpcajacekmidbaa
open Go.RowKit
set_option linter.unusedVariables false
set_option maxRecDepth 100000
set_option linter.unusedSimpArgs false

def falses (n : Nat) : Array Value := ((List.replicate n false).map Value.bool).toArray
theorem run_makeB (n : Nat) (hn : n ≤ 1048576) (w : World) : (Instr.makeSlice 23 (.int .i64 n) (.int .i64 n)).run Try.prog w = .ok (.slice (some ⟨w.heap.size, 0, none⟩) n n) (w.alloc (.cells (falses n) 4)) := by
  obtain ⟨i0, hi, hz0, hz1, hz2⟩ := info_parts infoBool
  have h := run_make (P := Try.prog) w 23 4 i0 (.bool false) Try.underlying23 hi hz0 .i64 .i64 n n (by omega) (by omega) (by rw [hz2]; omega) (by omega)
  rw [h, hz1]
  have e : madeCells (Value.bool false).cells ((n : Int).toNat * 1) = falses n := by
    apply Array.toList_inj.1
    rw [made_bools]; simp [falses]
  rw [e]; simp

theorem rowB_new (w : World) (n : Nat) {B : Nat} (hn : n ≤ maxLen) (hB : B ≤ w.heap.size) : RowB (w.alloc (.cells (falses n) 4)) B w.heap.size n n (fun _ => false) := by
  have h := World.ownsRow_lit (base := B) (e := 4) (size := 1) w (falses n) n hB hn (by simp [falses])
  unfold RowB
  rw [tab_const]
  simpa [falses] using h
theorem rowB_new2 (w : World) (n : Nat) {B : Nat} (o : Obj) (hn : n ≤ maxLen) (hB : B ≤ w.heap.size) : RowB ((w.alloc o).alloc (.cells (falses n) 4)) B (w.heap.size + 1) n n (fun _ => false) := by
  have h := rowB_new (w.alloc o) n (B := B) hn (by simp; omega)
  simpa using h
theorem tDst_int' {W T k : Nat} (hW : 0 < W) (hk : k < W * T) : (((k : Int) % W) * T + T - 1 - (k : Int) / W).toNat = tDst W T k := by
  rw [← tDst_int hW hk]; congr 1; omega

theorem tDst_nat {W T k : Nat} (h : k / W < T) : k % W * T + T - 1 - k / W = tDst W T k := by
  unfold tDst; omega

end Go.Proofs.Ytpcajacekmidbaa

namespace Go.Proofs.Ytpcajacekmidbaa
open Go.RowKit
set_option linter.unusedVariables false
set_option maxRecDepth 100000
set_option linter.unusedSimpArgs false

theorem fIdx_nat {W k : Nat} (hW : 0 < W) : k / W * W + W - 1 - k % W = fIdx W k := by
  have := Nat.mod_lt k hW
  unfold fIdx; omega
theorem fIdx_int' {W k : Nat} (hW : 0 < W) : (((k : Int) / W) * W + W - 1 - (k : Int) % W).toNat = fIdx W k := by
  rw [← fIdx_int hW]; congr 1; omega

end Go.Proofs.Ytpcajacekmidbaa

namespace Go.Proofs.Ytpcajacekmidbaa
open Go.RowKit
set_option linter.unusedVariables false
set_option maxRecDepth 100000

def turnF (W T : Int) (xs : List Bool) : Int × Int × List Bool := if rv W T xs then (T, W, turned W.toNat T.toNat xs) else (0, 0, [])
def flipF (W T : Int) (xs : List Bool) : Int × Int × List Bool := if rv W T xs then (W, T, flipped W.toNat T.toNat xs) else (0, 0, [])

theorem turnF_len (W T : Int) (xs : List Bool) : (turnF W T xs).2.2.length = if rv W T xs then xs.length else 0 := by
  unfold turnF
  by_cases h : rv W T xs = true
  · obtain ⟨v1, v2, v3, v4, v5, _⟩ := rv_true h
    rw [if_pos h, if_pos h]
    simp only [turned, tab_len]
    have e : ((W.toNat * T.toNat : Nat) : Int) = W * T := by rw [Int.natCast_mul, Int.toNat_of_nonneg (by omega), Int.toNat_of_nonneg (by omega)]
    omega
  · rw [Bool.not_eq_true] at h; rw [h]; simp
theorem flipF_len (W T : Int) (xs : List Bool) : (flipF W T xs).2.2.length = if rv W T xs then xs.length else 0 := by
  unfold flipF
  by_cases h : rv W T xs = true
  · obtain ⟨v1, v2, v3, v4, v5, _⟩ := rv_true h
    rw [if_pos h, if_pos h]
    simp only [flipped, tab_len]
    have e : ((W.toNat * T.toNat : Nat) : Int) = W * T := by rw [Int.natCast_mul, Int.toNat_of_nonneg (by omega), Int.toNat_of_nonneg (by omega)]
    omega
  · rw [Bool.not_eq_true] at h; rw [h]; simp

theorem rv_nat {W T : Int} {xs : List Bool} (h : rv W T xs = true) : ∃ (Wn Tn : Nat), W = Wn ∧ T = Tn ∧ xs.length = Wn * Tn := by
  obtain ⟨v1, v2, v3, v4, v5, _⟩ := rv_true h
  refine ⟨W.toNat, T.toNat, by omega, by omega, ?_⟩
  have e : ((W.toNat * T.toNat : Nat) : Int) = W * T := by rw [Int.natCast_mul, Int.toNat_of_nonneg (by omega), Int.toNat_of_nonneg (by omega)]
  omega

end Go.Proofs.Ytpcajacekmidbaa
