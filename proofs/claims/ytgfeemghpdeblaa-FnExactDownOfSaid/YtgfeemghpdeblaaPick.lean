/- Plain facts for what is drawn of a code: lists of bytes, exclusive or. Merged of: DrawM, Pick. -/
import Derived.Test.YtgfeemghpdeblaaOwn
namespace Go.Proofs.Ytgfeemghpdeblaa
open Go.RowKit
set_option linter.unusedVariables false
set_option maxRecDepth 100000
set_option linter.unusedSimpArgs false

def BytesAt (w : World) (a : Option Addr) (zs : List Int) : Prop :=
  ∀ i, i < zs.length → ∃ b off, a = some ⟨b, off, none⟩ ∧ w.cell? ⟨b, off + i, none⟩ = some (.int .u8 (zs.getD i 0)) ∧ 0 ≤ zs.getD i 0 ∧ zs.getD i 0 < 256
theorem BytesAt.later {w w' : World} {B : Nat} {a : Option Addr} {zs : List Int} (h : BytesAt w a zs) (hb : Below B w w') (hB : w.heap.size ≤ B) : BytesAt w' a zs := by
  intro i hi
  obtain ⟨b, off, rfl, hc, h2⟩ := h i hi
  refine ⟨b, off, rfl, ?_, h2⟩
  have hbl := World.block_lt_of_cell? w _ hc
  exact (hb.cell (p := ⟨b, off + i, none⟩) (Nat.lt_of_lt_of_le hbl hB)).trans hc
theorem BytesAt.below {w w' : World} {a : Option Addr} {zs : List Int} (h : BytesAt w a zs) (hb : Below w.heap.size w w') : BytesAt w' a zs := h.later hb (Nat.le_refl _)
theorem BytesAt.cellAt {w : World} {b off : Nat} {zs : List Int} (h : BytesAt w (some ⟨b, off, none⟩) zs) {i : Nat} (hi : i < zs.length) : w.cell? ⟨b, off + i, none⟩ = some (.int .u8 (zs.getD i 0)) ∧ 0 ≤ zs.getD i 0 ∧ zs.getD i 0 < 256 := by
  obtain ⟨b', off', e, hc, h2⟩ := h i hi
  simp only [Option.some.injEq, Addr.mk.injEq, and_true] at e
  obtain ⟨rfl, rfl⟩ := e
  exact ⟨hc, h2⟩
/-- The bytes lie in a block that was there before a block. -/
def Apart (a : Option Addr) (r : Nat) : Prop := ∀ p, a = some p → p.block < r
theorem BytesAt.grown {w w' : World} {a : Option Addr} {zs : List Int} {r : Nat} (h : BytesAt w a zs) (ha : zs = [] ∨ Apart a r) (hg : w.grownBy w' (some r)) : BytesAt w' a zs := by
  intro i hi
  rcases ha with rfl | ha
  · exact absurd hi (Nat.not_lt_zero i)
  obtain ⟨b, off, rfl, hc, h2⟩ := h i hi
  exact ⟨b, off, rfl, hg.cell hc (fun e => by have h9 := ha _ rfl; simp only [Option.some.injEq] at e; simp only at h9; omega), h2⟩

theorem BytesAt.grown' {w w' : World} {a : Option Addr} {zs : List Int} {r : Nat} {row : Option Nat} (h : BytesAt w a zs) (ha : zs = [] ∨ Apart a r) (hg : w.grownBy w' row) (hr : ∀ k, row = some k → r ≤ k) : BytesAt w' a zs := by
  intro i hi
  rcases ha with rfl | ha
  · exact absurd hi (Nat.not_lt_zero i)
  obtain ⟨b, off, rfl, hc, h2⟩ := h i hi
  exact ⟨b, off, rfl, hg.cell hc (fun e => by have h9 := ha _ rfl; have := hr b e.symm; simp only at h9; omega), h2⟩
theorem ofInt_i64 (a : Nat) (ha : a < 1099511627776) : (BitVec.ofInt 64 (a : Int)).toNat = a := by
  rw [BitVec.ofInt_natCast, BitVec.toNat_ofNat]; exact Nat.mod_eq_of_lt (by omega)
theorem xor_nat (a b : Nat) (ha : a < 1099511627776) (hb : b < 1099511627776) : bits .xor .i64 (a : Int) (b : Int) = ((a ^^^ b : Nat) : Int) ∧ a ^^^ b < 1099511627776 := by
  have hx : a ^^^ b < 2 ^ 40 := Nat.xor_lt_two_pow (by omega) (by omega)
  refine ⟨?_, by omega⟩
  show IntKind.i64.wrap ((BitVec.ofInt 64 (a : Int) ^^^ BitVec.ofInt 64 (b : Int)).toNat : Int) = _
  rw [BitVec.toNat_xor, ofInt_i64 a ha, ofInt_i64 b hb]
  exact IntWalk.i64_in _ (by omega)
theorem xor_bd {x y : Int} (h0 : 0 ≤ x) (h1 : x < 1099511627776) (h2 : 0 ≤ y) (h3 : y < 1099511627776) : 0 ≤ bits .xor .i64 x y ∧ bits .xor .i64 x y < 1099511627776 := by
  obtain ⟨a, rfl⟩ := Int.eq_ofNat_of_zero_le h0
  obtain ⟨b, rfl⟩ := Int.eq_ofNat_of_zero_le h2
  have := xor_nat a b (by omega) (by omega)
  rw [this.1]; omega
end Go.Proofs.Ytgfeemghpdeblaa

namespace Go.Proofs.Ytgfeemghpdeblaa
open Go.RowKit
set_option linter.unusedVariables false
set_option maxRecDepth 100000
set_option linter.unusedSimpArgs false

theorem grown_set (w : World) (g i : Nat) (v : Value) : w.grownBy (w.setCell ⟨g, i, none⟩ v) (some g) := by
  refine ⟨rfl, rfl, rfl, by simp, fun k _ hk => ?_⟩
  exact Below.heap_setCell w ⟨g, i, none⟩ v k (fun e => hk (by simp at e; rw [e]))
theorem cells2 {w : World} {b : Nat} {x y : Value} {t : TypeId} (h : w.heap[b]? = some (.cells #[x, y] t (0, 0))) :
    w.cell? ⟨b, 0, none⟩ = some x ∧ w.cell? ⟨b, 1, none⟩ = some y := by
  simp [World.cell?, h]
theorem grown_drewN (w : World) (k : Nat) (row : Option Nat) : w.grownBy (w.drewN k) row := ⟨rfl, rfl, rfl, Nat.le_refl _, fun _ _ _ => rfl⟩

theorem grown_seq' {a b c : World} {row : Option Nat} (h : a.grownBy b row) (k : b.grownBy c row) : a.grownBy c row :=
  ⟨k.os.trans h.os, k.tape.trans h.tape, k.output.trans h.output, Nat.le_trans h.size k.size, fun i hi hr => (k.block i (Nat.lt_of_lt_of_le hi h.size) hr).trans (h.block i hi hr)⟩
theorem div_bd (p n : Nat) (h : p / n ≤ 100000) : IntKind.i64.wrap ((p : Int) / n) = ((p / n : Nat) : Int) := by
  have e : (p : Int) / n = ((p / n : Nat) : Int) := by push_cast; rfl
  rw [e]; clear e; generalize p / n = q at h ⊢; exact IntWalk.i64_in _ (by omega)

end Go.Proofs.Ytgfeemghpdeblaa
