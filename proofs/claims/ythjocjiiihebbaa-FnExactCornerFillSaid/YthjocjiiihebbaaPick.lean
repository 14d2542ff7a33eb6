/- Plain facts for what is drawn of a code: lists of bytes, exclusive or. Merged of: DrawM, Pick. -/
import Derived.Test.YthjocjiiihebbaaOwn
namespace Go.Proofs.Ythjocjiiihebbaa
open Go.RowKit
set_option linter.unusedVariables false
set_option maxRecDepth 100000
set_option linter.unusedSimpArgs false

def BytesAt (w : World) (a : Option Addr) (zs : List Int) : Prop :=
  ∀ i, i < zs.length → ∃ b off, a = some ⟨b, off, none⟩ ∧ w.cell? ⟨b, off + i, none⟩ = some (.int .u8 (zs.getD i 0)) ∧ 0 ≤ zs.getD i 0 ∧ zs.getD i 0 < 256
theorem BytesAt.later {w w' : World} {B : Nat} {a : Option Addr} {zs : List Int} (h : BytesAt w a zs) (hb : Below B w w') (hB : w.heap.size ≤ B) : BytesAt w' a zs := by
  intro i hi
  obtain ⟨b, off, rfl, hc, h2⟩ := h i hi
  refine ⟨b, off, rfl, ?_, h2⟩
  have hbl := World.block_lt_of_cell? w _ hc
  exact (hb.cell (p := ⟨b, off + i, none⟩) (Nat.lt_of_lt_of_le hbl hB)).trans hc
theorem BytesAt.below {w w' : World} {a : Option Addr} {zs : List Int} (h : BytesAt w a zs) (hb : Below w.heap.size w w') : BytesAt w' a zs := h.later hb (Nat.le_refl _)
theorem BytesAt.cellAt {w : World} {b off : Nat} {zs : List Int} (h : BytesAt w (some ⟨b, off, none⟩) zs) {i : Nat} (hi : i < zs.length) : w.cell? ⟨b, off + i, none⟩ = some (.int .u8 (zs.getD i 0)) ∧ 0 ≤ zs.getD i 0 ∧ zs.getD i 0 < 256 := by
  obtain ⟨b', off', e, hc, h2⟩ := h i hi
  simp only [Option.some.injEq, Addr.mk.injEq, and_true] at e
  obtain ⟨rfl, rfl⟩ := e
  exact ⟨hc, h2⟩
/-- The bytes lie in a block that was there before a block. -/
def Apart (a : Option Addr) (r : Nat) : Prop := ∀ p, a = some p → p.block < r
theorem BytesAt.grown {w w' : World} {a : Option Addr} {zs : List Int} {r : Nat} (h : BytesAt w a zs) (ha : zs = [] ∨ Apart a r) (hg : w.grownBy w' (some r)) : BytesAt w' a zs := by
  intro i hi
  rcases ha with rfl | ha
  · exact absurd hi (Nat.not_lt_zero i)
  obtain ⟨b, off, rfl, hc, h2⟩ := h i hi
  exact ⟨b, off, rfl, hg.cell hc (fun e => by have h9 := ha _ rfl; simp only [Option.some.injEq] at e; simp only at h9; omega), h2⟩

theorem BytesAt.grown' {w w' : World} {a : Option Addr} {zs : List Int} {r : Nat} {row : Option Nat} (h : BytesAt w a zs) (ha : zs = [] ∨ Apart a r) (hg : w.grownBy w' row) (hr : ∀ k, row = some k → r ≤ k) : BytesAt w' a zs := by
  intro i hi
  rcases ha with rfl | ha
  · exact absurd hi (Nat.not_lt_zero i)
  obtain ⟨b, off, rfl, hc, h2⟩ := h i hi
  exact ⟨b, off, rfl, hg.cell hc (fun e => by have h9 := ha _ rfl; have := hr b e.symm; simp only at h9; omega), h2⟩
theorem ofInt_i64 (a : Nat) (ha : a < 1099511627776) : (BitVec.ofInt 64 (a : Int)).toNat = a := by
  rw [BitVec.ofInt_natCast, BitVec.toNat_ofNat]; exact Nat.mod_eq_of_lt (by omega)
theorem xor_nat (a b : Nat) (ha : a < 1099511627776) (hb : b < 1099511627776) : bits .xor .i64 (a : Int) (b : Int) = ((a ^^^ b : Nat) : Int) ∧ a ^^^ b < 1099511627776 := by
  have hx : a ^^^ b < 2 ^ 40 := Nat.xor_lt_two_pow (by omega) (by omega)
  refine ⟨?_, by omega⟩
  show IntKind.i64.wrap ((BitVec.ofInt 64 (a : Int) ^^^ BitVec.ofInt 64 (b : Int)).toNat : Int) = _
  rw [BitVec.toNat_xor, ofInt_i64 a ha, ofInt_i64 b hb]
  exact IntWalk.i64_in _ (by omega)
theorem xor_bd {x y : Int} (h0 : 0 ≤ x) (h1 : x < 1099511627776) (h2 : 0 ≤ y) (h3 : y < 1099511627776) : 0 ≤ bits .xor .i64 x y ∧ bits .xor .i64 x y < 1099511627776 := by
  obtain ⟨a, rfl⟩ := Int.eq_ofNat_of_zero_le h0
  obtain ⟨b, rfl⟩ := Int.eq_ofNat_of_zero_le h2
  have := xor_nat a b (by omega) (by omega)
  rw [this.1]; omega
end Go.Proofs.Ythjocjiiihebbaa

namespace Go.Proofs.Ythjocjiiihebbaa
open Go.RowKit
set_option linter.unusedVariables false
set_option maxRecDepth 100000
set_option linter.unusedSimpArgs false

/-- A reader in block rb that has picked at most P times. -/
def RD (w : World) (rb P : Nat) : Prop :=
  ∃ (cb : Option Addr) (n cap : Nat) (zs : List Int) (p : Nat), w.heap[rb]? = some (.cells #[.slice cb n cap, .int .i64 p] 80 (0, 0)) ∧ n = zs.length ∧ n ≤ 2000 ∧ BytesAt w cb zs ∧ p ≤ P ∧ (zs = [] ∨ Apart cb rb)
theorem RD.mono {w : World} {rb P P' : Nat} (h : RD w rb P) (hP : P ≤ P') : RD w rb P' := by
  obtain ⟨cb, n, cap, zs, p, h1, h2, h3, h4, h5, h6⟩ := h
  exact ⟨cb, n, cap, zs, p, h1, h2, h3, h4, by omega, h6⟩
theorem RD.lt {w : World} {rb P : Nat} (h : RD w rb P) : rb < w.heap.size := by
  obtain ⟨cb, n, cap, zs, p, h1, _⟩ := h; exact heap_lt h1
theorem RD.below {w w' : World} {rb P : Nat} (h : RD w rb P) (hb : Below w.heap.size w w') : RD w' rb P := by
  obtain ⟨cb, n, cap, zs, p, h1, h2, h3, h4, h5, h6⟩ := h
  exact ⟨cb, n, cap, zs, p, heap_later h1 hb, h2, h3, h4.below hb, h5, h6⟩

theorem grown_set (w : World) (g i : Nat) (v : Value) : w.grownBy (w.setCell ⟨g, i, none⟩ v) (some g) := by
  refine ⟨rfl, rfl, rfl, by simp, fun k _ hk => ?_⟩
  exact Below.heap_setCell w ⟨g, i, none⟩ v k (fun e => hk (by simp at e; rw [e]))
theorem RD.grown {w w' : World} {rb P : Nat} {row : Option Nat} (h : RD w rb P) (hg : w.grownBy w' row) (hr : ∀ k, row = some k → rb < k) : RD w' rb P := by
  obtain ⟨cb, n, cap, zs, p, h1, h2, h3, h4, h5, h6⟩ := h
  exact ⟨cb, n, cap, zs, p, heap_grown h1 hg (fun e => by have := hr rb e; omega), h2, h3, h4.grown' h6 hg (fun k e => by have := hr k e; omega), h5, h6⟩
theorem RD.setFar {w : World} {rb P : Nat} (h : RD w rb P) {g i : Nat} (hg : rb < g) (v : Value) : RD (w.setCell ⟨g, i, none⟩ v) rb P := by
  obtain ⟨cb, n, cap, zs, p, h1, h2, h3, h4, h5, h6⟩ := h
  exact ⟨cb, n, cap, zs, p, heap_set_other h1 (by simp; omega) v, h2, h3, h4.grown' h6 (grown_set w g i v) (fun k e => by cases e; omega), h5, h6⟩
/-- Some number below m was picked. -/
def Picked (rb P m : Nat) (w : World) (e : Ending) (w' : World) : Prop :=
  ∃ v : Nat, v < m ∧ e = .returned (.int .i64 v) ∧ RD w' rb (P + 1) ∧ w.grownBy w' (some rb)

theorem cells2 {w : World} {b : Nat} {x y : Value} {t : TypeId} (h : w.heap[b]? = some (.cells #[x, y] t (0, 0))) :
    w.cell? ⟨b, 0, none⟩ = some x ∧ w.cell? ⟨b, 1, none⟩ = some y := by
  simp [World.cell?, h]
theorem grown_drewN (w : World) (k : Nat) (row : Option Nat) : w.grownBy (w.drewN k) row := ⟨rfl, rfl, rfl, Nat.le_refl _, fun _ _ _ => rfl⟩

theorem rd_next {w : World} {rb P : Nat} {cb : Option Addr} {n cap p : Nat} {zs : List Int} (h1 : w.heap[rb]? = some (.cells #[.slice cb n cap, .int .i64 p] 80 (0, 0))) (h2 : n = zs.length) (h3 : n ≤ 2000) (h4 : BytesAt w cb zs) (h5 : p ≤ P) (h6 : zs = [] ∨ Apart cb rb) :
    RD (w.setCell ⟨rb, 1, none⟩ (.int .i64 ((p : Int) + 1))) rb (P + 1) ∧ w.grownBy (w.setCell ⟨rb, 1, none⟩ (.int .i64 ((p : Int) + 1))) (some rb) := by
  have hg := grown_set w rb 1 (.int .i64 ((p : Int) + 1))
  refine ⟨⟨cb, n, cap, zs, p + 1, ?_, h2, h3, h4.grown h6 hg, by omega, h6⟩, hg⟩
  have := block_setCell (i := 1) h1 (.int .i64 ((p : Int) + 1))
  simpa using this

theorem grown_seq' {a b c : World} {row : Option Nat} (h : a.grownBy b row) (k : b.grownBy c row) : a.grownBy c row :=
  ⟨k.os.trans h.os, k.tape.trans h.tape, k.output.trans h.output, Nat.le_trans h.size k.size, fun i hi hr => (k.block i (Nat.lt_of_lt_of_le hi h.size) hr).trans (h.block i hi hr)⟩
theorem div_bd (p n : Nat) (h : p / n ≤ 100000) : IntKind.i64.wrap ((p : Int) / n) = ((p / n : Nat) : Int) := by
  have e : (p : Int) / n = ((p / n : Nat) : Int) := by push_cast; rfl
  rw [e]; clear e; generalize p / n = q at h ⊢; exact IntWalk.i64_in _ (by omega)

set_option maxHeartbeats 4000000 in
theorem pick_any (rb P m : Nat) (w : World) (hm0 : 1 ≤ m) (hm1 : m ≤ 1000000) (hP : P ≤ 100000) (h : RD w rb P) :
    Calls Try.prog 45 #[.pointer (some ⟨rb, 0, none⟩), .int .i64 m] w (Picked rb P m w) := by
  obtain ⟨cb, n, cap, zs, p, h1, h2, h3, h4, h5, h6⟩ := h
  have HNX := Lib.hid (rd_next h1 h2 h3 h4 h5 h6)
  obtain ⟨c0, c1⟩ := cells2 h1
  have f0 := free3 h1 0
  have f1 := free3 h1 1
  have l1 := heap_lt h1
  have hp : p ≤ 100000 := by omega
  have HA := Lib.hid h4; clear h4
  have HZ := Lib.hid h2; clear h2
  have HAP := Lib.hid h6; clear h6
  by_cases hn : n = 0
  · subst hn
    go_enter Try.func45, Try.ntmps45
    go_wp2
    go_ret
    exact ⟨0, by omega, rfl, HNX.out.1, HNX.out.2⟩
  · obtain ⟨b, off, rfl, -⟩ := HA.out 0 (by rw [← HZ.out]; omega)
    have hbr : ¬ b = rb := by
      rcases HAP.out with e | e
      · have := HZ.out; rw [e] at this; simp at this; omega
      · have := e _ rfl; simp only at this; omega
    have hbr' : ¬ rb = b := fun e => hbr e.symm
    have hn0 : (n : Int) ≠ 0 := by omega
    have hn1 : ((n : Int) == 0) = false := by simpa using hn
    have hmz : (m : Int) ≠ 0 := by omega
    have hmz' : ((m : Int) == 0) = false := by simp; omega
    by_cases hk : p < n
    · obtain ⟨hc, z0, z1⟩ := HA.out.cellAt (i := p) (by rw [← HZ.out]; exact hk)
      obtain ⟨z, hz⟩ : ∃ z, z = zs.getD p 0 := ⟨_, rfl⟩
      rw [← hz] at hc z0 z1
      clear hz
      obtain ⟨zn, rfl⟩ := Int.eq_ofNat_of_zero_le z0
      have e1 : (p : Int) < n := by omega
      go_enter Try.func45, Try.ntmps45
      go_wp2
      go_ret
      exact ⟨zn % m, Nat.mod_lt _ (by omega), ret_int (by simp), HNX.out.1, HNX.out.2⟩
    · have hkn : n ≤ p := by omega
      obtain ⟨q1, hq1⟩ : ∃ q, q = p % n := ⟨_, rfl⟩
      obtain ⟨q2, hq2⟩ : ∃ q, q = (p * 7 + 3) % n := ⟨_, rfl⟩
      obtain ⟨q3, hq3⟩ : ∃ q, q = p / n := ⟨_, rfl⟩
      have l1' : q1 < n := by rw [hq1]; exact Nat.mod_lt _ (by omega)
      have l2' : q2 < n := by rw [hq2]; exact Nat.mod_lt _ (by omega)
      have l3' : q3 ≤ 100000 := by rw [hq3]; exact Nat.le_trans (Nat.div_le_self _ _) hp
      obtain ⟨hc, z0, z1⟩ := HA.out.cellAt (i := q1) (by rw [← HZ.out]; exact l1')
      obtain ⟨hd, y0, y1⟩ := HA.out.cellAt (i := q2) (by rw [← HZ.out]; exact l2')
      obtain ⟨z, hz⟩ : ∃ z, z = zs.getD q1 0 := ⟨_, rfl⟩
      rw [← hz] at hc z0 z1
      obtain ⟨y, hy⟩ : ∃ z, z = zs.getD q2 0 := ⟨_, rfl⟩
      rw [← hy] at hd y0 y1
      have hdd : w.cell? ⟨b, off + q2, none⟩ = some (.int .u8 y) := hd
      obtain ⟨zn, rfl⟩ := Int.eq_ofNat_of_zero_le z0
      obtain ⟨yn, rfl⟩ := Int.eq_ofNat_of_zero_le y0
      have zb : zn < 256 := by omega
      have yb : yn < 256 := by omega
      have e1 : (q1 : Int) < n := by omega
      have e2 : (q2 : Int) < n := by omega
      obtain ⟨X, hX⟩ : ∃ X, X = zn * 131 + yn * 1117 + p * 29 + q3 * 53 := ⟨_, rfl⟩
      have Xb : X < 1099511627776 := by omega
      obtain ⟨hx0, hx1⟩ := xor_bd (x := (X : Int)) (y := (X : Int) / 64) (by omega) (by omega) (by omega) (by omega)
      obtain ⟨Y, hY⟩ : ∃ Y, Y = bits .xor .i64 (X : Int) ((X : Int) / 64) := ⟨_, rfl⟩
      rw [← hY] at hx0 hx1
      obtain ⟨Yn, rfl⟩ := Int.eq_ofNat_of_zero_le hx0
      have HY := Lib.hid hY; clear hY
      have HX := Lib.hid hX; clear hX
      have W1 : IntKind.i64.wrap ((p : Int) * 7) = (p : Int) * 7 := IntWalk.i64_in _ (by omega)
      have W2 : IntKind.i64.wrap ((p : Int) * 7 + 3) = (p : Int) * 7 + 3 := IntWalk.i64_in _ (by clear W1; omega)
      have W3 : IntKind.i64.wrap ((zn : Int) * 131) = (zn : Int) * 131 := IntWalk.i64_in _ (by clear W1 W2; omega)
      have W4 : IntKind.i64.wrap ((yn : Int) * 1117) = (yn : Int) * 1117 := IntWalk.i64_in _ (by clear W1 W2 W3; omega)
      have W5 : IntKind.i64.wrap ((zn : Int) * 131 + (yn : Int) * 1117) = (zn : Int) * 131 + (yn : Int) * 1117 := IntWalk.i64_in _ (by clear W1 W2 W3 W4; omega)
      have W6 : IntKind.i64.wrap ((p : Int) * 29) = (p : Int) * 29 := IntWalk.i64_in _ (by clear W1 W2 W3 W4 W5; omega)
      have W7 : IntKind.i64.wrap ((zn : Int) * 131 + (yn : Int) * 1117 + (p : Int) * 29) = (zn : Int) * 131 + (yn : Int) * 1117 + (p : Int) * 29 := IntWalk.i64_in _ (by clear W1 W2 W3 W4 W5 W6; omega)
      have W8 : IntKind.i64.wrap ((q3 : Int) * 53) = (q3 : Int) * 53 := IntWalk.i64_in _ (by clear W1 W2 W3 W4 W5 W6 W7; omega)
      have W9 : IntKind.i64.wrap ((zn : Int) * 131 + (yn : Int) * 1117 + (p : Int) * 29 + (q3 : Int) * 53) = (X : Int) := by
        rw [IntWalk.i64_in _ (by clear W1 W2 W3 W4 W5 W6 W7 W8; omega), HX.out]; push_cast; rfl
      have WX : (zn : Int) * 131 + (yn : Int) * 1117 + (p : Int) * 29 + (q3 : Int) * 53 = (X : Int) := by rw [HX.out]; push_cast; rfl
      have T1 : (p : Int).tmod n = (q1 : Int) := by rw [hq1, Int.tmod_eq_emod_of_nonneg (by clear W1 W2 W3 W4 W5 W6 W7 W8 W9 WX; omega)]; push_cast; rfl
      have T2 : ((p : Int) * 7 + 3).tmod n = (q2 : Int) := by rw [hq2, Int.tmod_eq_emod_of_nonneg (by clear W1 W2 W3 W4 W5 W6 W7 W8 W9 WX T1; omega)]; push_cast; rfl
      have T3 : IntKind.i64.wrap ((p : Int) / n) = (q3 : Int) := by rw [hq3]; exact div_bd p n (by rw [← hq3]; exact l3')
      have T4 : (p : Int).tdiv n = (q3 : Int) := by rw [hq3, Int.tdiv_eq_ediv_of_nonneg (Int.natCast_nonneg _)]; push_cast; rfl
      clear hq1 hq2 hq3 hz hy Xb hx1
      go_enter Try.func45, Try.ntmps45
      go_wp2
      go_big_quiet (fail)
      have HYr : bits .xor .i64 (X : Int) ((X : Int) / 64) = (Yn : Int) := HY.out.symm
      go_wp2
      go_ret
      exact ⟨Yn % m, Nat.mod_lt _ (by clear W1 W2 W3 W4 W5 W6 W7 W8 W9 WX T1 T2 T3 T4 HYr; omega), ret_int (by simp), HNX.out.1.below (drewN_below _ _), grown_seq' HNX.out.2 (grown_drewN _ _ _)⟩
end Go.Proofs.Ythjocjiiihebbaa
