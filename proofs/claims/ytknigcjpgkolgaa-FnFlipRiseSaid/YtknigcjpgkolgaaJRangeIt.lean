/- All tilings with the dominoes of a list: what the iterator over them yields, and what lies in the heap for it. Merged of: IterM, Iter, RangeIt. -/
import Derived.Test.YtknigcjpgkolgaaJLaid
import Derived.Test.YtknigcjpgkolgaaJSetS
import Derived.Deep.DeepCutAuto
import Derived.ArgAppend
import Derived.Deep.LoopGhost
import Derived.Deep.CutBlock
import Derived.Laws.OwnMore
import Derived.Deep.RegionLaw
import Derived.Laws.Bits64b
import Derived.Deep.DeepMust
import Derived.RangeFuncKeeps
import Derived.RangeFuncBound
import Derived.RangeFuncLeaves
import Derived.Shelf.Abstract
import Derived.Shelf.RegionOpen
import Derived.OwnWalkIn
import Derived.TacticsInMore
import Derived.LoopNIn
import Derived.LoopIn
import Derived.RangeFuncFrom
import Derived.RangeFuncBox
import Derived.Laws.EntriesVeiled
namespace Go.Proofs.Ytknigcjpgkolgaa
open Go.RowKit
set_option linter.unusedVariables false
set_option maxRecDepth 100000
set_option linter.unusedSimpArgs false

theorem alive_any (w : World) : Calls Try.prog 20 #[] w fun e w' => e = .returned (.bool true) ∧ Below w.heap.size w w' := by
  go_enter Try.func20, Try.ntmps20
  go_wp2_with fail
  refine (iRegionBox_yes 2 3 6 _ (by decide) (by decide)).mono ?_; rintro e w1 ⟨g, rfl, ho, hb⟩
  have HM : Hid (many 2 3 (List.replicate 6 true) = 6) := by show _ = _; rfl
  go_wp2_with fail
  refine (iCellsMany_any _ _ _ _ _ (List.replicate 6 true) _ rfl (by simp) (OwnsB.at ho)).mono ?_; rintro e w2 ⟨rfl, hb2⟩
  rw [HM.out]
  go_wp2
  go_ret
  exact ⟨rfl, below_seq hb hb2⟩

end Go.Proofs.Ytknigcjpgkolgaa

namespace Go.Proofs.Ytknigcjpgkolgaa
open Go.RowKit
set_option linter.unusedVariables false
set_option maxRecDepth 100000
set_option linter.unusedSimpArgs false

/-- The value is a slice into block g, with the numbers zs. -/
def QAt (w : World) (g : Nat) (v : Value) (zs : List Int) : Prop :=
  ∃ (off cap : Nat) (cs : Array Value), v = .slice (some ⟨g, off, none⟩) zs.length cap ∧ w.heap[g]? = some (.cells cs 3 (0, 0)) ∧ zs.length ≤ cap ∧ off + cap ≤ cs.size ∧ cap ≤ maxLen ∧ ∀ j, j < zs.length → cs[off + j]? = some (.int .i64 (zs.getD j 0))
theorem QAt.kept {w w' : World} {g : Nat} {v : Value} {zs : List Int} (h : QAt w g v zs) (hk : ∀ o, w.heap[g]? = some o → w'.heap[g]? = some o) : QAt w' g v zs := by
  obtain ⟨off, cap, cs, h1, h2, h3⟩ := h; exact ⟨off, cap, cs, h1, hk _ h2, h3⟩
theorem QAt.below {w w' : World} {g : Nat} {v : Value} {zs : List Int} (h : QAt w g v zs) (hb : Below w.heap.size w w') : QAt w' g v zs := h.kept fun _ ho => heap_later ho hb
theorem QAt.one (w : World) (x : Int) : QAt (w.alloc (.cells #[.int .i64 x] 3 (0, 0))) w.heap.size (.slice (some ⟨w.heap.size, 0, none⟩) 1 1) [x] :=
  ⟨0, 1, #[.int .i64 x], rfl, heap_new _ _, Nat.le_refl _, by simp, by decide, fun j hj => by simp at hj; subst hj; rfl⟩
end Go.Proofs.Ytknigcjpgkolgaa

namespace Go.Proofs.Ytknigcjpgkolgaa
open Go.RowKit
set_option linter.unusedVariables false
set_option maxRecDepth 100000
set_option linter.unusedSimpArgs false

/-- Numbers on the sides to the east and to the north. -/
structure Form where
  e : Nat → Nat → Int
  n : Nat → Nat → Int
/-- All four sides of each cell within are as they were. -/
def Form.Agree (V H : Nat) (I : Nat → Nat → Bool) (F G : Form) : Prop :=
  ∀ x y, x < V → y < H → I x y = true → G.e x y = F.e x y ∧ G.e x (y + 1) = F.e x (y + 1) ∧ G.n x y = F.n x y ∧ G.n (x + 1) y = F.n (x + 1) y
theorem Form.Agree.refl {V H : Nat} {I : Nat → Nat → Bool} (F : Form) : Form.Agree V H I F F := fun _ _ _ _ _ => ⟨rfl, rfl, rfl, rfl⟩
theorem Form.Agree.trans {V H : Nat} {I : Nat → Nat → Bool} {F G K : Form} (h : Form.Agree V H I F G) (k : Form.Agree V H I G K) : Form.Agree V H I F K := fun x y a b c => by
  obtain ⟨h1, h2, h3, h4⟩ := h x y a b c
  obtain ⟨k1, k2, k3, k4⟩ := k x y a b c
  exact ⟨k1.trans h1, k2.trans h2, k3.trans h3, k4.trans h4⟩
end Go.Proofs.Ytknigcjpgkolgaa

namespace Go.Proofs.Ytknigcjpgkolgaa
open Go.RowKit
set_option linter.unusedVariables false
set_option maxRecDepth 100000
set_option linter.unusedSimpArgs false

/-- How many corners there are. -/
def cornN (W T : Int) (xs : List Bool) : Int := if rv W T xs then (W + 1) * (T + 1) else -1
theorem corn_bd {W T : Int} (h1 : 1 ≤ W) (h2 : W ≤ 6) (h3 : 1 ≤ T) (h4 : T ≤ 6) : 4 ≤ (W + 1) * (T + 1) ∧ (W + 1) * (T + 1) ≤ 49 := by
  have a : (W + 1) * (T + 1) ≤ 7 * 7 := Int.mul_le_mul (by omega) (by omega) (by omega) (by omega)
  have b : 2 * 2 ≤ (W + 1) * (T + 1) := Int.mul_le_mul (by omega) (by omega) (by omega) (by omega)
  omega

theorem sCornerMany_any (W T : Int) (a : Option Addr) (n cap : Nat) (xs : List Bool) (w : World) (hn : n = xs.length) (hn' : n ≤ 1048576) (ha : BoolsAt w a xs) :
    Calls Try.prog 63 #[.agg #[.int .i64 W, .int .i64 T, .slice a n cap]] w fun e w' => e = .returned (.int .i64 (cornN W T xs)) ∧ Below w.heap.size w w' := by
  have HN := Lib.hid hn; clear hn
  have HA := Lib.hid ha; clear ha
  cases h : rv W T xs
  · have e : cornN W T xs = -1 := by unfold cornN; rw [h]; rfl
    rw [e]
    have H := Lib.hid h; clear h e
    go_enter Try.func63, Try.ntmps63
    go_wp2_with fail
    refine (sRegionValid_any _ _ _ _ _ xs _ HN.out hn' (HA.out.one _)).mono ?_; rintro e w1 ⟨rfl, hb1⟩
    rw [H.out]
    go_wp2
    go_ret
    exact ⟨rfl, below_seq (below1 _ _) hb1⟩
  · obtain ⟨v1, v2, v3, v4, v5, _⟩ := rv_true h
    have e : cornN W T xs = (W + 1) * (T + 1) := by unfold cornN; rw [h, if_pos rfl]
    rw [e]
    have H := Lib.hid h; clear h e v5
    have hb := corn_bd v1 v2 v3 v4
    go_enter Try.func63, Try.ntmps63
    go_wp2_with fail
    refine (sRegionValid_any _ _ _ _ _ xs _ HN.out hn' (HA.out.one _)).mono ?_; rintro e w1 ⟨rfl, hb1⟩
    rw [H.out]
    obtain ⟨c0, c1, c2⟩ := cells3 (heap_later (heap_new w (.cells #[.int .i64 W, .int .i64 T, .slice a n cap] 25)) hb1)
    go_wp2
    go_ret
    exact ⟨rfl, below_seq (below1 _ _) hb1⟩

end Go.Proofs.Ytknigcjpgkolgaa

namespace Go.Proofs.Ytknigcjpgkolgaa
open Go.RowKit
set_option linter.unusedVariables false
set_option maxRecDepth 100000
set_option linter.unusedSimpArgs false

/-- Column and row of a corner. -/
def kx (W : Int) (k : Nat) : Int := (k : Int) % (W + 1)
def ky (W : Int) (k : Nat) : Int := (k : Int) / (W + 1)
/-- Of the side from a corner to the east, or to the north: the column of the cell on its left, the row of the cell on its right, whether they belong to the region, its end. -/
def sLx (W : Int) (k : Nat) (nth : Bool) : Int := if nth then kx W k - 1 else kx W k
def sRy (W : Int) (k : Nat) (nth : Bool) : Int := if nth then ky W k else ky W k - 1
def sLeft (W T : Int) (xs : List Bool) (k : Nat) (nth : Bool) : Bool := atB W T xs (sLx W k nth) (ky W k)
def sRight (W T : Int) (xs : List Bool) (k : Nat) (nth : Bool) : Bool := atB W T xs (kx W k) (sRy W k nth)
def sTo (W : Int) (k : Nat) (nth : Bool) : Int := if nth then (k : Int) + W + 1 else (k : Int) + 1
def sBoth (W T : Int) (xs : List Bool) (k : Nat) (nth : Bool) : Bool := sLeft W T xs k nth && sRight W T xs k nth
def sDark (W : Int) (k : Nat) (nth : Bool) : Bool := decide ((sLx W k nth + ky W k + 2) % 2 = 0)
def sRise (W : Int) (k : Nat) (nth : Bool) : Int := if sDark W k nth then 1 else -1
def sCell (W : Int) (k : Nat) (nth : Bool) : Int := ky W k * W + sLx W k nth
def sWay (nth : Bool) : Int := if nth then 1 else 4

theorem atB_in {W T : Int} {xs : List Bool} {x y : Int} (h : atB W T xs x y = true) : 0 ≤ x ∧ x < W ∧ 0 ≤ y ∧ y < T := by
  unfold atB at h
  rw [Bool.and_eq_true] at h
  simpa [inF] using h.1
end Go.Proofs.Ytknigcjpgkolgaa

namespace Go.Proofs.Ytknigcjpgkolgaa
open Go.RowKit
set_option linter.unusedVariables false
set_option maxRecDepth 100000
set_option linter.unusedSimpArgs false

/-- The entry of a list at a place, or 0 where no cell of the region is. -/
def lv (W T : Int) (xs : List Bool) (L : List Int) (x y : Int) : Int := if atB W T xs x y then L.getD (y * W + x).toNat 0 else 0
theorem place_idx {W T x y : Int} (hx0 : 0 ≤ x) (hx1 : x < W) (hy0 : 0 ≤ y) (hy1 : y < T) : ∃ k : Nat, (k : Int) = y * W + x ∧ (k : Int) % W = x ∧ (k : Int) / W = y ∧ (k : Int) < W * T := by
  obtain ⟨_, h1, h2⟩ := idx_bd hx0 hx1 hy0 hy1
  obtain ⟨k, hk⟩ := Int.eq_ofNat_of_zero_le h1
  refine ⟨k, hk.symm, ?_, ?_, by omega⟩
  · rw [← hk, Int.add_comm, Int.add_mul_emod_self_right, Int.emod_eq_of_lt hx0 hx1]
  · rw [← hk, Int.add_comm, Int.add_mul_ediv_right _ _ (by omega), Int.ediv_eq_zero_of_lt hx0 hx1]; omega
theorem tok_lok1 {W T : Int} {xs : List Bool} {L : List Int} (h : tok W T xs L = true) : lok W T xs L = true := by unfold tok at h; simp only [Bool.and_eq_true] at h; exact h.1
theorem tok_lv {W T : Int} {xs : List Bool} {L : List Int} (h : tok W T xs L = true) {x y : Int} (ha : atB W T xs x y = true) : lv W T xs L x y ≠ 0 := by
  have hl := tok_lok1 h
  obtain ⟨hr, hlen, _⟩ := lok_rv hl
  obtain ⟨v1, v2, v3, v4, v5, _⟩ := rv_true hr
  obtain ⟨a0, a1, a2, a3⟩ := atB_in ha
  obtain ⟨k, hk, kx, ky, hkl⟩ := place_idx a0 a1 a2 a3
  have ek : (y * W + x).toNat = k := by omega
  have hx : xs.getD k false = true := by
    unfold atB at ha
    rw [Bool.and_eq_true, ek] at ha
    exact ha.2
  unfold lv
  rw [ha, if_pos rfl, ek]
  intro h0
  have hf : freeB xs L k = true := by unfold freeB; rw [hx, h0]; rfl
  unfold tok at h
  rw [hl, Bool.true_and, decide_eq_true_eq] at h
  rcases first_cases xs L 0 L.length with ⟨_, hno⟩ | ⟨j, _, _, hj, _⟩
  · have := hno k (Nat.zero_le _) (by omega)
    rw [hf] at this; cases this
  · rw [hj] at h; omega

end Go.Proofs.Ytknigcjpgkolgaa

namespace Go.Proofs.Ytknigcjpgkolgaa
open Go.RowKit
set_option linter.unusedVariables false
set_option maxRecDepth 100000
set_option linter.unusedSimpArgs false

end Go.Proofs.Ytknigcjpgkolgaa

namespace Go.Proofs.Ytknigcjpgkolgaa
open Go.RowKit
set_option linter.unusedVariables false
set_option maxRecDepth 100000
set_option linter.unusedSimpArgs false

/-- The six cells of a side. -/
def sdC (W T : Int) (xs : List Bool) (s : Nat × Bool) : List Value :=
  [.int .i64 s.1, .int .i64 (sTo W s.1 s.2), .int .i64 (sRise W s.1 s.2), .bool (sBoth W T xs s.1 s.2), .int .i64 (if sBoth W T xs s.1 s.2 then sCell W s.1 s.2 else 0), .int .i64 (if sBoth W T xs s.1 s.2 then sWay s.2 else 0)]
/-- A list of sides that the call owns. -/
def OwnsSd (w : World) (B : Nat) (v : Value) (W T : Int) (xs : List Bool) (l : List (Nat × Bool)) : Prop := w.ownsRow B 57 6 v l.length (l.flatMap (sdC W T xs))
theorem OwnsSd.below {w w' : World} {B : Nat} {v : Value} {W T : Int} {xs : List Bool} {l : List (Nat × Bool)} (h : OwnsSd w B v W T xs l) (hb : Below w.heap.size w w') : OwnsSd w' B v W T xs l :=
  World.ownsRow.kept (row := none) h ⟨hb.os, hb.tape, hb.output, hb.size, fun k hk _ => hb.block k hk⟩ (by cases v.ownBlock <;> simp)
theorem OwnsSd.ownBlock {w : World} {B : Nat} {v : Value} {W T : Int} {xs : List Bool} {l : List (Nat × Bool)} (h : OwnsSd w B v W T xs l) {b : Nat} (hb : b < B) : v.ownBlock ≠ some b := fun e => by
  have := World.ownsRow.lt h b e; omega
end Go.Proofs.Ytknigcjpgkolgaa

namespace Go.Proofs.Ytknigcjpgkolgaa
open Go.RowKit
set_option linter.unusedVariables false
set_option maxRecDepth 100000
set_option linter.unusedSimpArgs false

/-- The blocks of S lie as they lay. -/
structure ItKeeps (S : Nat → Prop) (A B : World) : Prop where
  size : A.heap.size ≤ B.heap.size
  same : ∀ k, S k → k < A.heap.size → B.heap[k]? = A.heap[k]?
theorem ItKeeps.refl (S : Nat → Prop) (A : World) : ItKeeps S A A := ⟨Nat.le_refl _, fun _ _ _ => rfl⟩
theorem ItKeeps.trans {S : Nat → Prop} {A B C : World} (h : ItKeeps S A B) (k : ItKeeps S B C) : ItKeeps S A C :=
  ⟨Nat.le_trans h.size k.size, fun i hi hl => (k.same i hi (Nat.lt_of_lt_of_le hl h.size)).trans (h.same i hi hl)⟩
theorem ItKeeps.heap {S : Nat → Prop} {A B : World} (h : ItKeeps S A B) {b : Nat} {o : Obj} (hb : S b) (hh : A.heap[b]? = some o) : B.heap[b]? = some o := (h.same b hb (heap_lt hh)).trans hh
theorem ItKeeps.bools {S : Nat → Prop} {A B : World} (h : ItKeeps S A B) {a : Option Addr} {xs : List Bool} (hS : ∀ b off, a = some ⟨b, off, none⟩ → S b) (hx : BoolsAt A a xs) : BoolsAt B a xs := by
  intro i hi
  obtain ⟨b, off, rfl, hc⟩ := hx i hi
  refine ⟨b, off, rfl, ?_⟩
  have hlt := World.block_lt_of_cell? A _ hc
  exact (World.cell?_of_block (w := A) (w' := B) (a := ⟨b, off + i, none⟩) (h.same b (hS b off rfl) hlt)).trans hc
/-- What lies in the heap for the iterator: the region, the list in work, the box for yield, the box for the function that calls itself. -/
structure ItAt (w : World) (l rb wx yb fb wb lcap B : Nat) (W T : Int) (a : Option Addr) (n c : Nat) (xs : List Bool) (L : List Int) : Prop where
  reg : w.heap[rb]? = some (.cells #[.int .i64 W, .int .i64 T, .slice a n c] 25 (0, 0))
  bools : BoolsAt w a xs
  work : w.heap[wx]? = some (.cells #[.slice (some ⟨wb, 0, none⟩) n lcap] 26 (0, 0))
  yld : w.heap[yb]? = some (.cells #[.func (.yield l) #[] #[]] 112 (0, 0))
  fn : w.heap[fb]? = some (.cells #[.func (.func 150) #[] #[.pointer (some ⟨rb, 0, none⟩), .pointer (some ⟨wx, 0, none⟩), .pointer (some ⟨yb, 0, none⟩), .pointer (some ⟨fb, 0, none⟩)]] 86 (0, 0))
  list : OwnsI w B (.slice (some ⟨wb, 0, none⟩) n lcap) L

theorem ItAt.below {A D : World} {l rb wx yb fb wb lcap B : Nat} {W T : Int} {a : Option Addr} {n c : Nat} {xs : List Bool} {L : List Int} (h : ItAt A l rb wx yb fb wb lcap B W T a n c xs L) (k : Below A.heap.size A D) : ItAt D l rb wx yb fb wb lcap B W T a n c xs L :=
  ⟨heap_later h.reg k, h.bools.below k, heap_later h.work k, heap_later h.yld k, heap_later h.fn k, h.list.below k⟩
theorem OwnsI.block {w : World} {B g n cap : Nat} {L : List Int} (h : OwnsI w B (.slice (some ⟨g, 0, none⟩) n cap) L) : ∃ cs, w.heap[g]? = some (.cells cs 3 (0, 0)) := by
  rcases h.2 with ⟨hn, _⟩ | ⟨g', cap', cur, hv, hb, hh, r⟩
  · cases hn
  · have e : g = g' := by simp only [Value.slice.injEq, Option.some.injEq, Addr.mk.injEq] at hv; exact hv.1.1
    exact ⟨cur, by rw [e]; exact hh⟩
end Go.Proofs.Ytknigcjpgkolgaa

namespace Go.Proofs.Ytknigcjpgkolgaa
open Go.RowKit Go.Shelf
set_option linter.unusedVariables false
set_option maxRecDepth 100000
set_option linter.unusedSimpArgs false
attribute [local go_sem] Oper.semAt_some

end Go.Proofs.Ytknigcjpgkolgaa

namespace Go.Proofs.Ytknigcjpgkolgaa
open Go.RowKit Go.Shelf
set_option linter.unusedVariables false
set_option maxRecDepth 100000
set_option linter.unusedSimpArgs false

end Go.Proofs.Ytknigcjpgkolgaa

namespace Go.Proofs.Ytknigcjpgkolgaa
open Go.RowKit Go.Shelf
set_option linter.unusedVariables false
set_option maxRecDepth 100000
set_option linter.unusedSimpArgs false
attribute [local go_sem] Oper.semAt_some

end Go.Proofs.Ytknigcjpgkolgaa
