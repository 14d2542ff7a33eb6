/- Contracts of impl.cornerAt, impl.sideFrom. -/
import Derived.Test.YtpcajacekmidbaaGreatKSimpleP
namespace Go.Proofs.YtpcajacekmidbaaGreat
open Go.RowKit
set_option linter.unusedVariables false
set_option maxRecDepth 100000
set_option linter.unusedSimpArgs false

theorem cornerAt_any (W T x y : Int) (sl : Value) (w : World) (hW0 : 1 ≤ W) (hW1 : W ≤ 6) (hx0 : 0 ≤ x) (hx1 : x ≤ 1000) (hy0 : 0 ≤ y * (W + 1)) (hy1 : y * (W + 1) ≤ 100000) :
 Calls Tryz.prog 117 #[.agg #[.int .i64 W, .int .i64 T, sl], .int .i64 x, .int .i64 y] w fun e w' => e = .returned (.int .i64 (y * (W + 1) + x)) ∧ Below w.heap.size w w' := by
 go_enter Tryz.func117, Tryz.ntmps117
 go_wp2
 go_ret
 exact ⟨rfl, below1 _ _⟩
theorem turnedWay1_any (w : World) : Calls Tryz.prog 119 #[.int .i64 1] w fun e w' => e = .returned (.int .i64 2) ∧ w = w' := by
 go_enter Tryz.func119, Tryz.ntmps119
 go_wp2
 go_ret
 exact ⟨rfl, rfl⟩
theorem turnedWay2_any (w : World) : Calls Tryz.prog 119 #[.int .i64 2] w fun e w' => e = .returned (.int .i64 3) ∧ w = w' := by
 go_enter Tryz.func119, Tryz.ntmps119
 go_wp2
 go_ret
 exact ⟨rfl, rfl⟩
theorem darkAt_low (x y : Int) (w : World) {d : Bool} (hx : -1 ≤ x) (hx1 : x ≤ 10) (hy : 0 ≤ y) (hy1 : y ≤ 10) (h : decide ((x + y + 2) % 2 = 0) = d) :
 Calls Tryz.prog 118 #[.int .i64 x, .int .i64 y] w fun e w' => e = .returned (.bool d) ∧ w' = w := by
 by_cases h0 : 0 ≤ x + y
 · have e : ((x + y) % 2 == 0) = d := by
    rw [← h]
    have : (x + y + 2) % 2 = (x + y) % 2 := by omega
    rw [this]; rfl
   have HE := Lib.hid e; clear e h
   go_enter Tryz.func118, Tryz.ntmps118
   go_wp2
   go_ret
   exact ⟨ret_bool HE.out, rfl⟩
 · obtain rfl : x = -1 := by omega
   obtain rfl : y = 0 := by omega
   have e : d = false := by rw [← h]; rfl
   subst e
   clear h
   go_enter Tryz.func118, Tryz.ntmps118
   go_wp2
   go_ret
   exact ⟨rfl, rfl⟩

def sdV (W T : Int) (xs : List Bool) (k : Nat) (nth : Bool) : Value :=
 .agg #[.int .i64 k, .int .i64 (sTo W k nth), .int .i64 (sRise W k nth), .bool (sBoth W T xs k nth), .int .i64 (if sBoth W T xs k nth then sCell W k nth else 0), .int .i64 (if sBoth W T xs k nth then sWay nth else 0)]
theorem cells6 {w : World} {b : Nat} {v0 v1 v2 v3 v4 v5 : Value} {t : TypeId} {fr : Nat × Nat} (h : w.heap[b]? = some (.cells #[v0, v1, v2, v3, v4, v5] t fr)) :
 w.cell? ⟨b, 0, none⟩ = some v0 ∧ w.cell? ⟨b, 1, none⟩ = some v1 ∧ w.cell? ⟨b, 2, none⟩ = some v2 ∧ w.cell? ⟨b, 3, none⟩ = some v3 ∧ w.cell? ⟨b, 4, none⟩ = some v4 ∧ w.cell? ⟨b, 5, none⟩ = some v5 := by
 simp [World.cell?, h]
structure SideAt (w : World) (B bs : Nat) (W T : Int) (a : Option Addr) (n cap : Nat) (v0 v1 v2 v3 v4 v5 : Value) : Prop where
 side : w.heap[bs]? = some (.cells #[v0, v1, v2, v3, v4, v5] 77 (0, 0))
 reg : w.heap[B]? = some (.cells #[.int .i64 W, .int .i64 T, .slice a n cap] 25 (0, 0))
 res : w.heap[B + 1]? = some (.cells #[.int .i64 0, .int .i64 0, .int .i64 0, .bool false, .int .i64 0, .int .i64 0] 77 (0, 0))
 lt : B + 1 < bs
theorem below_six {w0 w : World} {B bs : Nat} (h : Below B w0 w) (hb : B ≤ bs) (v0 v1 v2 v3 v4 v5 : Value) : Below B w0 ((((((w.setCell ⟨bs, 0, none⟩ v0).setCell ⟨bs, 1, none⟩ v1).setCell ⟨bs, 2, none⟩ v2).setCell ⟨bs, 3, none⟩ v3).setCell ⟨bs, 4, none⟩ v4).setCell ⟨bs, 5, none⟩ v5) :=
 (((((h.setCell (p := ⟨bs, 0, none⟩) hb v0).setCell (p := ⟨bs, 1, none⟩) hb v1).setCell (p := ⟨bs, 2, none⟩) hb v2).setCell (p := ⟨bs, 3, none⟩) hb v3).setCell (p := ⟨bs, 4, none⟩) hb v4).setCell (p := ⟨bs, 5, none⟩) hb v5
theorem heap_six {w : World} {bs : Nat} {z0 z1 z2 z3 z4 z5 : Value} {t : TypeId} (h : w.heap[bs]? = some (.cells #[z0, z1, z2, z3, z4, z5] t (0, 0))) (v0 v1 v2 v3 v4 v5 : Value) : ((((((w.setCell ⟨bs, 0, none⟩ v0).setCell ⟨bs, 1, none⟩ v1).setCell ⟨bs, 2, none⟩ v2).setCell ⟨bs, 3, none⟩ v3).setCell ⟨bs, 4, none⟩ v4).setCell ⟨bs, 5, none⟩ v5).heap[bs]? = some (.cells #[v0, v1, v2, v3, v4, v5] t (0, 0)) :=
 block_setCell (block_setCell (block_setCell (block_setCell (block_setCell (block_setCell h v0) v1) v2) v3) v4) v5
theorem heap_off {w : World} {b k i : Nat} {o : Obj} (v : Value) (hne : k ≠ b) (h : w.heap[k]? = some o) : (w.setCell ⟨b, i, none⟩ v).heap[k]? = some o := by
 rw [Below.heap_setCell _ _ _ _ hne]; exact h
theorem side_six {w : World} {B bs : Nat} {W T : Int} {a : Option Addr} {n cap : Nat} {z0 z1 z2 z3 z4 z5 : Value} (h : w.heap[bs]? = some (.cells #[z0, z1, z2, z3, z4, z5] 77 (0, 0))) (hp : w.heap[B]? = some (.cells #[.int .i64 W, .int .i64 T, .slice a n cap] 25 (0, 0)))
 (hz : w.heap[B + 1]? = some (.cells #[.int .i64 0, .int .i64 0, .int .i64 0, .bool false, .int .i64 0, .int .i64 0] 77 (0, 0))) (hl : B + 1 < bs) (v0 v1 v2 v3 v4 v5 : Value) :
 SideAt ((((((w.setCell ⟨bs, 0, none⟩ v0).setCell ⟨bs, 1, none⟩ v1).setCell ⟨bs, 2, none⟩ v2).setCell ⟨bs, 3, none⟩ v3).setCell ⟨bs, 4, none⟩ v4).setCell ⟨bs, 5, none⟩ v5) B bs W T a n cap v0 v1 v2 v3 v4 v5 := by
 have n1 : B ≠ bs := by omega
 have n2 : B + 1 ≠ bs := by omega
 exact ⟨heap_six h _ _ _ _ _ _, heap_off _ n1 (heap_off _ n1 (heap_off _ n1 (heap_off _ n1 (heap_off _ n1 (heap_off _ n1 hp))))), heap_off _ n2 (heap_off _ n2 (heap_off _ n2 (heap_off _ n2 (heap_off _ n2 (heap_off _ n2 hz))))), hl⟩
theorem side_new {w : World} {B : Nat} {W T : Int} {a : Option Addr} {n cap : Nat} (hp : w.heap[B]? = some (.cells #[.int .i64 W, .int .i64 T, .slice a n cap] 25 (0, 0)))
 (hz : w.heap[B + 1]? = some (.cells #[.int .i64 0, .int .i64 0, .int .i64 0, .bool false, .int .i64 0, .int .i64 0] 77 (0, 0))) (v0 v1 v2 v3 v4 v5 : Value) :
 SideAt (w.alloc (.cells #[v0, v1, v2, v3, v4, v5] 77)) B w.heap.size W T a n cap v0 v1 v2 v3 v4 v5 :=
 ⟨heap_new _ _, heap_later hp (below1 _ _), heap_later hz (below1 _ _), heap_lt hz⟩
def AtSide (w0 : World) (W T : Int) (a : Option Addr) (n cap : Nat) (k kt : Int) (inner : Bool) (v : Value) (wx : World) : Prop :=
 ∃ bs, v = .pointer (some ⟨bs, 0, none⟩) ∧ SideAt wx w0.heap.size bs W T a n cap (.int .i64 k) (.int .i64 kt) (.int .i64 (-1)) (.bool inner) (.int .i64 0) (.int .i64 0) ∧ Below w0.heap.size w0 wx
end Go.Proofs.YtpcajacekmidbaaGreat
