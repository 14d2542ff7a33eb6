/- Plain facts on cells that hang together: which are reached, the least one, marks that are unique. Merged of: Reach, Till, Till2, Inv. -/
import Derived.Test.YthpifnjoiklgnaaKOwn
import Derived.ProofKit
import Derived.OpenShut
import Derived.ShutString
import Derived.ChangeOld
import Derived.Below
import Derived.Carry
import Derived.Lib.SmallJoins
import Derived.Deep.Grids
import Derived.OrdersHeld
namespace Go.Proofs.Ythpifnjoiklgnaa
open Go.RowKit
set_option linter.unusedVariables false
set_option maxRecDepth 100000
set_option linter.unusedSimpArgs false

def BytesAt (w : World) (a : Option Addr) (zs : List Int) : Prop :=
  ∀ i, i < zs.length → ∃ b off, a = some ⟨b, off, none⟩ ∧ w.cell? ⟨b, off + i, none⟩ = some (.int .u8 (zs.getD i 0)) ∧ 0 ≤ zs.getD i 0 ∧ zs.getD i 0 < 256
theorem BytesAt.later {w w' : World} {B : Nat} {a : Option Addr} {zs : List Int} (h : BytesAt w a zs) (hb : Below B w w') (hB : w.heap.size ≤ B) : BytesAt w' a zs := by
  intro i hi
  obtain ⟨b, off, rfl, hc, h2⟩ := h i hi
  refine ⟨b, off, rfl, ?_, h2⟩
  have hbl := World.block_lt_of_cell? w _ hc
  exact (hb.cell (p := ⟨b, off + i, none⟩) (Nat.lt_of_lt_of_le hbl hB)).trans hc
theorem BytesAt.below {w w' : World} {a : Option Addr} {zs : List Int} (h : BytesAt w a zs) (hb : Below w.heap.size w w') : BytesAt w' a zs := h.later hb (Nat.le_refl _)
theorem BytesAt.cellAt {w : World} {b off : Nat} {zs : List Int} (h : BytesAt w (some ⟨b, off, none⟩) zs) {i : Nat} (hi : i < zs.length) : w.cell? ⟨b, off + i, none⟩ = some (.int .u8 (zs.getD i 0)) ∧ 0 ≤ zs.getD i 0 ∧ zs.getD i 0 < 256 := by
  obtain ⟨b', off', e, hc, h2⟩ := h i hi
  simp only [Option.some.injEq, Addr.mk.injEq, and_true] at e
  obtain ⟨rfl, rfl⟩ := e
  exact ⟨hc, h2⟩
/-- The bytes lie in a block that was there before a block. -/
def Apart (a : Option Addr) (r : Nat) : Prop := ∀ p, a = some p → p.block < r
theorem BytesAt.grown {w w' : World} {a : Option Addr} {zs : List Int} {r : Nat} (h : BytesAt w a zs) (ha : zs = [] ∨ Apart a r) (hg : w.grownBy w' (some r)) : BytesAt w' a zs := by
  intro i hi
  rcases ha with rfl | ha
  · exact absurd hi (Nat.not_lt_zero i)
  obtain ⟨b, off, rfl, hc, h2⟩ := h i hi
  exact ⟨b, off, rfl, hg.cell hc (fun e => by have h9 := ha _ rfl; simp only [Option.some.injEq] at e; simp only at h9; omega), h2⟩

theorem BytesAt.grown' {w w' : World} {a : Option Addr} {zs : List Int} {r : Nat} {row : Option Nat} (h : BytesAt w a zs) (ha : zs = [] ∨ Apart a r) (hg : w.grownBy w' row) (hr : ∀ k, row = some k → r ≤ k) : BytesAt w' a zs := by
  intro i hi
  rcases ha with rfl | ha
  · exact absurd hi (Nat.not_lt_zero i)
  obtain ⟨b, off, rfl, hc, h2⟩ := h i hi
  exact ⟨b, off, rfl, hg.cell hc (fun e => by have h9 := ha _ rfl; have := hr b e.symm; simp only at h9; omega), h2⟩
end Go.Proofs.Ythpifnjoiklgnaa

namespace Go.Proofs.Ythpifnjoiklgnaa
open Go.RowKit
set_option linter.unusedVariables false
set_option maxRecDepth 100000
set_option linter.unusedSimpArgs false

end Go.Proofs.Ythpifnjoiklgnaa

namespace Go.Proofs.Ythpifnjoiklgnaa
open Go.RowKit Go.ChangeShapes Go.WideShapes Go.ChangeAt Go.Deep
set_option linter.unusedVariables false
set_option maxRecDepth 100000

theorem own : ownKnob Try.prog.godebug = none := by kernel_rfl
theorem laidOut : laidOutB Try.prog = true := by kernel_rfl

theorem BoolsAt_of_cells {w : World} {a : Addr} {len : Nat} {B : Nat → Bool} (hc : ∀ i, i < len → w.cell? (a.add i) = some (.bool (B i))) :
    ∃ xs : List Bool, len = xs.length ∧ BoolsAt w (some a) xs := by
  refine ⟨(List.range len).map B, by simp, ?_⟩
  intro i hi
  simp only [List.length_map, List.length_range] at hi
  obtain ⟨b, off, spot⟩ := a
  have hc0 := hc i hi
  have hspot : spot = none := by simpa [Addr.add] using World.cell?_spot (hc 0 (by omega))
  subst hspot
  refine ⟨b, off, rfl, ?_⟩
  have : (⟨b, off, none⟩ : Addr).add i = ⟨b, off + i, none⟩ := by unfold Addr.add; split <;> simp_all
  rw [this] at hc0
  rw [hc0]; simp [hi]

set_option maxRecDepth 100000 in
theorem open_region {H : Type} {enc : TypeId × Value → H} {w : World} {base b0 : Nat} {v : Value} {d : DataW H} {p : List MemPlace}
    (hv : Value.okWide Try.prog w .any b0 24 v) (h : DataW.Trod enc Try.prog w base (fun _ => true) true 24 v d p) :
    ∃ (W T : Int) (a : Option Addr) (n cap : Nat) (xs : List Bool), v = .agg #[.int .i64 W, .int .i64 T, .slice a n cap] ∧ n = xs.length ∧ n ≤ maxLen ∧ BoolsAt w a xs ∧ (Lit.int .i64 W).wf = true ∧ (Lit.int .i64 T).wf = true := by
  obtain ⟨v0, v1, v2, y0, y1, y2, m, rfl, _, _, h0, h1, h2⟩ := Go.Joins.open_agg3 Try.underlying24 (by kernel_rfl) (by kernel_rfl) hv h
  obtain ⟨W, e0, _, wW⟩ := DataW.trod_int Try.underlying3 h0
  obtain ⟨T, e1, _, wT⟩ := DataW.trod_int Try.underlying3 h1
  simp only [List.cons.injEq, and_true] at e0 e1
  subst e0 e1
  rcases open_bools Try.underlying22 Try.underlying4 (by kernel_rfl) h2 with ⟨hcs, _⟩ | ⟨a, len, cap, B, hcs, _, hl, hm, _, hc⟩
  · simp only [List.cons.injEq, and_true] at hcs
    subst hcs
    exact ⟨W, T, none, 0, 0, [], rfl, rfl, Nat.zero_le _, fun i hi => absurd hi (Nat.not_lt_zero i), wW, wT⟩
  · simp only [List.cons.injEq, and_true] at hcs
    subst hcs
    obtain ⟨xs, hx, hb⟩ := BoolsAt_of_cells (len := len) (fun i hi => hc i (by omega))
    exact ⟨W, T, some a, len, cap, xs, rfl, hx, by omega, hb, wW, wT⟩

end Go.Proofs.Ythpifnjoiklgnaa

namespace Go.Proofs.Ythpifnjoiklgnaa
open Go.RowKit Go.ChangeShapes Go.WideShapes Go.ChangeAt Go.Deep
set_option linter.unusedVariables false
set_option maxRecDepth 100000

end Go.Proofs.Ythpifnjoiklgnaa

namespace Go.Proofs.Ythpifnjoiklgnaa
open Go.RowKit
set_option linter.unusedVariables false
set_option maxRecDepth 100000
set_option linter.unusedSimpArgs false

def inB (n lo hi : Int) : Bool := decide (lo ≤ n ∧ n ≤ hi)
theorem l1In_any (n lo hi : Int) (w : World) :
    Calls Try.prog 53 #[.int .i64 n, .int .i64 lo, .int .i64 hi] w fun e w' => e = .returned (.bool (inB n lo hi)) ∧ w = w' := by
  by_cases h1 : lo ≤ n
  · by_cases h2 : n ≤ hi
    all_goals
      go_enter Try.func53, Try.ntmps53
      go_wp2
      go_ret
      exact ⟨ret_bool (by simp [inB, h1, h2]), rfl⟩
  · go_enter Try.func53, Try.ntmps53
    go_wp2
    go_ret
    exact ⟨ret_bool (by simp [inB]; omega), rfl⟩

def cnt (xs : List Bool) : Nat := xs.countP id
theorem cnt_le (xs : List Bool) : cnt xs ≤ xs.length := List.countP_le_length
theorem cnt_take (xs : List Bool) (k : Nat) (h : k < xs.length) : cnt (xs.take (k + 1)) = cnt (xs.take k) + if xs.getD k false then 1 else 0 := by
  rw [List.take_succ_eq_append_getElem h]
  simp only [cnt, List.countP_append, List.countP_cons, List.countP_nil, List.getD, id]
  simp [h]

set_option maxHeartbeats 400000 in
theorem l1Count_any (a : Option Addr) (n cap : Nat) (xs : List Bool) (w : World) (hn : n = xs.length) (hn' : n ≤ 1048576) (ha : BoolsAt w a xs) :
    Calls Try.prog 54 #[.slice a n cap] w fun e w' => e = .returned (.int .i64 (cnt xs)) ∧ w = w' := by
  have HN := Lib.hid hn; clear hn
  have HA := Lib.hid ha; clear ha
  go_enter Try.func54, Try.ntmps54
  go_wp2
  go_loop [3, 4] (fun c i => ∃ k : Nat, k ≤ n ∧ i = .int .i64 k ∧ c = .int .i64 (cnt (xs.take k))) (fun _ i => n - (intOf i).toNat)
  case atStart => exact ⟨0, Nat.zero_le _, rfl, rfl⟩
  case round =>
    obtain ⟨k, hk, rfl, rfl⟩ := hrel
    by_cases hlt : k < n
    · obtain ⟨b1, o1, rfl, hc⟩ := HA.out k (by rw [← HN.out]; exact hlt)
      have hs := cnt_take xs k (by rw [← HN.out]; exact hlt)
      have hb : cnt (xs.take k) ≤ k := Nat.le_trans (cnt_le _) (List.length_take_le _ _)
      cases hx : xs.getD k false
      all_goals
        rw [hx] at hc hs
        have HX := Lib.hid hx; clear hx
        have HS := Lib.hid hs; clear hs
        go_wp2
        go_round
        case rel => exact ⟨k + 1, by omega, by go_num, by rw [HS.out]; go_num⟩
        case measure => simp [intOf]; omega
    · obtain rfl : k = n := by omega
      go_wp2
      go_ret
      exact ⟨ret_int (by rw [HN.out, List.take_length]), rfl⟩

set_option maxHeartbeats 400000 in
theorem cellsIn_any (W T : Int) (a : Option Addr) (n cap : Nat) (xs : List Bool) (w : World) (hn : n = xs.length) (hn' : n ≤ 1048576) (ha : BoolsAt w a xs) :
    Calls Try.prog 81 #[.agg #[.int .i64 W, .int .i64 T, .slice a n cap]] w fun e w' => e = .returned (.int .i64 (cnt xs)) ∧ Below w.heap.size w w' := by
  have HN := Lib.hid hn; clear hn
  have HA := Lib.hid ha; clear ha
  go_enter Try.func81, Try.ntmps81
  go_wp2
  go_loop [3, 9] (fun c i => ∃ k : Nat, k ≤ n ∧ i = .int .i64 k ∧ c = .int .i64 (cnt (xs.take k))) (fun _ i => n - (intOf i).toNat)
  case atStart => exact ⟨0, Nat.zero_le _, rfl, rfl⟩
  case round =>
    obtain ⟨k, hk, rfl, rfl⟩ := hrel
    by_cases hlt : k < n
    · obtain ⟨b1, o1, rfl, hc⟩ := HA.out k (by rw [← HN.out]; exact hlt)
      have hb1 := World.block_lt_of_cell? w _ hc
      simp only at hb1
      have hs := cnt_take xs k (by rw [← HN.out]; exact hlt)
      have hb : cnt (xs.take k) ≤ k := Nat.le_trans (cnt_le _) (List.length_take_le _ _)
      cases hx : xs.getD k false
      all_goals
        rw [hx] at hc hs
        have HX := Lib.hid hx; clear hx
        have HS := Lib.hid hs; clear hs
        go_wp2
        go_round
        case rel => exact ⟨k + 1, by omega, by go_num, by rw [HS.out]; go_num⟩
        case measure => simp [intOf]; omega
    · obtain rfl : k = n := by omega
      go_wp2
      go_ret
      exact ⟨ret_int (by rw [HN.out, List.take_length]), below1 _ _⟩

def sidesB (W T : Int) : Bool := decide (1 ≤ W ∧ W ≤ 6 ∧ 1 ≤ T ∧ T ≤ 6)
theorem sidesOk_any (W T : Int) (w : World) :
    Calls Try.prog 80 #[.int .i64 W, .int .i64 T] w fun e w' => e = .returned (.bool (sidesB W T)) ∧ w = w' := by
  by_cases h1 : 1 ≤ W
  · by_cases h2 : W ≤ 6
    · by_cases h3 : 1 ≤ T
      · by_cases h4 : T ≤ 6
        all_goals
          go_enter Try.func80, Try.ntmps80
          go_wp2
          go_ret
          exact ⟨ret_bool (by simp [sidesB]; omega), rfl⟩
      · go_enter Try.func80, Try.ntmps80
        go_wp2
        go_ret
        exact ⟨ret_bool (by simp [sidesB]; omega), rfl⟩
    · go_enter Try.func80, Try.ntmps80
      go_wp2
      go_ret
      exact ⟨ret_bool (by simp [sidesB]; omega), rfl⟩
  · go_enter Try.func80, Try.ntmps80
    go_wp2
    go_ret
    exact ⟨ret_bool (by simp [sidesB]; omega), rfl⟩

end Go.Proofs.Ythpifnjoiklgnaa

namespace Go.Proofs.Ythpifnjoiklgnaa
open Go.RowKit
set_option linter.unusedVariables false
set_option maxRecDepth 100000
set_option linter.unusedSimpArgs false

def rv (W T : Int) (xs : List Bool) : Bool := decide (1 ≤ W ∧ W ≤ 6 ∧ 1 ≤ T ∧ T ≤ 6 ∧ (xs.length : Int) = W * T ∧ cnt xs ≤ 24)

theorem mul_bd {W T : Int} (h1 : 1 ≤ W) (h2 : W ≤ 6) (h3 : 1 ≤ T) (h4 : T ≤ 6) : 1 ≤ W * T ∧ W * T ≤ 36 := by
  obtain rfl | rfl | rfl | rfl | rfl | rfl : W = 1 ∨ W = 2 ∨ W = 3 ∨ W = 4 ∨ W = 5 ∨ W = 6 := by omega
  all_goals omega

theorem rv_last {W T : Int} {xs : List Bool} (h1 : 1 ≤ W) (h2 : W ≤ 6) (h3 : 1 ≤ T) (h4 : T ≤ 6) (h5 : (xs.length : Int) = W * T) : decide ((cnt xs : Int) ≤ 24) = rv W T xs := by
  rw [Bool.eq_iff_iff]
  simp only [rv, decide_eq_true_eq]
  constructor
  · intro h; exact ⟨h1, h2, h3, h4, h5, by omega⟩
  · intro h; omega

set_option maxHeartbeats 1000000 in
theorem sRegionValid_any (W T : Int) (a : Option Addr) (n cap : Nat) (xs : List Bool) (w : World) (hn : n = xs.length) (hn' : n ≤ 1048576) (ha : BoolsAt w a xs) :
    Calls Try.prog 29 #[.agg #[.int .i64 W, .int .i64 T, .slice a n cap]] w fun e w' => e = .returned (.bool (rv W T xs)) ∧ Below w.heap.size w w' := by
  have HN := Lib.hid hn; clear hn
  have HA := Lib.hid ha; clear ha
  by_cases h1 : inB W 1 6 = true
  · by_cases h2 : inB T 1 6 = true
    · have ⟨h1a, h1b⟩ : 1 ≤ W ∧ W ≤ 6 := by simpa [inB] using h1
      have ⟨h2a, h2b⟩ : 1 ≤ T ∧ T ≤ 6 := by simpa [inB] using h2
      have ⟨hm1, hm2⟩ := mul_bd h1a h1b h2a h2b
      by_cases h3 : ((n : Int) == W * T) = true
      · go_enter Try.func29, Try.ntmps29
        go_wp2_with (first
          | (go_at_call 53; refine (l1In_any _ _ _ _).mono ?_; rintro e w1 ⟨rfl, rfl⟩)
          | (go_at_call 54; refine (l1Count_any _ _ _ xs _ HN.out hn' (HA.out.one _)).mono ?_; rintro e w1 ⟨rfl, rfl⟩))
        go_ret
        exact ⟨ret_bool (rv_last h1a h1b h2a h2b (by rw [← HN.out]; simpa using h3)), below1 _ _⟩
      · rw [Bool.not_eq_true] at h3
        go_enter Try.func29, Try.ntmps29
        go_wp2_with (first
          | (go_at_call 53; refine (l1In_any _ _ _ _).mono ?_; rintro e w1 ⟨rfl, rfl⟩))
        go_ret
        exact ⟨ret_bool (by simp at h3; simp [rv]; rw [← HN.out]; omega), below1 _ _⟩
    · rw [Bool.not_eq_true] at h2
      go_enter Try.func29, Try.ntmps29
      go_wp2_with (first
          | (go_at_call 53; refine (l1In_any _ _ _ _).mono ?_; rintro e w1 ⟨rfl, rfl⟩))
      go_ret
      exact ⟨ret_bool (by simp [inB] at h2; simp [rv]; omega), below1 _ _⟩
  · rw [Bool.not_eq_true] at h1
    go_enter Try.func29, Try.ntmps29
    go_wp2_with (first
          | (go_at_call 53; refine (l1In_any _ _ _ _).mono ?_; rintro e w1 ⟨rfl, rfl⟩))
    go_ret
    exact ⟨ret_bool (by simp [inB] at h1; simp [rv]; omega), below1 _ _⟩

set_option maxHeartbeats 1000000 in
theorem iRegionValid_any (W T : Int) (a : Option Addr) (n cap : Nat) (xs : List Bool) (w : World) (hn : n = xs.length) (hn' : n ≤ 1048576) (ha : BoolsAt w a xs) :
    Calls Try.prog 66 #[.agg #[.int .i64 W, .int .i64 T, .slice a n cap]] w fun e w' => e = .returned (.bool (rv W T xs)) ∧ Below w.heap.size w w' := by
  have HN := Lib.hid hn; clear hn
  have HA := Lib.hid ha; clear ha
  by_cases h1 : sidesB W T = true
  · have ⟨h1a, h1b, h2a, h2b⟩ : 1 ≤ W ∧ W ≤ 6 ∧ 1 ≤ T ∧ T ≤ 6 := by simpa [sidesB] using h1
    have ⟨hm1, hm2⟩ := mul_bd h1a h1b h2a h2b
    by_cases h3 : ((n : Int) != W * T) = true
    · go_enter Try.func66, Try.ntmps66
      go_wp2_with (first
          | (go_at_call 80; refine (sidesOk_any _ _ _).mono ?_; rintro e w1 ⟨rfl, rfl⟩))
      go_ret
      exact ⟨ret_bool (by simp at h3; simp [rv]; rw [← HN.out]; omega), below1 _ _⟩
    · rw [Bool.not_eq_true] at h3
      go_enter Try.func66, Try.ntmps66
      go_wp2_with (first
          | (go_at_call 80; refine (sidesOk_any _ _ _).mono ?_; rintro e w1 ⟨rfl, rfl⟩)
          | (go_at_call 81; refine (cellsIn_any _ _ _ _ _ xs _ HN.out hn' (HA.out.one _)).mono ?_; rintro e w1 ⟨rfl, hb⟩))
      go_ret
      exact ⟨ret_bool (rv_last h1a h1b h2a h2b (by rw [← HN.out]; simpa using h3)), below_seq (below1 _ _) hb⟩
  · rw [Bool.not_eq_true] at h1
    go_enter Try.func66, Try.ntmps66
    go_wp2_with (first
          | (go_at_call 80; refine (sidesOk_any _ _ _).mono ?_; rintro e w1 ⟨rfl, rfl⟩))
    go_ret
    exact ⟨ret_bool (by simp [sidesB] at h1; simp [rv]; omega), below1 _ _⟩

end Go.Proofs.Ythpifnjoiklgnaa

namespace Go.Proofs.Ythpifnjoiklgnaa
open Go.RowKit
set_option linter.unusedVariables false
set_option maxRecDepth 100000
set_option linter.unusedSimpArgs false

theorem szB_neg {n : Nat} (h : 1048576 < n) : szB n 1048576 = -1 := by unfold szB; rw [if_pos (by omega)]
theorem szB_pos {n : Nat} (h : n ≤ 1048576) : 0 ≤ szB n 1048576 ∧ szB n 1048576 ≤ 1048576 := by unfold szB; rw [if_neg (by omega)]; omega

end Go.Proofs.Ythpifnjoiklgnaa

namespace Go.Proofs.Ythpifnjoiklgnaa
open Go.RowKit
set_option linter.unusedVariables false
set_option maxRecDepth 100000
set_option linter.unusedSimpArgs false

def IntsAt (w : World) (a : Option Addr) (xs : List Int) : Prop :=
  ∀ i, i < xs.length → ∃ b off, a = some ⟨b, off, none⟩ ∧ w.cell? ⟨b, off + i, none⟩ = some (.int .i64 (xs.getD i 0))

theorem IntsAt.later {w w' : World} {B : Nat} {a : Option Addr} {xs : List Int} (h : IntsAt w a xs) (hb : Below B w w') (hB : w.heap.size ≤ B) : IntsAt w' a xs := by
  intro i hi
  obtain ⟨b, off, rfl, hc⟩ := h i hi
  refine ⟨b, off, rfl, ?_⟩
  have hbl := World.block_lt_of_cell? w _ hc
  exact (hb.cell (p := ⟨b, off + i, none⟩) (Nat.lt_of_lt_of_le hbl hB)).trans hc

theorem IntsAt.one {w : World} {a : Option Addr} {xs : List Int} (h : IntsAt w a xs) (o1 : Obj) : IntsAt (w.alloc o1) a xs := h.later (below1 w o1) (Nat.le_refl _)

theorem IntsAt.drewN {w : World} {a : Option Addr} {xs : List Int} (h : IntsAt w a xs) (k : Nat) : IntsAt (w.drewN k) a xs := h

theorem IntsAt.below {w w' : World} {a : Option Addr} {xs : List Int} (h : IntsAt w a xs) (hb : Below w.heap.size w w') : IntsAt w' a xs := h.later hb (Nat.le_refl _)

def OwnsI (w : World) (B : Nat) (v : Value) (xs : List Int) : Prop := w.ownsRow B 3 1 v xs.length (xs.map (Value.int .i64))

theorem infoInt : (Try.prog.info? 3).map (fun i => (i.zero, i.size, i.bytes)) = some (some (.int .i64 0), 1, 8) := by kernel_rfl

theorem OwnsI.lower {w : World} {B B' : Nat} {v : Value} {xs : List Int} (h : OwnsI w B v xs) (hB : B' ≤ B) : OwnsI w B' v xs :=
  ⟨h.1, h.2.elim Or.inl (fun ⟨g, cap, cur, hv, hg, r⟩ => Or.inr ⟨g, cap, cur, hv, Nat.le_trans hB hg, r⟩)⟩

theorem OwnsI.at {w : World} {B : Nat} {a : Option Addr} {n cap : Nat} {xs : List Int} (h : OwnsI w B (.slice a n cap) xs) : IntsAt w a xs := by
  intro i hi
  rcases h.2 with ⟨_, h0⟩ | ⟨g, cap', cur, hv, _⟩
  · omega
  · simp only [Value.slice.injEq] at hv
    obtain ⟨rfl, rfl, rfl⟩ := hv
    refine ⟨g, 0, rfl, ?_⟩
    rw [Nat.zero_add, World.ownsRow.cellAt (xs := xs.map (Value.int .i64)) h i (by omega)]
    simp [hi]

/-- Two lists that hold the same are told to be equal. -/
theorem eqIntS_same (a b : Option Addr) (n cap cap' : Nat) (xs : List Int) (w : World) (hn : n = xs.length) (hn' : n ≤ 1048576) (ha : IntsAt w a xs) (hb : IntsAt w b xs) :
    Calls Try.prog 9 #[.slice a n cap, .slice b n cap'] w fun e w' => e = .returned (.bool true) ∧ ∃ k, w' = w.drewN k := by
  have HN := Lib.hid hn; clear hn
  have HA := Lib.hid ha; clear ha
  have HB := Lib.hid hb; clear hb
  go_enter Try.func9, Try.ntmps9
  go_wp2
  go_loopw [5] (fun i wr => ∃ k : Nat, k ≤ n ∧ i = .int .i64 k ∧ ∃ q, wr = w.drewN q) (fun i _ => n - (intOf i).toNat)
  case atStart => exact ⟨0, Nat.zero_le _, rfl, 0, rfl⟩
  case round =>
    obtain ⟨k, hk, rfl, q, rfl⟩ := hrel
    by_cases hlt : k < n
    · obtain ⟨b1, o1, rfl, hc1⟩ := HA.out k (by rw [← HN.out]; exact hlt)
      obtain ⟨b2, o2, rfl, hc2⟩ := HB.out k (by rw [← HN.out]; exact hlt)
      have e1 : (k : Int) < n := by omega
      have e0 : (0 : Int) ≤ k := by omega
      go_wp2
      go_quiet (fail)
      go_wp2
      go_roundw
      case rel => exact ⟨k + 1, by omega, by go_num, _, rfl⟩
      case measure => simp [intOf]; omega
    · go_wp2
      go_ret
      exact ⟨rfl, _, rfl⟩

/-- The marksI of n entries, counted from k. -/
def marksI (n : Nat) (k : Int) : List Int := (List.range n).map fun i : Nat => k + (i : Int)

def markedI (xs : List Int) (j : Nat) (k : Int) : List Int := (List.range xs.length).map fun i : Nat => if i < j then k + (i : Int) else xs.getD i 0

theorem markedI_zero (xs : List Int) (k : Int) : markedI xs 0 k = xs := by
  apply List.ext_getElem
  · simp [markedI]
  · intro i h1 h2; simp [markedI, h2]

theorem markedI_all (xs : List Int) (k : Int) : markedI xs xs.length k = marksI xs.length k := by
  apply List.ext_getElem
  · simp [markedI, marksI]
  · intro i h1 h2; simp [marksI] at h2; simp [markedI, marksI, h2]

theorem markedI_step (xs : List Int) (j : Nat) (k : Int) : (markedI xs j k).set j (k + (j : Int)) = markedI xs (j + 1) k := by
  apply List.ext_getElem
  · simp [markedI]
  · intro i h1 h2
    simp only [markedI, List.length_map, List.length_range] at h2
    simp only [markedI, List.getElem_set, List.getElem_map, List.getElem_range]
    by_cases e : j = i
    · subst e; simp
    · have : (i < j) = (i < j + 1) := by apply propext; omega
      simp [e, this]

theorem marksI_len (n : Nat) (k : Int) : (marksI n k).length = n := by simp [marksI]

theorem markedI_len (xs : List Int) (j : Nat) (k : Int) : (markedI xs j k).length = xs.length := by simp [markedI]

theorem owns_markI {w : World} {B g cap j n : Nat} {k : Int} {xs : List Int} (h : w.ownsRow B 3 1 (.slice (some ⟨g, 0, none⟩) n cap) n ((markedI xs j k).map (Value.int .i64))) :
    (w.setCell ⟨g, j, none⟩ (.int .i64 (k + (j : Int)))).ownsRow B 3 1 (.slice (some ⟨g, 0, none⟩) n cap) n ((markedI xs (j + 1) k).map (Value.int .i64)) ∧ w.grownBy (w.setCell ⟨g, j, none⟩ (.int .i64 (k + (j : Int)))) (some g) := by
  have := h.stored j (.int .i64 (k + (j : Int)))
  rw [← List.map_set, markedI_step xs j] at this
  exact this

set_option maxHeartbeats 400000 in
theorem markIntS_some (g n cap B : Nat) (k : Int) (xs : List Int) (w : World) (hn : n = xs.length) (hn' : n ≤ 1048576) (hk0 : 0 ≤ k) (hk1 : k ≤ 4194304) (ho : OwnsI w B (.slice (some ⟨g, 0, none⟩) n cap) xs) :
    Calls Try.prog 12 #[.slice (some ⟨g, 0, none⟩) n cap, .int .i64 k] w fun e w' => e = .returned (.int .i64 (k + n)) ∧ OwnsI w' B (.slice (some ⟨g, 0, none⟩) n cap) (marksI n k) ∧ w.grownBy w' (some g) := by
  have HN := Lib.hid hn; clear hn
  have HO := Lib.hid ho; clear ho
  go_enter Try.func12, Try.ntmps12
  go_wp2
  go_loopw [5, 1] (fun i kv wr => ∃ j : Nat, j ≤ n ∧ i = .int .i64 j ∧ kv = .int .i64 (k + j) ∧ wr.ownsRow B 3 1 (.slice (some ⟨g, 0, none⟩) n cap) n ((markedI xs j k).map (Value.int .i64)) ∧ w.grownBy wr (some g)) (fun i _ _ => n - (intOf i).toNat)
  case atStart => exact ⟨0, Nat.zero_le _, rfl, by go_num, by rw [markedI_zero]; have h := HO.out; unfold OwnsI at h; rw [← HN.out] at h; exact h, World.grownBy.refl _ _⟩
  case round =>
    obtain ⟨j, hj, rfl, rfl, hown, hg⟩ := hrel
    by_cases hlt : j < n
    · have hf := hown.frozenAt j
      have hd : wr.cell? ⟨g, j, none⟩ = some (.int .i64 ((markedI xs j k).getD j 0)) := by rw [hown.cellAt j (by omega)]; simp [markedI_len, ← HN.out, hlt]
      have HOW := Lib.hid hown; clear hown
      have HG := Lib.hid hg; clear hg
      go_wp2
      go_roundw
      case rel => exact ⟨j + 1, by omega, by go_num, by go_num, (owns_markI HOW.out).1, grownBy_trans HG.out (owns_markI HOW.out).2⟩
      case measure => simp [intOf]; omega
    · obtain rfl : j = n := by omega
      go_wp2
      go_ret
      exact ⟨rfl, by unfold OwnsI; rw [marksI_len]; have h := hown; rw [HN.out, markedI_all, ← HN.out] at h; exact h, hg⟩

set_option maxHeartbeats 400000 in
theorem heldIntS_marksI (a : Option Addr) (n cap : Nat) (k : Int) (w : World) (hn' : n ≤ 1048576) (hk0 : 0 ≤ k) (hk1 : k ≤ 4194304) (ha : IntsAt w a (marksI n k)) :
    Calls Try.prog 13 #[.slice a n cap, .int .i64 k] w fun e w' => e = .returned (.int .i64 (k + n)) ∧ ∃ q, w' = w.drewN q := by
  have HA := Lib.hid ha; clear ha
  go_enter Try.func13, Try.ntmps13
  go_wp2
  go_loopw [5, 1] (fun i kv wr => ∃ j : Nat, j ≤ n ∧ i = .int .i64 j ∧ kv = .int .i64 (k + j) ∧ ∃ q, wr = w.drewN q) (fun i _ _ => n - (intOf i).toNat)
  case atStart => exact ⟨0, Nat.zero_le _, rfl, by go_num, 0, rfl⟩
  case round =>
    obtain ⟨j, hj, rfl, rfl, q, rfl⟩ := hrel
    by_cases hlt : j < n
    · obtain ⟨b1, o1, rfl, hc⟩ := HA.out j (by rw [marksI_len]; exact hlt)
      have hc1 : w.cell? ⟨b1, o1 + j, none⟩ = some (.int .i64 (k + (j : Int))) := by rw [hc]; simp [marksI, hlt]
      clear hc
      have e1 : (j : Int) < n := by omega
      have e0 : (0 : Int) ≤ j := by omega
      have e3 : (0 : Int) ≤ k + j := by omega
      go_wp2
      go_roundw
      case rel => exact ⟨j + 1, by omega, by go_num, by go_num, _, rfl⟩
      case measure => simp [intOf]; omega
    · obtain rfl : j = n := by omega
      go_wp2
      go_ret
      exact ⟨rfl, _, rfl⟩

theorem OwnsI.nil (w : World) (B : Nat) : OwnsI w B (.slice none 0 0) [] := World.ownsRow_nil _ _ _ _

theorem OwnsI.below {w w' : World} {B : Nat} {v : Value} {xs : List Int} (h : OwnsI w B v xs) (hb : Below w.heap.size w w') : OwnsI w' B v xs := by
  refine ⟨h.1, ?_⟩
  rcases h.2 with h2 | ⟨g, cap, cur, hv, hg, hh, r⟩
  · exact Or.inl h2
  · exact Or.inr ⟨g, cap, cur, hv, hg, heap_later hh hb, r⟩

theorem OwnsI.forms {w : World} {B : Nat} {v : Value} {xs : List Int} (h : OwnsI w B v xs) : (v = .slice none 0 0 ∧ xs = []) ∨ ∃ g cap, v = .slice (some ⟨g, 0, none⟩) xs.length cap ∧ B ≤ g ∧ g < w.heap.size := by
  rcases h.2 with ⟨h1, h2⟩ | ⟨g, cap, cur, hv, hg, hh, _⟩
  · exact Or.inl ⟨h1, List.length_eq_zero_iff.1 h2⟩
  · exact Or.inr ⟨g, cap, hv, hg, heap_lt hh⟩

/-- Behind writes to one row, another owned slice is as it was. -/
theorem OwnsI.keptBy {w w' : World} {B : Nat} {v : Value} {xs : List Int} {row : Option Nat} (h : OwnsI w B v xs) (hg : w.grownBy w' row) (hr : ∀ k, row = some k → k < B) : OwnsI w' B v xs := by
  refine ⟨h.1, ?_⟩
  rcases h.2 with h2 | ⟨g, cap, cur, hv, hgB, hh, r⟩
  · exact Or.inl h2
  · refine Or.inr ⟨g, cap, cur, hv, hgB, ?_, r⟩
    rw [hg.block g (heap_lt hh) (fun e => by have := hr g e.symm; omega)]; exact hh

set_option maxHeartbeats 400000 in
theorem markIntS_nil (k : Int) (w : World) :
    Calls Try.prog 12 #[.slice none 0 0, .int .i64 k] w fun e w' => e = .returned (.int .i64 k) ∧ w = w' := by
  go_enter Try.func12, Try.ntmps12
  go_wp2
  refine wp_loop_rounds 1 ?_
  rw [rounds_succ]
  go_wp2
  go_ret
  exact ⟨rfl, rfl⟩


theorem markIntS_own (a : Option Addr) (n cap B : Nat) (k : Int) (xs : List Int) (w : World) (hn : n = xs.length) (hn' : n ≤ 1048576) (hk0 : 0 ≤ k) (hk1 : k ≤ 4194304) (ho : OwnsI w B (.slice a n cap) xs) :
    Calls Try.prog 12 #[.slice a n cap, .int .i64 k] w fun e w' => e = .returned (.int .i64 (k + n)) ∧ OwnsI w' B (.slice a n cap) (marksI n k) ∧ w.grownBy w' (Value.ownBlock (.slice a n cap)) := by
  rcases ho.forms with ⟨h1, rfl⟩ | ⟨g, cap', h1, hg, hl⟩
  · simp only [Value.slice.injEq] at h1
    obtain ⟨rfl, rfl, rfl⟩ := h1
    clear ho hn
    refine (markIntS_nil _ _).mono ?_; rintro e w1 ⟨rfl, rfl⟩
    exact ⟨ret_int (by simp), OwnsI.nil _ _, World.grownBy.refl _ _⟩
  · simp only [Value.slice.injEq] at h1
    obtain ⟨rfl, _, rfl⟩ := h1
    exact markIntS_some g n cap B k xs w hn hn' hk0 hk1 ho
theorem marksI_at {w : World} {B : Nat} {a : Option Addr} {n cap : Nat} {k : Int} (h : OwnsI w B (.slice a n cap) (marksI n k)) : IntsAt w a (marksI n k) :=
  OwnsI.at (n := n) h

/-- A list by its index. -/
def tabI (N : Nat) (f : Nat → Int) : List Int := (List.range N).map f

theorem tabI_len (N : Nat) (f : Nat → Int) : (tabI N f).length = N := by simp [tabI]

theorem tabI_congr {N : Nat} {f g : Nat → Int} (h : ∀ i, i < N → f i = g i) : tabI N f = tabI N g := by
  unfold tabI; exact List.map_congr_left fun i hi => h i (List.mem_range.1 hi)

theorem tabI_set (N : Nat) (f : Nat → Int) (k : Nat) (v : Int) : (tabI N f).set k v = tabI N fun i => if i = k then v else f i := by
  apply List.ext_getElem
  · simp [tabI]
  · intro i h1 h2
    simp only [tabI, List.getElem_set, List.getElem_map, List.getElem_range]
    by_cases e : k = i
    · subst e; simp
    · simp [e, show ¬ i = k from fun h => e h.symm]

theorem tabI_of (xs : List Int) : tabI xs.length (fun i => xs.getD i 0) = xs := by
  apply List.ext_getElem
  · simp [tabI]
  · intro i h1 h2; simp [tabI, h2]

/-- A row of truths of the call's own in block g, by its index. -/
def RowI (w : World) (B g N cap : Nat) (f : Nat → Int) : Prop := w.ownsRow B 3 1 (.slice (some ⟨g, 0, none⟩) N cap) N ((tabI N f).map (Value.int .i64))

theorem RowI.of {w : World} {B g N cap : Nat} {xs : List Int} (h : OwnsI w B (.slice (some ⟨g, 0, none⟩) N cap) xs) (hN : N = xs.length) : RowI w B g N cap (fun i => xs.getD i 0) := by
  unfold RowI; subst hN; rw [tabI_of]; exact h

theorem RowI.owns {w : World} {B g N cap : Nat} {f : Nat → Int} (h : RowI w B g N cap f) : OwnsI w B (.slice (some ⟨g, 0, none⟩) N cap) (tabI N f) := by
  unfold OwnsI; rw [tabI_len]; exact h

theorem RowI.cell {w : World} {B g N cap : Nat} {f : Nat → Int} (h : RowI w B g N cap f) {k : Nat} (hk : k < N) : w.cell? ⟨g, k, none⟩ = some (.int .i64 (f k)) := by
  rw [World.ownsRow.cellAt h k (by omega)]; simp [tabI, hk]

theorem RowI.free {w : World} {B g N cap : Nat} {f : Nat → Int} (h : RowI w B g N cap f) (k : Nat) : w.frozen? ⟨g, k, none⟩ = false := World.ownsRow.frozenAt h k

theorem RowI.set {w : World} {B g N cap : Nat} {f : Nat → Int} (h : RowI w B g N cap f) (k : Nat) (v : Int) :
    RowI (w.setCell ⟨g, k, none⟩ (.int .i64 v)) B g N cap (fun i => if i = k then v else f i) ∧ w.grownBy (w.setCell ⟨g, k, none⟩ (.int .i64 v)) (some g) := by
  have := World.ownsRow.stored h k (.int .i64 v)
  rw [← List.map_set, tabI_set] at this
  exact this

theorem RowI.congr {w : World} {B g N cap : Nat} {f f' : Nat → Int} (h : RowI w B g N cap f) (e : ∀ i, i < N → f i = f' i) : RowI w B g N cap f' := by
  unfold RowI; rw [← tabI_congr e]; exact h

theorem RowI.keptBy {w w' : World} {B g N cap : Nat} {f : Nat → Int} {row : Option Nat} (h : RowI w B g N cap f) (hg : w.grownBy w' row) (hr : row ≠ some g) : RowI w' B g N cap f :=
  World.ownsRow.kept h hg (Or.inr (fun e => hr e.symm))

theorem RowI.below {w w' : World} {B g N cap : Nat} {f : Nat → Int} (h : RowI w B g N cap f) (hb : Below w.heap.size w w') : RowI w' B g N cap f := by
  have := (RowI.owns h).below hb
  unfold OwnsI at this; rw [tabI_len] at this; exact this

theorem RowI.base {w : World} {B g N cap : Nat} {f : Nat → Int} (h : RowI w B g N cap f) : B ≤ g ∧ g < w.heap.size := World.ownsRow.lt h g rfl

theorem OwnsI.row {w : World} {B : Nat} {v : Value} {xs : List Int} (h : OwnsI w B v xs) {n : Nat} (hn : xs.length = n) : w.ownsRow B 3 1 v n (xs.map (Value.int .i64)) := by subst hn; exact h

theorem OwnsI.ofRow {w : World} {B : Nat} {v : Value} {xs : List Int} {n : Nat} {cs : List Value} (h : w.ownsRow B 3 1 v n cs) (hc : cs = xs.map (Value.int .i64)) (hn : xs.length = n) : OwnsI w B v xs := by subst hn; subst hc; exact h

theorem OwnsI.alloc {w : World} {B : Nat} {v : Value} {xs : List Int} (h : OwnsI w B v xs) (o : Obj) : OwnsI (w.alloc o) B v xs := h.below (below1 _ _)

theorem OwnsI.ownBlock {w : World} {B : Nat} {v : Value} {xs : List Int} (h : OwnsI w B v xs) {b : Nat} (hb : b < B) : v.ownBlock ≠ some b := fun e => by
  have := World.ownsRow.lt h b e; omega

theorem OwnsI.ownAt {w : World} {B : Nat} {v : Value} {xs : List Int} (h : OwnsI w B v xs) {B' : Nat} (hB : B' ≤ B) : ∀ k, v.ownBlock = some k → B' ≤ k := fun k e => Nat.le_trans hB (World.ownsRow.lt h k e).1

/-- What lay there before a row was made is as it was behind writes to that row. -/
theorem IntsAt.grown {w0 w w' : World} {a : Option Addr} {xs : List Int} {row : Option Nat} (h : IntsAt w a xs) (h0 : IntsAt w0 a xs) (hg : w.grownBy w' row) (hr : ∀ k, row = some k → w0.heap.size ≤ k) : IntsAt w' a xs := by
  intro i hi
  obtain ⟨b, off, rfl, hc⟩ := h i hi
  obtain ⟨b', off', he, hc'⟩ := h0 i hi
  simp only [Option.some.injEq, Addr.mk.injEq, and_true] at he
  obtain ⟨rfl, rfl⟩ := he
  have hb' := World.block_lt_of_cell? w0 _ hc'
  simp only at hb'
  exact ⟨b, off, rfl, hg.cell hc (fun e => by have := hr b e.symm; omega)⟩

theorem OwnsI.blkLt {w : World} {B : Nat} {v : Value} {xs : List Int} (h : OwnsI w B v xs) : ∀ k, v.ownBlock = some k → k < w.heap.size := fun k e => (World.ownsRow.lt h k e).2

theorem new_int (w : World) (b : Int) : ∀ j u, [Value.int .i64 b][j]? = some u → (w.alloc (.cells #[.int .i64 b] 3)).cell? ((⟨w.heap.size, 0, none⟩ : Addr).add j) = some u := cell_one_new _ _ _
theorem one_int (b : Int) : ∀ u ∈ [Value.int .i64 b], u.oneCell' = true := by intro u hu; simp at hu; subst hu; rfl


theorem OwnsI.form2 {w : World} {B : Nat} {v : Value} {zs : List Int} (h : OwnsI w B v zs) : ∃ (a : Option Addr) (cap : Nat), v = .slice a zs.length cap := by
  rcases h.2 with ⟨h1, h2⟩ | ⟨g, cap, cur, hv, _⟩
  · exact ⟨none, 0, by rw [h1, h2]⟩
  · exact ⟨_, cap, hv⟩

end Go.Proofs.Ythpifnjoiklgnaa

namespace Go.Proofs.Ythpifnjoiklgnaa
open Go.RowKit
set_option linter.unusedVariables false
set_option maxRecDepth 100000

/-- The call returns a list of its own, with n entries. -/
def RetL (w : World) (n : Nat) (ys : List Int) (e : Ending) (w' : World) : Prop :=
  ∃ a cap, e = .returned (.slice a n cap) ∧ OwnsI w' w.heap.size (.slice a n cap) ys ∧ Below w.heap.size w w'
def RetLT (w : World) (n : Nat) (ys : List Int) (ok : Bool) (e : Ending) (w' : World) : Prop :=
  ∃ a cap, e = .returned (.tuple #[.slice a n cap, .bool ok]) ∧ OwnsI w' w.heap.size (.slice a n cap) ys ∧ Below w.heap.size w w'
theorem eqIntS_below (a b : Option Addr) (n cap cap' : Nat) (xs : List Int) (w : World) (hn : n = xs.length) (hn' : n ≤ 1048576) (ha : IntsAt w a xs) (hb : IntsAt w b xs) :
    Calls Try.prog 9 #[.slice a n cap, .slice b n cap'] w fun e w' => e = .returned (.bool true) ∧ Below w.heap.size w w' :=
  (eqIntS_same a b n cap cap' xs w hn hn' ha hb).mono fun _ _ ⟨h, q, hq⟩ => ⟨h, by rw [hq]; exact drewN_below _ _⟩
theorem heldIntS_below (a : Option Addr) (n cap : Nat) (k : Int) (w : World) (hn' : n ≤ 1048576) (hk0 : 0 ≤ k) (hk1 : k ≤ 4194304) (ha : IntsAt w a (marksI n k)) :
    Calls Try.prog 13 #[.slice a n cap, .int .i64 k] w fun e w' => e = .returned (.int .i64 (k + n)) ∧ Below w.heap.size w w' :=
  (heldIntS_marksI a n cap k w hn' hk0 hk1 ha).mono fun _ _ ⟨h, q, hq⟩ => ⟨h, by rw [hq]; exact drewN_below _ _⟩
end Go.Proofs.Ythpifnjoiklgnaa

namespace Go.Proofs.Ythpifnjoiklgnaa
open Go.RowKit
set_option linter.unusedVariables false
set_option maxRecDepth 100000
set_option linter.unusedSimpArgs false

section
variable (N : Nat) (s : Nat → Bool) (adj : Nat → Nat → Bool)
/-- Cells of a set below N hang together. -/
inductive Conn : Nat → Nat → Prop
  | refl {i : Nat} : i < N → s i = true → Conn i i
  | step {i j k : Nat} : Conn i j → adj j k = true → k < N → s k = true → Conn i k

/-- What is reached from i in t steps. -/
def reachT (i : Nat) : Nat → Nat → Bool
  | 0, k => k == i && s k
  | t + 1, k => reachT i t k || (s k && (List.range N).any fun j => reachT i t j && adj j k)

variable {N s adj}
theorem Conn.left {i k : Nat} (h : Conn N s adj i k) : i < N ∧ s i = true := by
  induction h with
  | refl h1 h2 => exact ⟨h1, h2⟩
  | step _ _ _ _ ih => exact ih
theorem Conn.right {i k : Nat} (h : Conn N s adj i k) : k < N ∧ s k = true := by
  cases h with
  | refl h1 h2 => exact ⟨h1, h2⟩
  | step _ _ h1 h2 => exact ⟨h1, h2⟩
theorem Conn.trans {i j k : Nat} (h : Conn N s adj i j) (h2 : Conn N s adj j k) : Conn N s adj i k := by
  induction h2 with
  | refl _ _ => exact h
  | step _ a b c ih => exact .step ih a b c
theorem Conn.symm (ha : ∀ j k, adj j k = adj k j) {i k : Nat} (h : Conn N s adj i k) : Conn N s adj k i := by
  induction h with
  | refl h1 h2 => exact .refl h1 h2
  | step hij a b c ih =>
    have hj := hij.right
    exact Conn.trans (.step (.refl b c) (by rw [ha]; exact a) hj.1 hj.2) ih

theorem reachT_mono (i t k : Nat) (h : reachT N s adj i t k = true) : reachT N s adj i (t + 1) k = true := by
  simp [reachT, h]
theorem reachT_le {i t t' k : Nat} (ht : t ≤ t') (h : reachT N s adj i t k = true) : reachT N s adj i t' k = true := by
  induction ht with
  | refl => exact h
  | step _ ih => exact reachT_mono _ _ _ ih
theorem reachT_conn {i t k : Nat} (hi : i < N) (hk : k < N) (h : reachT N s adj i t k = true) : Conn N s adj i k := by
  induction t generalizing k with
  | zero =>
    simp only [reachT, Bool.and_eq_true, beq_iff_eq] at h
    obtain ⟨rfl, h⟩ := h
    exact .refl hk h
  | succ t ih =>
    simp only [reachT, Bool.or_eq_true, Bool.and_eq_true, List.any_eq_true, List.mem_range] at h
    rcases h with h | ⟨h1, j, hj, h2, h3⟩
    · exact ih hk h
    · exact .step (ih hj h2) h3 hk h1

def sizeT (N : Nat) (f : Nat → Bool) : Nat := (List.range N).countP f
theorem sizeT_le (N : Nat) (f : Nat → Bool) : sizeT N f ≤ N := by
  have := List.countP_le_length (p := f) (l := List.range N)
  rwa [List.length_range] at this
theorem countP_lt {α : Type} (l : List α) (p q : α → Bool) (h : ∀ x ∈ l, p x = true → q x = true) (x : α) (hx : x ∈ l) (h1 : p x = false) (h2 : q x = true) : l.countP p < l.countP q := by
  induction l with
  | nil => cases hx
  | cons a l ih =>
    have hm : l.countP p ≤ l.countP q := List.countP_mono_left fun y hy => h y (List.mem_cons_of_mem _ hy)
    rw [List.countP_cons, List.countP_cons]
    rcases List.mem_cons.1 hx with rfl | hx'
    · rw [h1, h2]; simp; omega
    · have := ih (fun y hy => h y (List.mem_cons_of_mem _ hy)) hx'
      cases hpa : p a
      · simp; omega
      · rw [h a List.mem_cons_self hpa]; omega
theorem countP_eq_of {α : Type} (l : List α) (p q : α → Bool) (h : ∀ x ∈ l, p x = true → q x = true) (e : l.countP p = l.countP q) : ∀ x ∈ l, q x = true → p x = true := by
  intro x hx hq
  cases hp : p x
  · have := countP_lt l p q h x hx hp hq; omega
  · rfl

/-- Either the sets have stopped growing before t, or there are more than t of them. -/
theorem reach_grow {i : Nat} (hi : i < N) (hs : s i = true) (t : Nat) : (∃ t' , t' < t ∧ ∀ k, k < N → reachT N s adj i (t' + 1) k = true → reachT N s adj i t' k = true) ∨ t + 1 ≤ sizeT N (reachT N s adj i t) := by
  induction t with
  | zero =>
    right
    have : 0 < (List.range N).countP (reachT N s adj i 0) := by
      rw [List.countP_pos_iff]
      exact ⟨i, List.mem_range.2 hi, by simp [reachT, hs]⟩
    exact this
  | succ t ih =>
    rcases ih with ⟨t', h1, h2⟩ | h
    · exact Or.inl ⟨t', by omega, h2⟩
    · by_cases hst : ∀ k, k < N → reachT N s adj i (t + 1) k = true → reachT N s adj i t k = true
      · exact Or.inl ⟨t, by omega, hst⟩
      · right
        have : ∃ k, k < N ∧ reachT N s adj i (t + 1) k = true ∧ reachT N s adj i t k = false := by
          apply Classical.byContradiction; intro hc
          exact hst fun k hk h1 => by
            cases hb : reachT N s adj i t k
            · exact absurd ⟨k, hk, h1, hb⟩ hc
            · rfl
        obtain ⟨k, hk, h1, h2⟩ := this
        have := countP_lt (List.range N) (reachT N s adj i t) (reachT N s adj i (t + 1)) (fun x _ => reachT_mono i t x) k (List.mem_range.2 hk) h2 h1
        unfold sizeT at h ⊢; omega
theorem reach_stable {i t : Nat} (h : ∀ k, k < N → reachT N s adj i (t + 1) k = true → reachT N s adj i t k = true) {k : Nat} (hi : reachT N s adj i t i = true) (hc : Conn N s adj i k) : reachT N s adj i t k = true := by
  induction hc with
  | refl _ _ => exact hi
  | step hij a b c ih =>
    rename_i j k'
    refine h _ b ?_
    have hj := hij.right
    simp only [reachT, Bool.or_eq_true, Bool.and_eq_true, List.any_eq_true, List.mem_range]
    exact Or.inr ⟨c, j, hj.1, ih, a⟩
/-- What hangs together is reached in N steps. -/
theorem conn_reach {i k : Nat} (hc : Conn N s adj i k) : reachT N s adj i N k = true := by
  obtain ⟨hi, hs⟩ := hc.left
  rcases reach_grow (adj := adj) hi hs N with ⟨t, h1, h2⟩ | h
  · have h0 : reachT N s adj i t i = true := reachT_le (Nat.zero_le t) (by simp [reachT, hs])
    exact reachT_le (by omega) (reach_stable h2 h0 hc)
  · have := sizeT_le N (reachT N s adj i N); omega

/-- The marks of a field: each cell of the set has the least one that it hangs together with. -/
def Marks (N : Nat) (s : Nat → Bool) (adj : Nat → Nat → Bool) (ys : List Int) : Prop :=
  ys.length = N ∧ ∀ k, k < N → (s k = false → ys.getD k 0 = -1) ∧ (s k = true → ∃ j : Nat, ys.getD k 0 = j ∧ Conn N s adj j k ∧ ∀ i, Conn N s adj i k → j ≤ i)
theorem marks_unique {ys zs : List Int} (h : Marks N s adj ys) (h2 : Marks N s adj zs) : ys = zs := by
  apply List.ext_getElem
  · rw [h.1, h2.1]
  · intro k a b
    have hk : k < N := by rw [← h.1]; exact a
    have e1 : ys.getD k 0 = ys[k] := by simp [a]
    have e2 : zs.getD k 0 = zs[k] := by simp [b]
    rw [← e1, ← e2]
    obtain ⟨p1, p2⟩ := h.2 k hk
    obtain ⟨q1, q2⟩ := h2.2 k hk
    cases hs : s k
    · rw [p1 hs, q1 hs]
    · obtain ⟨j, r1, r2, r3⟩ := p2 hs
      obtain ⟨j', t1, t2, t3⟩ := q2 hs
      have := r3 _ t2
      have := t3 _ r2
      rw [r1, t1]; omega
end

end Go.Proofs.Ythpifnjoiklgnaa

namespace Go.Proofs.Ythpifnjoiklgnaa
open Go.RowKit
set_option linter.unusedVariables false
set_option maxRecDepth 100000

section
variable {P : Program} {ops : Array Oper} {Q : Exit → Act → World → Prop} {md : Region.Mode} {S : World → Prop} {L : Nat}

/-- Whichever order is drawn from here on; behind every operation but number L the world meets S. -/
def Till (P : Program) (md : Region.Mode) (ops : Array Oper) (Q : Exit → Act → World → Prop) (S : World → Prop) (L : Nat) : Nat → Array Bool → Act → World → Prop
  | 0, d, a, w => Region.ready md ops d = [] ∧ Q .normal a w
  | m + 1, d, a, w =>
    (Region.ready md ops d = [] → Q .normal a w) ∧
    ∀ i ∈ Region.ready md ops d, wpOp P ops Q i (fun a' w' => (i ≠ L → S w') ∧ Till P md ops Q S L m (d.setIfInBounds i true) a' w') a w

theorem Till.any : ∀ (m : Nat) (d : Array Bool) (a : Act) (w : World), Till P md ops Q S L m d a w → wpAny P md ops Q m d a w
  | 0, _, _, _, h => h
  | m + 1, _, _, _, h => ⟨h.1, fun i hi => wpOp_mono (fun a' w' k => Till.any m _ a' w' k.2) (h.2 i hi)⟩

/-- The last operation waits for number i. -/
def waitsFor (md : Region.Mode) (ops : Array Oper) (L i : Nat) : Bool :=
  match ops[L]? with
  | some o => o.after.any fun e => Region.binds md e && e.on == i
  | none => false

theorem not_last {d : Array Bool} {i j : Nat} (hw : waitsFor md ops L i = true) (hi : i ∈ Region.ready md ops d) (hj : j ∈ Region.ready md ops d) : j ≠ L := by
  rintro rfl
  obtain ⟨_, o, ho, hall⟩ := mem_ready.1 hj
  unfold waitsFor at hw
  rw [ho] at hw
  obtain ⟨k, hk, he⟩ := Array.any_eq_true.1 hw
  simp only [Bool.and_eq_true, beq_iff_eq] at he
  have h1 := hall _ (Array.getElem_mem hk) he.1
  have h0 := (mem_ready.1 hi).1
  rw [he.2] at h1
  rcases Nat.lt_or_ge i d.size with h' | h'
  · simp [h'] at h0 h1; rw [h0] at h1; cases h1
  · simp [Array.getElem?_eq_none h'] at h1

theorem Till.take {i : Nat} {oi : Oper} {v : Value} {m : Nat} {d : Array Bool} {a : Act} {w : World} (hi : ops[i]? = some oi)
    (hs : Region.noSelect ops = true) (hf : Region.free md ops d i = true) (hr : (Region.ready md ops d).contains i = true) (hl : waitsFor md ops L i = true)
    (hQ : ∀ c a w, Q (.panic c) (a.put oi.dst v) w → Q (.panic c) a w) (hy : YieldsIf P ops S oi v a) (hS : S w)
    (h : Till P md ops Q S L m (d.setIfInBounds i true) (a.put oi.dst v) w) : Till P md ops Q S L (m + 1) d a w := by
  have key : ∀ (m : Nat) (d : Array Bool) (a : Act) (w : World),
      (∀ j oj, ops[j]? = some oj → j ≠ i → d.getD j true = false → (∀ e ∈ oj.after, Region.binds md e = true → e.on ≠ i) → oi.apart ops oj = true) →
      i ∈ Region.ready md ops d → YieldsIf P ops S oi v a → S w → Till P md ops Q S L m (d.setIfInBounds i true) (a.put oi.dst v) w → Till P md ops Q S L (m + 1) d a w := by
    intro m
    induction m with
    | zero =>
      intro d a w _ hrd hyd hSd H
      refine ⟨fun e => absurd hrd (by rw [e]; simp), fun j hj => ?_⟩
      by_cases e : j = i
      · subst e; exact hyd.wpOp hi hSd ⟨fun _ => hSd, H⟩
      · have := ready_mono hj e; rw [H.1] at this; simp at this
    | succ m ih =>
      intro d a w hfree hrd hyd hSd H
      refine ⟨fun e => absurd hrd (by rw [e]; simp), fun j hj => ?_⟩
      by_cases e : j = i
      · subst e; exact hyd.wpOp hi hSd ⟨fun _ => hSd, H⟩
      · have hjL := not_last hl hrd hj
        obtain ⟨hjd, oj, hoj, hall⟩ := mem_ready.1 hj
        have hni : ∀ e ∈ oj.after, Region.binds md e = true → e.on ≠ i := fun e he hb heq => by
          have h1 := hall e he hb
          have h0 := (mem_ready.1 hrd).1
          rw [heq] at h1
          rcases Nat.lt_or_ge i d.size with h' | h'
          · simp [h'] at h0 h1; rw [h0] at h1; cases h1
          · simp [Array.getElem?_eq_none h'] at h1
        have step := wpOp_putIf hoj (hfree j oj hoj e hjd hni) (fun cs b => Region.noSelect_spec hs i oi cs b hi) (fun cs b => Region.noSelect_spec hs j oj cs b hoj) hQ hyd (H.2 j (ready_mono hj e))
        refine wpOp_mono (fun a' w' k => ?_) step
        obtain ⟨ky, kS, kT⟩ := k
        refine ⟨kS, ih (d.setIfInBounds j true) a' w' (fun k ok hk hki hun hno => hfree k ok hk hki ?_ hno) (ready_mono hrd (Ne.symm e)) ky (kS hjL) ?_⟩
        · by_cases ejk : j = k
          · subst ejk; exact hjd
          · rw [getD_set_ne true ejk] at hun; exact hun
        · rw [Array.setIfInBounds_comm _ _ e]; exact kT
  exact key m d a w (Region.free_spec hi hf) (by simpa using hr) hy hS h

/-- One operation alone may come up: it is carried out. -/
theorem Till.one {i : Nat} {o : Oper} {m : Nat} {d : Array Bool} {a : Act} {w : World} (hr : Region.ready md ops d = [i]) (hi : ops[i]? = some o) (hw : Region.wanted o (yielded ops a.tmps) = true)
    (h : ∀ K, Hid (∀ a' w', (i ≠ L → S w') → Till P md ops Q S L m (d.setIfInBounds i true) a' w' → K a' w') → (if Region.wanted o (yielded ops a.tmps) = true then Oper.wp P o a w K Q else True)) : Till P md ops Q S L (m + 1) d a w := by
  refine ⟨fun e => (by rw [hr] at e; simp at e), fun j hj => ?_⟩
  rw [hr] at hj
  simp only [List.mem_singleton] at hj
  subst hj
  have k := h (fun a' w' => (j ≠ L → S w') ∧ Till P md ops Q S L m (d.setIfInBounds j true) a' w') (fun a' w' h1 h2 => ⟨h1, h2⟩)
  rw [if_pos hw] at k
  unfold wpOp
  simp only [hi, hw, if_true]
  exact Or.inl k

theorem Till.done {d : Array Bool} {a : Act} {w : World} (hr : Region.ready md ops d = []) (h : Q .normal a w) : ∀ m, Till P md ops Q S L m d a w
  | 0 => ⟨hr, h⟩
  | _ + 1 => ⟨fun _ => h, by rw [hr]; simp⟩

theorem wp_region_till {id : Nat} {a : Act} {w : World} (S : World → Prop) (L : Nat) (hm : P.follows .mixedOrders = true)
    (h : Till P .any ops Q S L ops.size (Array.replicate ops.size false) a w.drew) : (Code.region id ops true).wp P Q a w :=
  wp_region_any hm (Till.any _ _ _ _ h)
end
end Go.Proofs.Ythpifnjoiklgnaa

namespace Go.Proofs.Ythpifnjoiklgnaa
open Go.RowKit
set_option linter.unusedVariables false
set_option maxRecDepth 100000

section
variable {P : Program} {ops : Array Oper} {Q : Exit → Act → World → Prop} {md : Region.Mode} {S : World → Prop} {L : Nat}

end
end Go.Proofs.Ythpifnjoiklgnaa

namespace Go.Proofs.Ythpifnjoiklgnaa
open Go.RowKit
set_option linter.unusedVariables false
set_option maxRecDepth 100000

section
variable {P : Program} {ops : Array Oper} {Q : Exit → Act → World → Prop} {md : Region.Mode}

end
end Go.Proofs.Ythpifnjoiklgnaa
