/- What is drawn of a code for the laws on obstructions. No statement is proved here. -/
import Derived.Test.YthlagmnnkckcnaaProm
import Derived.Test.YthlagmnnkckcnaaLaid20
namespace Go.Proofs.Ythlagmnnkckcnaa
open Go.RowKit
set_option linter.unusedVariables false
set_option maxRecDepth 100000
set_option linter.unusedSimpArgs false

theorem drawRoundOf_any (cb : Option Addr) (n cap : Nat) (zs : List Int) (w : World) (hn : n = zs.length) (hn' : n ≤ 1048576) (hcap : n ≤ cap) (hb : BytesAt w cb zs) :
    Calls Try.prog 25 #[.slice cb n cap] w fun e w' => ∃ x y : Nat, x < 8 ∧ y < 8 ∧ e = .returned (.tuple #[.int .i64 x, .int .i64 y]) ∧ Below w.heap.size w w' := by
  have HN := Lib.hid hn; clear hn
  have HB := Lib.hid hb; clear hb
  go_enter Try.func25, Try.ntmps25
  go_wp2_with fail
  refine (l20Open_any _ _ _ zs _ HN.out hn' hcap HB.out).mono ?_; rintro e w1 ⟨rfl, r1, b1⟩
  have R1 := Lib.hid r1
  clear r1
  go_wp2_with fail
  refine (pick_any w.heap.size 0 8 _ (by omega) (by omega) (by omega) R1.out).mono ?_; rintro e w2 ⟨x, hx, rfl, r2, g2⟩
  have b2 := below_grown b1 g2 (Nat.le_refl _) (fun k e => by cases e; omega)
  go_wp2_with fail
  refine (pick_any w.heap.size _ 8 _ (by omega) (by omega) (by omega) r2).mono ?_; rintro e w3 ⟨y, hy, rfl, r3, g3⟩
  have b3 := below_grown b2 g3 (Nat.le_refl _) (fun k e => by cases e; omega)
  go_wp2
  exact bodyPost_ret (v := .tuple #[.int .i64 x, .int .i64 y]) (by simp [results, Try.results25, go_sem]) rfl ⟨x, y, hx, hy, rfl, b3⟩

set_option maxHeartbeats 4000000 in
theorem drawDarkCells_any (cb : Option Addr) (n cap : Nat) (zs : List Int) (w : World) (hn : n = zs.length) (hn' : n ≤ 1048576) (hcap : n ≤ cap) (hb : BytesAt w cb zs) :
    Calls Try.prog 13 #[.slice cb n cap] w (DrawnX w) := by
  have HN := Lib.hid hn; clear hn
  have HB := Lib.hid hb; clear hb
  go_enter Try.func13, Try.ntmps13
  go_wp2_with fail
  refine (l20Open_any _ _ _ zs _ HN.out hn' hcap (HB.out.below (below1 _ _))).mono ?_; rintro e w1 ⟨rfl, r1, b1⟩
  have q1 := heap_later (heap_new w (.cells #[.int .i64 0, .int .i64 0, .slice none 0 0] 25)) b1
  have B1 := Lib.hid (below_seq (below1 w _) b1)
  have R1 : Hid (RD w1 (w.heap.size + 1) 0) := by show RD _ _ _; simpa using r1
  have l1 := heap_lt q1
  have l2 := R1.out.lt
  clear r1 b1
  go_wp2_with fail
  refine (l20Some_any (w.heap.size + 1) 0 6 _ (by omega) (by omega) (by omega) R1.out).mono ?_; rintro e w2 ⟨W, T, a, m, c, xs, rfl, hm, h36, hs, o2, r2, g2⟩
  have q2 := heap_grown q1 g2 (by simp)
  have B2 := Lib.hid (below_grown B1.out g2 (Nat.le_refl _) (fun k e => by cases e; omega))
  have O2 := Lib.hid o2
  have R2 := Lib.hid r2
  have HM := Lib.hid hm
  clear o2 r2 g2 hm
  obtain ⟨d0, d1, d2⟩ := cells3 q2
  have f0 := free3 q2 0
  have f1 := free3 q2 1
  have f2 := free3 q2 2
  go_wp2
  refine bodyPost_ret (v := .agg #[.int .i64 W, .int .i64 T, .slice a m c]) (by simp [results, Try.results13, go_sem, d0, d1, d2]) rfl ⟨W, T, a, m, c, xs, rfl, HM.out, h36, hs, ?_, below_set3 B2.out (Nat.le_refl _) _ _ _⟩
  exact (O2.out.set3 (by omega) _ _ _).lower (by omega)

/-- A region and two small numbers were drawn of a code. -/
def DrawnXII (w : World) (e : Ending) (w' : World) : Prop :=
  ∃ (W T : Int) (a : Option Addr) (n cap : Nat) (xs : List Bool) (r s : Int), e = .returned (.tuple #[.agg #[.int .i64 W, .int .i64 T, .slice a n cap], .int .i64 r, .int .i64 s]) ∧ n = xs.length ∧ n ≤ 36 ∧ (0 ≤ W ∧ W ≤ 6 ∧ 0 ≤ T ∧ T ≤ 6) ∧ (-20 ≤ r ∧ r ≤ 20 ∧ -20 ≤ s ∧ s ≤ 20) ∧ OwnsB w' (w.heap.size + 1) (.slice a n cap) xs ∧ Below w.heap.size w w'
theorem d19 {x : Nat} (h : x < 20) : (x : Int) / 19 = 0 ∨ (x : Int) / 19 = 1 := by omega

set_option maxHeartbeats 4000000 in
theorem drawColourMany_any (cb : Option Addr) (n cap : Nat) (zs : List Int) (w : World) (hn : n = zs.length) (hn' : n ≤ 1048576) (hcap : n ≤ cap) (hb : BytesAt w cb zs) :
    Calls Try.prog 30 #[.slice cb n cap] w (DrawnXII w) := by
  have HN := Lib.hid hn; clear hn
  have HB := Lib.hid hb; clear hb
  go_enter Try.func30, Try.ntmps30
  go_wp2_with fail
  refine (l20Open_any _ _ _ zs _ HN.out hn' hcap (HB.out.below (below1 _ _))).mono ?_; rintro e w1 ⟨rfl, r1, b1⟩
  have q1 := heap_later (heap_new w (.cells #[.int .i64 0, .int .i64 0, .slice none 0 0] 25)) b1
  have B1 := Lib.hid (below_seq (below1 w _) b1)
  have R1 : Hid (RD w1 (w.heap.size + 1) 0) := by show RD _ _ _; simpa using r1
  have l1 := heap_lt q1
  have l2 := R1.out.lt
  clear r1 b1
  go_wp2_with fail
  refine (l20Some_any (w.heap.size + 1) 0 9 _ (by omega) (by omega) (by omega) R1.out).mono ?_; rintro e w2 ⟨W, T, a, m, c, xs, rfl, hm, h36, hs, o2, r2, g2⟩
  have q2 := heap_grown q1 g2 (by simp)
  have B2 := Lib.hid (below_grown B1.out g2 (Nat.le_refl _) (fun k e => by cases e; omega))
  have O2 := Lib.hid o2
  have R2 := Lib.hid r2
  have HM := Lib.hid hm
  clear o2 r2 g2 hm
  go_wp2_with fail
  refine (pick_any (w.heap.size + 1) (0 + 100 + 200) 4 _ (by omega) (by omega) (by omega) R2.out).mono ?_; rintro e w3 ⟨x, hx, rfl, r3, g3⟩
  have q3 := heap_grown q2 g3 (by simp)
  have B3 := Lib.hid (below_grown B2.out g3 (Nat.le_refl _) (fun k e => by cases e; omega))
  have O3 := Lib.hid (OwnsB.keptBy O2.out g3 (fun k e => by cases e; omega))
  have R3 := Lib.hid r3
  clear q2 r3 g3
  go_wp2_with fail
  refine (pick_any (w.heap.size + 1) _ 20 _ (by omega) (by omega) (by omega) R3.out).mono ?_; rintro e w4 ⟨y, hy, rfl, r4, g4⟩
  have q4 := heap_grown q3 g4 (by simp)
  have B4 := Lib.hid (below_grown B3.out g4 (Nat.le_refl _) (fun k e => by cases e; omega))
  have O4 := Lib.hid (OwnsB.keptBy O3.out g4 (fun k e => by cases e; omega))
  have R4 := Lib.hid r4
  clear q3 r4 g4
  go_wp2_with fail
  refine (pick_any (w.heap.size + 1) _ 20 _ (by omega) (by omega) (by omega) R4.out).mono ?_; rintro e w5 ⟨z, hz, rfl, r5, g5⟩
  have q5 := heap_grown q4 g5 (by simp)
  have B5 := Lib.hid (below_grown B4.out g5 (Nat.le_refl _) (fun k e => by cases e; omega))
  have O5 := Lib.hid (OwnsB.keptBy O4.out g5 (fun k e => by cases e; omega))
  have R5 := Lib.hid r5
  clear q4 r5 g5
  go_wp2_with fail
  refine (pick_any (w.heap.size + 1) _ 5 _ (by omega) (by omega) (by omega) R5.out).mono ?_; rintro e w6 ⟨u, hu, rfl, r6, g6⟩
  have q6 := heap_grown q5 g6 (by simp)
  have B6 := Lib.hid (below_grown B5.out g6 (Nat.le_refl _) (fun k e => by cases e; omega))
  have O6 := Lib.hid (OwnsB.keptBy O5.out g6 (fun k e => by cases e; omega))
  have R6 := Lib.hid r6
  clear q5 r6 g6
  go_wp2_with fail
  refine (pick_any (w.heap.size + 1) _ 20 _ (by omega) (by omega) (by omega) R6.out).mono ?_; rintro e w7 ⟨v, hv, rfl, r7, g7⟩
  have q7 := heap_grown q6 g7 (by simp)
  have B7 := Lib.hid (below_grown B6.out g7 (Nat.le_refl _) (fun k e => by cases e; omega))
  have O7 := Lib.hid (OwnsB.keptBy O6.out g7 (fun k e => by cases e; omega))
  have R7 := Lib.hid r7
  clear q6 r7 g7
  have HX : Hid (x < 4) := hx
  have HY : Hid (y < 20) := hy
  have HZ : Hid (z < 20) := hz
  have HU : Hid (u < 5) := hu
  have HV : Hid (v < 20) := hv
  obtain ⟨d0, d1, d2⟩ := cells3 q7
  have f0 := free3 q7 0
  have f1 := free3 q7 1
  have f2 := free3 q7 2
  go_wp2
  refine bodyPost_ret (v := .tuple #[.agg #[.int .i64 W, .int .i64 T, .slice a m c], .int .i64 (1 + (x : Int) + (y : Int) / 19 * 4 - (z : Int) / 19 * 5), .int .i64 ((u : Int) - (v : Int) / 19)]) (by simp [results, Try.results30, go_sem, d0, d1, d2]) rfl ⟨W, T, a, m, c, xs, _, _, rfl, HM.out, h36, hs, ⟨by omega, by omega, by omega, by omega⟩, ?_, below_set3 B7.out (Nat.le_refl _) _ _ _⟩
  exact (O7.out.set3 (by omega) _ _ _).lower (by omega)

/-- A region and a small number were drawn of a code. -/
def DrawnXI (w : World) (e : Ending) (w' : World) : Prop :=
  ∃ (W T : Int) (a : Option Addr) (n cap : Nat) (xs : List Bool) (r : Int), e = .returned (.tuple #[.agg #[.int .i64 W, .int .i64 T, .slice a n cap], .int .i64 r]) ∧ n = xs.length ∧ n ≤ 36 ∧ (0 ≤ W ∧ W ≤ 6 ∧ 0 ≤ T ∧ T ≤ 6) ∧ (-20 ≤ r ∧ r ≤ 20) ∧ OwnsB w' (w.heap.size + 1) (.slice a n cap) xs ∧ Below w.heap.size w w'
/-- A region and a list of numbers were drawn of a code. -/
def DrawnXL (w : World) (e : Ending) (w' : World) : Prop :=
  ∃ (W T : Int) (a : Option Addr) (n cap : Nat) (xs : List Bool) (la : Option Addr) (m lcap : Nat) (L : List Int), e = .returned (.tuple #[.agg #[.int .i64 W, .int .i64 T, .slice a n cap], .slice la m lcap]) ∧ n = xs.length ∧ n ≤ 36 ∧ (0 ≤ W ∧ W ≤ 6 ∧ 0 ≤ T ∧ T ≤ 6) ∧ OwnsB w' (w.heap.size + 1) (.slice a n cap) xs ∧ m = L.length ∧ m ≤ 37 ∧ OwnsI w' (w.heap.size + 1) (.slice la m lcap) L ∧ (∃ g, la = some ⟨g, 0, none⟩) ∧ Below w.heap.size w w'
theorem OwnsI.set37 {w : World} {B : Nat} {v : Value} {xs : List Int} (h : OwnsI w B v xs) {b : Nat} (hb : b < B) (x y z : Value) : OwnsI (((w.setCell ⟨b, 0, none⟩ x).setCell ⟨b, 1, none⟩ y).setCell ⟨b, 2, none⟩ z) B v xs :=
  ((h.setBelow (p := ⟨b, 0, none⟩) hb x).setBelow (p := ⟨b, 1, none⟩) hb y).setBelow (p := ⟨b, 2, none⟩) hb z

end Go.Proofs.Ythlagmnnkckcnaa
