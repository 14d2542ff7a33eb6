/- A list of integers that is read from its front and appended to: a slice with an offset. -/
import Derived.Test.YtpcajacekmidbaaGreatKLayOne
import Derived.ArgAppend
import Derived.Deep.LoopGhost
namespace Go.Proofs.YtpcajacekmidbaaGreat
open Go.RowKit
set_option linter.unusedVariables false
set_option maxRecDepth 100000
set_option linter.unusedSimpArgs false



def dX (d : Nat) : Int := (d % 3 : Nat) - 1
def dY (d : Nat) : Int := (d / 3 : Nat) - 1
def arOk (W T : Int) (xs : List Bool) (x y : Int) (corners : Bool) (d : Nat) : Bool :=
 !(dX d == 0 && dY d == 0) && !(dX d != 0 && dY d != 0 && !corners) && atB W T xs (x + dX d) (y + dY d)
def arList (W T : Int) (xs : List Bool) (x y : Int) (corners : Bool) (D : Nat) : List Int :=
 ((List.range D).filter (arOk W T xs x y corners)).map fun d => (y + dY d) * W + (x + dX d)
theorem arList_succ (W T : Int) (xs : List Bool) (x y : Int) (corners : Bool) (D : Nat) :
 arList W T xs x y corners (D + 1) = arList W T xs x y corners D ++ if arOk W T xs x y corners D then [(y + dY D) * W + (x + dX D)] else [] := by
 unfold arList
 rw [List.range_succ, List.filter_append, List.map_append]
 congr 1
 by_cases h : arOk W T xs x y corners D = true
 · simp [h]
 · rw [Bool.not_eq_true] at h; simp [h]
theorem arList_len (W T : Int) (xs : List Bool) (x y : Int) (corners : Bool) (D : Nat) : (arList W T xs x y corners D).length ≤ D := by
 unfold arList
 rw [List.length_map]
 have := List.length_filter_le (arOk W T xs x y corners) (List.range D)
 rw [List.length_range] at this; exact this

theorem dX_at {j i : Nat} (h : i < 3) : dX (3 * j + i) = (i : Int) - 1 := by
 unfold dX; rw [Nat.mul_add_mod, Nat.mod_eq_of_lt h]
theorem dY_at {j i : Nat} (h : i < 3) : dY (3 * j + i) = (j : Int) - 1 := by
 unfold dY; rw [Nat.mul_add_div (by omega), Nat.div_eq_of_lt h]; simp
theorem arList_skip {W T : Int} {xs : List Bool} {x y : Int} {corners : Bool} {D : Nat} (h : arOk W T xs x y corners D = false) : arList W T xs x y corners (D + 1) = arList W T xs x y corners D := by
 rw [arList_succ, h]; simp
theorem arList_take {W T : Int} {xs : List Bool} {x y : Int} {corners : Bool} {D : Nat} (h : arOk W T xs x y corners D = true) : arList W T xs x y corners (D + 1) = arList W T xs x y corners D ++ [(y + dY D) * W + (x + dX D)] := by
 rw [arList_succ, h]; simp

set_option maxHeartbeats 8000000 in
theorem cellsAround_any (W T : Int) (a : Option Addr) (n cap : Nat) (xs : List Bool) (cell : Nat) (corners : Bool) (w : World) (hn : n = xs.length) (hW0 : 1 ≤ W) (hW1 : W ≤ 100) (hT0 : 0 ≤ T) (hT1 : T ≤ 100) (hWT : (n : Int) = W * T) (hc : cell < n) (ha : BoolsAt w a xs) :
 Calls Tryz.prog 121 #[.agg #[.int .i64 W, .int .i64 T, .slice a n cap], .int .i64 cell, .bool corners] w fun e w' => ∃ v, e = .returned v ∧ OwnsI w' w.heap.size v (arList W T xs ((cell : Int) % W) ((cell : Int) / W) corners 9) ∧ Below w.heap.size w w' := by
 have pb := (prod_bd (by omega) hW1 hT0 hT1).2
 have n4 : n ≤ 10000 := by omega
 obtain ⟨i0, hi, hz0, hz1, hz2⟩ := info_parts infoInt
 have HN := Lib.hid hn; clear hn
 have HWT := Lib.hid hWT; clear hWT
 have HA := Lib.hid ha; clear ha
 obtain ⟨m1, m2, m3, m4⟩ := divmod_bd (W := W) (k := cell) hW0
 have e0 : (0 : Int) ≤ cell := by omega
 have hWn : W ≠ 0 := by omega
 go_enter Tryz.func121, Tryz.ntmps121
 go_wp2
 go_quiet (fail)
 go_wp2
 generalize hx : (cell : Int) % W = x at *
 generalize hy : (cell : Int) / W = y at *
 obtain ⟨wA, hwA⟩ : ∃ wA, wA = (w.alloc (.cells #[.int .i64 W, .int .i64 T, .slice a n cap] 25)).drewN nq := ⟨_, rfl⟩
 have pA : wA.heap[w.heap.size]? = some (.cells #[.int .i64 W, .int .i64 T, .slice a n cap] 25 (0, 0)) := by rw [hwA]; exact heap_new w _
 have bA : Below w.heap.size w wA := by rw [hwA]; exact below_seq (below1 _ _) (drewN_below _ _)
 rw [← hwA]
 clear hwA
 go_loopw [7, 10, 11, 12, 13] (fun v dy _ _ _ wr => ∃ (j : Nat) (q : Int), j ≤ 3 ∧ Hid (q = (j : Int) - 1) ∧ -1 ≤ q ∧ q ≤ 2 ∧ dy = .int .i64 q ∧ OwnsI wr (w.heap.size + 1) v (arList W T xs x y corners (3 * j)) ∧ wr.heap[w.heap.size]? = some (.cells #[.int .i64 W, .int .i64 T, .slice a n cap] 25 (0, 0)) ∧ Below w.heap.size w wr) (fun _ dy _ _ _ _ => (2 - intOf dy).toNat)
 case atStart => exact ⟨0, -1, by omega, by show _ = _; omega, by omega, by omega, rfl, OwnsI.nil _ _, pA, bA⟩
 case round =>
  obtain ⟨j, q, hj, HQ, hq0, hq1, rfl, hown, hp, hbel⟩ := hrel
  have HO := Lib.hid hown; clear hown
  by_cases hlt : j < 3
  · have hj2 : q ≤ 1 := by have := HQ.out; omega
    go_wp2
    go_loopw [7, 11, 12, 13] (fun v dx _ _ wr => ∃ (i : Nat) (p : Int), i ≤ 3 ∧ Hid (p = (i : Int) - 1) ∧ -1 ≤ p ∧ p ≤ 2 ∧ dx = .int .i64 p ∧ OwnsI wr (w.heap.size + 1) v (arList W T xs x y corners (3 * j + i)) ∧ wr.heap[w.heap.size]? = some (.cells #[.int .i64 W, .int .i64 T, .slice a n cap] 25 (0, 0)) ∧ Below w.heap.size w wr) (fun _ dx _ _ _ => (2 - intOf dx).toNat)
    case atStart => exact ⟨0, -1, by omega, by show _ = _; omega, by omega, by omega, rfl, HO.out, hp, hbel⟩
    case round =>
     clear HO hp hbel
     obtain ⟨i, p, hi3, HP, hp0, hp1, rfl, hown, hp, hbel⟩ := hrel
     have HO := Lib.hid hown; clear hown
     obtain ⟨c0, c1, c2⟩ := cells3 hp
     have lp := heap_lt hp
     by_cases hlti : i < 3
     · have hi2 : p ≤ 1 := by have := HP.out; omega
       have eX : Hid (dX (3 * j + i) = p) := by show _ = _; rw [dX_at hlti, HP.out]
       have eY : Hid (dY (3 * j + i) = q) := by show _ = _; rw [dY_at hlti, HQ.out]
       have HAt := Lib.hid (HA.out.below hbel)
       have hall := arList_len W T xs x y corners (3 * j + i)
       have NXT : ∀ wn : World, Hid (arOk W T xs x y corners (3 * j + i) = false) → arList W T xs x y corners (3 * j + (i + 1)) = arList W T xs x y corners (3 * j + i) := fun _ h => arList_skip h.out
       have NXT' := Lib.hid NXT; clear NXT
       cases hpz : (p == 0)
       all_goals
        cases hqz : (q == 0)
        all_goals
         have hpz' : (p != 0) = !(p == 0) := rfl
         have hqz' : (q != 0) = !(q == 0) := rfl
         rw [hpz] at hpz'
         rw [hqz] at hqz'
         simp only [Bool.not_true, Bool.not_false] at hpz' hqz'
       · cases hcn : corners
         · have ok : arOk W T xs x y false (3 * j + i) = false := by unfold arOk; rw [eX.out, eY.out, hpz', hqz']; simp
           subst hcn
           have OKF := Lib.hid ok; clear ok
           have BEL := Lib.hid hbel; clear hbel
           go_wp2
           go_roundw
           case rel => exact ⟨i + 1, p + 1, by omega, by show _ = _; rw [HP.out]; omega, by omega, by omega, rfl, by rw [NXT'.out wr OKF]; exact HO.out, hp, BEL.out⟩
           case measure => simp [intOf]; omega
         · subst hcn
           have BEL := Lib.hid hbel; clear hbel
           cases hat : atB W T xs (x + p) (y + q)
           · have ok : arOk W T xs x y true (3 * j + i) = false := by unfold arOk; rw [eX.out, eY.out, hat]; simp
             have OKF := Lib.hid ok; clear ok
             go_wp2_with fail
             refine (hasCell_any _ _ _ _ _ _ _ xs _ HN.out (by omega) (by omega) (by omega) (by omega) HWT.out HAt.out).mono ?_; rintro e w6 ⟨rfl, hb6⟩
             have p6 := heap_later hp hb6
             have B6 := Lib.hid (below_seq BEL.out hb6)
             have O6 := Lib.hid (HO.out.below hb6)
             clear c0 c1 c2
             go_wp2
             go_roundw
             case rel => exact ⟨i + 1, p + 1, by omega, by show _ = _; rw [HP.out]; omega, by omega, by omega, rfl, by rw [NXT'.out wr OKF]; exact O6.out, p6, B6.out⟩
             case measure => simp [intOf]; omega
           · have ok : arOk W T xs x y true (3 * j + i) = true := by unfold arOk; rw [eX.out, eY.out, hat, hpz, hqz]; (try rw [hpz']); (try rw [hqz']); simp
             have OKF := Lib.hid ok; clear ok
             have hin : 0 ≤ x + p ∧ x + p < W ∧ 0 ≤ y + q ∧ y + q < T := by
              have h := hat; simp only [atB, Bool.and_eq_true, inF, decide_eq_true_eq] at h; exact h.1
             obtain ⟨n0, n1, n2, n3⟩ := hin
             obtain ⟨i0', i1', i2'⟩ := idx_bd n0 n1 n2 n3
             go_wp2_with fail
             refine (hasCell_any _ _ _ _ _ _ _ xs _ HN.out (by omega) (by omega) (by omega) (by omega) HWT.out HAt.out).mono ?_; rintro e w6 ⟨rfl, hb6⟩
             have p6 := heap_later hp hb6
             have B6 := Lib.hid (below_seq BEL.out hb6)
             have O6 := Lib.hid (HO.out.below hb6)
             clear c0 c1 c2
             obtain ⟨c0, c1, c2⟩ := cells3 p6
             go_wp2_with fail
             refine (cellAt_any _ _ _ _ (.bool false) _ _ _ _ n0 (by omega) i0' (by omega)).mono ?_; rintro e w7 ⟨rfl, hb7⟩
             have p7 := heap_later p6 hb7
             have B7 := Lib.hid (below_seq B6.out hb7)
             have O7 := Lib.hid (O6.out.below hb7)
             have hz7 := heap_lt p7
             clear c0 c1 c2
             go_wp2_with (at_builtin; refine wpList_append_own _ rfl _ _ 26 rfl (w.heap.size + 1) 3 i0 (.int .i64 0) 1 8 Tryz.underlying26 hi hz0 hz1 hz2 rfl (by decide) _ (arList W T xs x y true (3 * j + i)).length ((arList W T xs x y true (3 * j + i)).map (Value.int .i64)) rfl (World.ownsRow.alloc O7.out _) ⟨w7.heap.size, 0, none⟩ 1 1 [.int .i64 ((y + q) * W + (x + p))] rfl rfl (new_int _ _) (one_int _) (by unfold maxLen; omega) (by omega) (by simp; omega) ?_; intro v' w8 hown' hgrow _; have p8 := heap_grown (heap_later p7 (below1 _ _)) hgrow (O7.out.ownBlock (by omega)); have O8 := Lib.hid (OwnsI.ofRow (xs := arList W T xs x y true (3 * j + (i + 1))) hown' (by rw [show 3 * j + (i + 1) = 3 * j + i + 1 from rfl, arList_take OKF.out, eX.out, eY.out]; simp) (by rw [show 3 * j + (i + 1) = 3 * j + i + 1 from rfl, arList_take OKF.out]; simp)); have B8 := Lib.hid (below_grown (below_seq B7.out (below1 _ _)) hgrow (Nat.le_refl _) (O7.out.ownAt (by omega))); clear hown' hgrow)
             go_roundw
             case rel => exact ⟨i + 1, p + 1, by omega, by show _ = _; rw [HP.out]; omega, by omega, by omega, rfl, O8.out, p8, B8.out⟩
             case measure => simp [intOf]; omega
       · have BEL := Lib.hid hbel; clear hbel
         cases hat : atB W T xs (x + p) (y + q)
         · have ok : arOk W T xs x y corners (3 * j + i) = false := by unfold arOk; rw [eX.out, eY.out, hat]; simp
           have OKF := Lib.hid ok; clear ok
           go_wp2_with fail
           refine (hasCell_any _ _ _ _ _ _ _ xs _ HN.out (by omega) (by omega) (by omega) (by omega) HWT.out HAt.out).mono ?_; rintro e w6 ⟨rfl, hb6⟩
           have p6 := heap_later hp hb6
           have B6 := Lib.hid (below_seq BEL.out hb6)
           have O6 := Lib.hid (HO.out.below hb6)
           clear c0 c1 c2
           go_wp2
           go_roundw
           case rel => exact ⟨i + 1, p + 1, by omega, by show _ = _; rw [HP.out]; omega, by omega, by omega, rfl, by rw [NXT'.out wr OKF]; exact O6.out, p6, B6.out⟩
           case measure => simp [intOf]; omega
         · have ok : arOk W T xs x y corners (3 * j + i) = true := by unfold arOk; rw [eX.out, eY.out, hat, hpz, hqz]; (try rw [hpz']); (try rw [hqz']); simp
           have OKF := Lib.hid ok; clear ok
           have hin : 0 ≤ x + p ∧ x + p < W ∧ 0 ≤ y + q ∧ y + q < T := by
            have h := hat; simp only [atB, Bool.and_eq_true, inF, decide_eq_true_eq] at h; exact h.1
           obtain ⟨n0, n1, n2, n3⟩ := hin
           obtain ⟨i0', i1', i2'⟩ := idx_bd n0 n1 n2 n3
           go_wp2_with fail
           refine (hasCell_any _ _ _ _ _ _ _ xs _ HN.out (by omega) (by omega) (by omega) (by omega) HWT.out HAt.out).mono ?_; rintro e w6 ⟨rfl, hb6⟩
           have p6 := heap_later hp hb6
           have B6 := Lib.hid (below_seq BEL.out hb6)
           have O6 := Lib.hid (HO.out.below hb6)
           clear c0 c1 c2
           obtain ⟨c0, c1, c2⟩ := cells3 p6
           go_wp2_with fail
           refine (cellAt_any _ _ _ _ (.bool false) _ _ _ _ n0 (by omega) i0' (by omega)).mono ?_; rintro e w7 ⟨rfl, hb7⟩
           have p7 := heap_later p6 hb7
           have B7 := Lib.hid (below_seq B6.out hb7)
           have O7 := Lib.hid (O6.out.below hb7)
           have hz7 := heap_lt p7
           clear c0 c1 c2
           go_wp2_with (at_builtin; refine wpList_append_own _ rfl _ _ 26 rfl (w.heap.size + 1) 3 i0 (.int .i64 0) 1 8 Tryz.underlying26 hi hz0 hz1 hz2 rfl (by decide) _ (arList W T xs x y corners (3 * j + i)).length ((arList W T xs x y corners (3 * j + i)).map (Value.int .i64)) rfl (World.ownsRow.alloc O7.out _) ⟨w7.heap.size, 0, none⟩ 1 1 [.int .i64 ((y + q) * W + (x + p))] rfl rfl (new_int _ _) (one_int _) (by unfold maxLen; omega) (by omega) (by simp; omega) ?_; intro v' w8 hown' hgrow _; have p8 := heap_grown (heap_later p7 (below1 _ _)) hgrow (O7.out.ownBlock (by omega)); have O8 := Lib.hid (OwnsI.ofRow (xs := arList W T xs x y corners (3 * j + (i + 1))) hown' (by rw [show 3 * j + (i + 1) = 3 * j + i + 1 from rfl, arList_take OKF.out, eX.out, eY.out]; simp) (by rw [show 3 * j + (i + 1) = 3 * j + i + 1 from rfl, arList_take OKF.out]; simp)); have B8 := Lib.hid (below_grown (below_seq B7.out (below1 _ _)) hgrow (Nat.le_refl _) (O7.out.ownAt (by omega))); clear hown' hgrow)
           go_roundw
           case rel => exact ⟨i + 1, p + 1, by omega, by show _ = _; rw [HP.out]; omega, by omega, by omega, rfl, O8.out, p8, B8.out⟩
           case measure => simp [intOf]; omega
       · have BEL := Lib.hid hbel; clear hbel
         cases hat : atB W T xs (x + p) (y + q)
         · have ok : arOk W T xs x y corners (3 * j + i) = false := by unfold arOk; rw [eX.out, eY.out, hat]; simp
           have OKF := Lib.hid ok; clear ok
           go_wp2_with fail
           refine (hasCell_any _ _ _ _ _ _ _ xs _ HN.out (by omega) (by omega) (by omega) (by omega) HWT.out HAt.out).mono ?_; rintro e w6 ⟨rfl, hb6⟩
           have p6 := heap_later hp hb6
           have B6 := Lib.hid (below_seq BEL.out hb6)
           have O6 := Lib.hid (HO.out.below hb6)
           clear c0 c1 c2
           go_wp2
           go_roundw
           case rel => exact ⟨i + 1, p + 1, by omega, by show _ = _; rw [HP.out]; omega, by omega, by omega, rfl, by rw [NXT'.out wr OKF]; exact O6.out, p6, B6.out⟩
           case measure => simp [intOf]; omega
         · have ok : arOk W T xs x y corners (3 * j + i) = true := by unfold arOk; rw [eX.out, eY.out, hat, hpz, hqz]; (try rw [hpz']); (try rw [hqz']); simp
           have OKF := Lib.hid ok; clear ok
           have hin : 0 ≤ x + p ∧ x + p < W ∧ 0 ≤ y + q ∧ y + q < T := by
            have h := hat; simp only [atB, Bool.and_eq_true, inF, decide_eq_true_eq] at h; exact h.1
           obtain ⟨n0, n1, n2, n3⟩ := hin
           obtain ⟨i0', i1', i2'⟩ := idx_bd n0 n1 n2 n3
           go_wp2_with fail
           refine (hasCell_any _ _ _ _ _ _ _ xs _ HN.out (by omega) (by omega) (by omega) (by omega) HWT.out HAt.out).mono ?_; rintro e w6 ⟨rfl, hb6⟩
           have p6 := heap_later hp hb6
           have B6 := Lib.hid (below_seq BEL.out hb6)
           have O6 := Lib.hid (HO.out.below hb6)
           clear c0 c1 c2
           obtain ⟨c0, c1, c2⟩ := cells3 p6
           go_wp2_with fail
           refine (cellAt_any _ _ _ _ (.bool false) _ _ _ _ n0 (by omega) i0' (by omega)).mono ?_; rintro e w7 ⟨rfl, hb7⟩
           have p7 := heap_later p6 hb7
           have B7 := Lib.hid (below_seq B6.out hb7)
           have O7 := Lib.hid (O6.out.below hb7)
           have hz7 := heap_lt p7
           clear c0 c1 c2
           go_wp2_with (at_builtin; refine wpList_append_own _ rfl _ _ 26 rfl (w.heap.size + 1) 3 i0 (.int .i64 0) 1 8 Tryz.underlying26 hi hz0 hz1 hz2 rfl (by decide) _ (arList W T xs x y corners (3 * j + i)).length ((arList W T xs x y corners (3 * j + i)).map (Value.int .i64)) rfl (World.ownsRow.alloc O7.out _) ⟨w7.heap.size, 0, none⟩ 1 1 [.int .i64 ((y + q) * W + (x + p))] rfl rfl (new_int _ _) (one_int _) (by unfold maxLen; omega) (by omega) (by simp; omega) ?_; intro v' w8 hown' hgrow _; have p8 := heap_grown (heap_later p7 (below1 _ _)) hgrow (O7.out.ownBlock (by omega)); have O8 := Lib.hid (OwnsI.ofRow (xs := arList W T xs x y corners (3 * j + (i + 1))) hown' (by rw [show 3 * j + (i + 1) = 3 * j + i + 1 from rfl, arList_take OKF.out, eX.out, eY.out]; simp) (by rw [show 3 * j + (i + 1) = 3 * j + i + 1 from rfl, arList_take OKF.out]; simp)); have B8 := Lib.hid (below_grown (below_seq B7.out (below1 _ _)) hgrow (Nat.le_refl _) (O7.out.ownAt (by omega))); clear hown' hgrow)
           go_roundw
           case rel => exact ⟨i + 1, p + 1, by omega, by show _ = _; rw [HP.out]; omega, by omega, by omega, rfl, O8.out, p8, B8.out⟩
           case measure => simp [intOf]; omega
       · have ok : arOk W T xs x y corners (3 * j + i) = false := by unfold arOk; rw [eX.out, eY.out, hpz, hqz]; rfl
         have OKF := Lib.hid ok; clear ok
         have BEL := Lib.hid hbel; clear hbel
         go_wp2
         go_roundw
         case rel => exact ⟨i + 1, p + 1, by omega, by show _ = _; rw [HP.out]; omega, by omega, by omega, rfl, by rw [NXT'.out wr OKF]; exact HO.out, hp, BEL.out⟩
         case measure => simp [intOf]; omega
     · have hi2 : ¬ p ≤ 1 := by have := HP.out; omega
       obtain rfl : i = 3 := by omega
       have BEL := Lib.hid hbel; clear hbel
       go_wp2
       go_roundw
       case rel => exact ⟨j + 1, q + 1, by omega, by show _ = _; rw [HQ.out]; omega, by omega, by omega, rfl, by rw [show 3 * (j + 1) = 3 * j + 3 from rfl]; exact HO.out, hp, BEL.out⟩
       case measure => simp [intOf]; omega
  · have hj2 : ¬ q ≤ 1 := by have := HQ.out; omega
    obtain rfl : j = 3 := by omega
    have BEL := Lib.hid hbel; clear hbel
    go_wp2
    go_ret
    exact ⟨_, rfl, HO.out.lower (by omega), BEL.out⟩
end Go.Proofs.YtpcajacekmidbaaGreat

namespace Go.Proofs.YtpcajacekmidbaaGreat
open Go.RowKit
set_option linter.unusedVariables false
set_option maxRecDepth 100000
set_option linter.unusedSimpArgs false

section
variable {N : Nat} {s : Nat → Bool} {adj : Nat → Nat → Bool}
def AllM (N : Nat) (s : Nat → Bool) (adj : Nat → Nat → Bool) (M : List Int) (k : Nat) : Prop := ∀ j, adj k j = true → j < N → s j = true → 0 ≤ M.getD j 0
structure SpI (N : Nat) (s : Nat → Bool) (adj : Nat → Nat → Bool) (first : Nat) (M0 M : List Int) (zs : List Int) (D : Nat → Prop) : Prop where
 len : M.length = N
 old : ∀ k, k < N → M.getD k 0 = M0.getD k 0 ∨ (M.getD k 0 = first ∧ Conn N s adj first k)
 fst : M.getD first 0 = first
 que : ∀ i, i < zs.length → ∃ z : Nat, zs.getD i 0 = z ∧ z < N ∧ Conn N s adj first z
 clo : ∀ j, Conn N s adj first j → M.getD j 0 = first → (∃ i, i < zs.length ∧ zs.getD i 0 = j) ∨ D j ∨ AllM N s adj M j
theorem SpI.start {first : Nat} {M0 : List Int} (hl : M0.length = N) (hf : first < N) (hs : s first = true) (hneg : ∀ j, Conn N s adj first j → M0.getD j 0 < 0) : SpI N s adj first M0 (M0.set first first) [(first : Int)] (fun _ => False) := by
 refine ⟨by simp [hl], fun k hk => ?_, ?_, fun i hi => ?_, fun j hj hm => ?_⟩
 · rw [getD_set1]
   by_cases e : k = first ∧ first < M0.length
   · rw [if_pos e]; right; exact ⟨rfl, by rw [e.1]; exact .refl hf hs⟩
   · rw [if_neg e]; exact Or.inl rfl
 · rw [getD_set1, if_pos ⟨rfl, by omega⟩]
 · simp at hi; subst hi; exact ⟨first, rfl, hf, .refl hf hs⟩
 · rw [getD_set1] at hm
   by_cases e : j = first ∧ first < M0.length
   · left; exact ⟨0, by simp, by rw [e.1]; rfl⟩
   · rw [if_neg e] at hm; have := hneg j hj; omega
theorem SpI.pop {first : Nat} {M0 M : List Int} {z : Int} {zs : List Int} (h : SpI N s adj first M0 M (z :: zs) (fun _ => False)) : ∃ c : Nat, z = c ∧ c < N ∧ Conn N s adj first c ∧ SpI N s adj first M0 M zs (fun j => j = c) := by
 obtain ⟨c, hc, hcN, hcc⟩ := h.que 0 (by simp)
 refine ⟨c, hc, hcN, hcc, h.len, h.old, h.fst, fun i hi => h.que (i + 1) (by simp; omega), fun j hj hm => ?_⟩
 rcases h.clo j hj hm with ⟨i, hi, e⟩ | hf | ha
 · cases i with
   | zero => right; left; have : z = j := e; have hz : z = c := hc; omega
   | succ i => left; exact ⟨i, by simp at hi; omega, e⟩
 · exact hf.elim
 · exact Or.inr (Or.inr ha)
theorem SpI.mark {first n : Nat} {M0 M zs : List Int} {D : Nat → Prop} (h : SpI N s adj first M0 M zs D) (hn : n < N) (hc : Conn N s adj first n) (hm : M.getD n 0 < 0) : SpI N s adj first M0 (M.set n first) (zs ++ [(n : Int)]) D := by
 have hl := h.len
 have hg : ∀ k, (M.set n (first : Int)).getD k 0 = if k = n then (first : Int) else M.getD k 0 := fun k => by
  rw [getD_set1]; by_cases e : k = n
  · rw [if_pos ⟨e, by omega⟩, if_pos e]
  · rw [if_neg (fun q => e q.1), if_neg e]
 refine ⟨by simp [hl], fun k hk => ?_, ?_, fun i hi => ?_, fun j hj hmj => ?_⟩
 · rw [hg]
   by_cases e : k = n
   · rw [if_pos e]; right; exact ⟨rfl, by rw [e]; exact hc⟩
   · rw [if_neg e]; exact h.old k hk
 · rw [hg]; split
   · rfl
   · exact h.fst
 · by_cases e : i < zs.length
   · obtain ⟨z, h1, h2, h3⟩ := h.que i e
     exact ⟨z, by rw [← h1]; simp [List.getD, List.getElem?_append_left e], h2, h3⟩
   · have : i = zs.length := by simp at hi; omega
     subst this
     exact ⟨n, by simp [List.getD], hn, hc⟩
 · rw [hg] at hmj
   by_cases e : j = n
   · left; exact ⟨zs.length, by simp, by rw [e]; simp [List.getD]⟩
   · rw [if_neg e] at hmj
     rcases h.clo j hj hmj with ⟨i, hi, e'⟩ | hd | ha
     · left; exact ⟨i, by simp; omega, by rw [← e']; simp [List.getD, List.getElem?_append_left hi]⟩
     · exact Or.inr (Or.inl hd)
     · refine Or.inr (Or.inr fun k h1 h2 h3 => ?_)
       rw [hg]; split
       · omega
       · exact ha k h1 h2 h3
theorem SpI.closed {first c : Nat} {M0 M zs : List Int} (h : SpI N s adj first M0 M zs (fun j => j = c)) (ha : AllM N s adj M c) : SpI N s adj first M0 M zs (fun _ => False) := by
 refine ⟨h.len, h.old, h.fst, h.que, fun j hj hm => ?_⟩
 rcases h.clo j hj hm with h1 | h2 | h3
 · exact Or.inl h1
 · subst h2; exact Or.inr (Or.inr ha)
 · exact Or.inr (Or.inr h3)
def Spread (N : Nat) (s : Nat → Bool) (adj : Nat → Nat → Bool) (first : Nat) (M0 M : List Int) : Prop :=
 M.length = N ∧ ∀ k, k < N → (Conn N s adj first k → M.getD k 0 = first) ∧ (¬ Conn N s adj first k → M.getD k 0 = M0.getD k 0)
theorem SpI.done {first : Nat} {M0 M : List Int} (h : SpI N s adj first M0 M [] (fun _ => False)) (hneg : ∀ j, Conn N s adj first j → M0.getD j 0 < 0) : Spread N s adj first M0 M := by
 have key : ∀ k, Conn N s adj first k → M.getD k 0 = first := by
  intro k hc
  induction hc with
  | refl _ _ => exact h.fst
  | step hij a b c ih =>
    rename_i j k
    have hj := ih
    rcases h.clo j hij hj with ⟨i, hi, _⟩ | hf | ha
    · simp at hi
    · exact hf.elim
    · have h0 := ha k a b c
      rcases h.old k b with e | e
      · have := hneg k (.step hij a b c); omega
      · exact e.1
 refine ⟨h.len, fun k hk => ⟨key k, fun hn => ?_⟩⟩
 rcases h.old k hk with e | e
 · exact e
 · exact absurd e.2 hn
def unM (N : Nat) (M : List Int) : Nat := (List.range N).countP fun k => decide (M.getD k 0 < 0)
theorem unM_le (N : Nat) (M : List Int) : unM N M ≤ N := by
 have := List.countP_le_length (p := fun k => decide (M.getD k 0 < 0)) (l := List.range N)
 rwa [List.length_range] at this
theorem unM_set {n first : Nat} {M : List Int} (hn : n < N) (hl : M.length = N) (hm : M.getD n 0 < 0) : unM N (M.set n first) + 1 ≤ unM N M := by
 refine countP_lt _ _ _ (fun x _ hx => ?_) n (List.mem_range.2 hn) ?_ (by simpa using hm)
 · rw [decide_eq_true_eq] at hx ⊢
   rw [getD_set1] at hx
   split at hx
   · omega
   · exact hx
 · rw [decide_eq_false_iff_not, getD_set1, if_pos ⟨rfl, by omega⟩]; omega

structure MkI (N : Nat) (s : Nat → Bool) (adj : Nat → Nat → Bool) (k : Nat) (M : List Int) : Prop where
 len : M.length = N
 off : ∀ j, j < N → s j = false → M.getD j 0 = -1
 on : ∀ j, j < N → s j = true → (∃ i : Nat, i < k ∧ M.getD j 0 = i ∧ Conn N s adj i j ∧ ∀ i', Conn N s adj i' j → i ≤ i') ∨ (M.getD j 0 = -1 ∧ ∀ i, Conn N s adj i j → k ≤ i)
theorem MkI.start : MkI N s adj 0 (List.replicate N (-1)) :=
 ⟨by simp, fun j hj _ => by simp [List.getD, hj], fun j hj _ => Or.inr ⟨by simp [List.getD, hj], fun i _ => Nat.zero_le i⟩⟩
theorem MkI.skip {k : Nat} {M : List Int} (ha : ∀ j k, adj j k = adj k j) (h : MkI N s adj k M) (hk : s k = false ∨ (k < N ∧ 0 ≤ M.getD k 0)) : MkI N s adj (k + 1) M := by
 refine ⟨h.len, h.off, fun j hj hs => ?_⟩
 rcases h.on j hj hs with ⟨i, h1, h2, h3, h4⟩ | ⟨h1, h2⟩
 · exact Or.inl ⟨i, by omega, h2, h3, h4⟩
 · refine Or.inr ⟨h1, fun i hi => ?_⟩
   have := h2 i hi
   by_cases e : i = k
   · subst e
     exfalso
     rcases hk with hk | ⟨hkN, hk⟩
     · have := hi.left.2; rw [hk] at this; cases this
     · rcases h.on i hkN hi.left.2 with ⟨i', p1, p2, p3, p4⟩ | ⟨p1, _⟩
       · have := h2 i' (p3.trans hi); omega
       · omega
   · omega
theorem MkI.neg {k : Nat} {M : List Int} (ha : ∀ j k, adj j k = adj k j) (h : MkI N s adj k M) (hk : k < N) (hs : s k = true) (hm : M.getD k 0 < 0) : ∀ j, Conn N s adj k j → M.getD j 0 < 0 := by
 intro j hc
 rcases h.on j hc.right.1 hc.right.2 with ⟨i, h1, h2, h3, h4⟩ | ⟨h1, _⟩
 · exfalso
   rcases h.on k hk hs with ⟨i', p1, p2, _⟩ | ⟨_, p2⟩
   · omega
   · have := p2 i (h3.trans (hc.symm ha)); omega
 · omega
theorem MkI.spread {k : Nat} {M M' : List Int} (ha : ∀ j k, adj j k = adj k j) (h : MkI N s adj k M) (hk : k < N) (hs : s k = true) (hm : M.getD k 0 < 0) (hsp : Spread N s adj k M M') : MkI N s adj (k + 1) M' := by
 have hkk : ∀ i, Conn N s adj i k → k ≤ i := by
  rcases h.on k hk hs with ⟨i', p1, p2, _⟩ | ⟨_, p2⟩
  · omega
  · exact p2
 refine ⟨hsp.1, fun j hj hj0 => ?_, fun j hj hj1 => ?_⟩
 · rw [(hsp.2 j hj).2 (fun hc => by have := hc.right.2; rw [hj0] at this; cases this)]; exact h.off j hj hj0
 · by_cases hc : Conn N s adj k j
   · exact Or.inl ⟨k, by omega, (hsp.2 j hj).1 hc, hc, fun i' hi' => hkk i' (hi'.trans (hc.symm ha))⟩
   · rw [(hsp.2 j hj).2 hc]
     rcases h.on j hj hj1 with ⟨i, h1, h2, h3, h4⟩ | ⟨h1, h2⟩
     · exact Or.inl ⟨i, by omega, h2, h3, h4⟩
     · refine Or.inr ⟨h1, fun i hi => ?_⟩
       have := h2 i hi
       by_cases e : i = k
       · subst e; exact absurd hi hc
       · omega
theorem MkI.marks {M : List Int} (h : MkI N s adj N M) : Marks N s adj M := by
 refine ⟨h.len, fun k hk => ⟨h.off k hk, fun hs => ?_⟩⟩
 rcases h.on k hk hs with ⟨i, h1, h2, h3, h4⟩ | ⟨h1, h2⟩
 · exact ⟨i, h2, h3, h4⟩
 · have := h2 k (.refl hk hs); omega

structure EvI (N : Nat) (s : Nat → Bool) (adj : Nat → Nat → Bool) (P Q : List Int) : Prop where
 len : Q.length = N
 off : ∀ j, j < N → s j = false → Q.getD j 0 = -1
 on : ∀ j, j < N → s j = true → ∃ i : Nat, Q.getD j 0 = i ∧ Conn N s adj i j
 dec : ∀ j, j < N → s j = true → Q.getD j 0 ≤ P.getD j 0
def evenL (Q : List Int) (a b : Nat) : List Int := (Q.set a (min (Q.getD a 0) (Q.getD b 0))).set b (min (Q.getD a 0) (Q.getD b 0))
theorem evenL_get {Q : List Int} {a b : Nat} (ha : a < Q.length) (hb : b < Q.length) (j : Nat) : (evenL Q a b).getD j 0 = if j = a ∨ j = b then min (Q.getD a 0) (Q.getD b 0) else Q.getD j 0 := by
 unfold evenL
 rw [getD_set2 ha hb]
 by_cases e1 : j = b
 · rw [if_pos e1, if_pos (Or.inr e1)]
 · rw [if_neg e1]
   by_cases e2 : j = a
   · rw [if_pos e2, if_pos (Or.inl e2)]
   · rw [if_neg e2, if_neg (fun q => q.elim e2 e1)]
theorem EvI.even {P Q : List Int} {a b : Nat} (hsym : ∀ j k, adj j k = adj k j) (h : EvI N s adj P Q) (ha : a < N) (hb : b < N) (sa : s a = true) (sb : s b = true) (hab : adj a b = true) :
 EvI N s adj P (evenL Q a b) ∧ (∀ j, (evenL Q a b).getD j 0 ≤ Q.getD j 0) ∧ (evenL Q a b).getD a 0 ≤ P.getD b 0 ∧ (evenL Q a b).getD b 0 ≤ P.getD a 0 := by
 have hl := h.len
 have hg := evenL_get (Q := Q) (a := a) (b := b) (by omega) (by omega)
 have hle : ∀ j, (evenL Q a b).getD j 0 ≤ Q.getD j 0 := by
  intro j
  rw [hg]
  by_cases e : j = a ∨ j = b
  · rw [if_pos e]; rcases e with rfl | rfl <;> omega
  · rw [if_neg e]; exact Int.le_refl _
 have da := h.dec a ha sa
 have db := h.dec b hb sb
 refine ⟨⟨by unfold evenL; simp [hl], fun j hj hs => ?_, fun j hj hs => ?_, fun j hj hs => Int.le_trans (hle j) (h.dec j hj hs)⟩, hle, ?_, ?_⟩
 · rw [hg, if_neg (fun e => by rcases e with rfl | rfl <;> simp_all)]; exact h.off j hj hs
 · rw [hg]
   by_cases e : j = a ∨ j = b
   · rw [if_pos e]
     obtain ⟨i, hi, ci⟩ := h.on a ha sa
     obtain ⟨i2, hi2, ci2⟩ := h.on b hb sb
     by_cases hm : i ≤ i2
     · refine ⟨i, by rw [hi, hi2]; omega, ?_⟩
       rcases e with rfl | rfl
       · exact ci
       · exact .step ci hab hb sb
     · refine ⟨i2, by rw [hi, hi2]; omega, ?_⟩
       rcases e with rfl | rfl
       · exact .step ci2 (by rw [hsym]; exact hab) ha sa
       · exact ci2
   · rw [if_neg e]; exact h.on j hj hs
 · rw [hg, if_pos (Or.inl rfl)]; omega
 · rw [hg, if_pos (Or.inr rfl)]; omega
def Paired (N : Nat) (s : Nat → Bool) (adj : Nat → Nat → Bool) (P : List Int) (k : Nat) (Q : List Int) : Prop := ∀ a b, a < N → b < N → s a = true → s b = true → adj a b = true → a < k → b < k → Q.getD a 0 ≤ P.getD b 0
theorem Paired.le {P Q Q' : List Int} {k : Nat} (h : Paired N s adj P k Q) (hle : ∀ j, Q'.getD j 0 ≤ Q.getD j 0) : Paired N s adj P k Q' :=
 fun a b h1 h2 h3 h4 h5 h6 h7 => Int.le_trans (hle a) (h a b h1 h2 h3 h4 h5 h6 h7)
structure SwI (N : Nat) (s : Nat → Bool) (adj : Nat → Nat → Bool) (t : Nat) (P : List Int) : Prop where
 len : P.length = N
 off : ∀ j, j < N → s j = false → P.getD j 0 = -1
 on : ∀ j, j < N → s j = true → ∃ i : Nat, P.getD j 0 = i ∧ Conn N s adj i j
 bd : ∀ i j, i < N → j < N → reachT N s adj i t j = true → P.getD j 0 ≤ i
theorem SwI.ev {t : Nat} {P : List Int} (h : SwI N s adj t P) : EvI N s adj P P := ⟨h.len, h.off, h.on, fun _ _ _ => Int.le_refl _⟩
theorem SwI.sweep {t : Nat} {P Q : List Int} (hsym : ∀ j k, adj j k = adj k j) (h : SwI N s adj t P) (he : EvI N s adj P Q) (hp : Paired N s adj P N Q) : SwI N s adj (t + 1) Q := by
 refine ⟨he.len, he.off, he.on, fun i j hi hj hr => ?_⟩
 have hsj : s j = true := by
  have hc := reachT_conn hi hj hr
  exact hc.right.2
 simp only [reachT, Bool.or_eq_true, Bool.and_eq_true, List.any_eq_true, List.mem_range] at hr
 rcases hr with hr | ⟨hs, k, hk, hr, hak⟩
 · exact Int.le_trans (he.dec j hj hsj) (h.bd i j hi hj hr)
 · have hsk : s k = true := (reachT_conn hi hk hr).right.2
   exact Int.le_trans (hp j k hj hk hs hsk (by rw [hsym]; exact hak) hj hk) (h.bd i k hi hk hr)
theorem SwI.marks {P : List Int} (h : SwI N s adj N P) : Marks N s adj P := by
 refine ⟨h.len, fun k hk => ⟨h.off k hk, fun hs => ?_⟩⟩
 obtain ⟨j, hj, hc⟩ := h.on k hk hs
 refine ⟨j, hj, hc, fun i hi => ?_⟩
 have := h.bd i k hi.left.1 hk (conn_reach hi)
 omega
end
end Go.Proofs.YtpcajacekmidbaaGreat

namespace Go.Proofs.YtpcajacekmidbaaGreat
open Go.RowKit
set_option linter.unusedVariables false
set_option maxRecDepth 100000
set_option linter.unusedSimpArgs false

def adjW (W : Int) (corners : Bool) (j k : Nat) : Bool :=
 decide (-1 ≤ (k : Int) % W - (j : Int) % W ∧ (k : Int) % W - (j : Int) % W ≤ 1 ∧ -1 ≤ (k : Int) / W - (j : Int) / W ∧ (k : Int) / W - (j : Int) / W ≤ 1) &&
  !decide ((k : Int) % W = (j : Int) % W ∧ (k : Int) / W = (j : Int) / W) && (corners || decide ((k : Int) % W = (j : Int) % W ∨ (k : Int) / W = (j : Int) / W))
theorem adjW_symm (W : Int) (corners : Bool) (j k : Nat) : adjW W corners j k = adjW W corners k j := by
 apply Bool.eq_iff_iff.2
 unfold adjW
 simp only [Bool.and_eq_true, Bool.or_eq_true, Bool.not_eq_true', decide_eq_true_eq, decide_eq_false_iff_not]
 constructor
 · rintro ⟨⟨h1, h2⟩, h3⟩
   exact ⟨⟨by omega, fun q => h2 ⟨q.1.symm, q.2.symm⟩⟩, h3.imp id fun q => q.imp Eq.symm Eq.symm⟩
 · rintro ⟨⟨h1, h2⟩, h3⟩
   exact ⟨⟨by omega, fun q => h2 ⟨q.1.symm, q.2.symm⟩⟩, h3.imp id fun q => q.imp Eq.symm Eq.symm⟩
theorem dXY_at {dx dy : Int} (h1 : -1 ≤ dx) (h2 : dx ≤ 1) (h3 : -1 ≤ dy) (h4 : dy ≤ 1) : ∃ d, d < 9 ∧ dX d = dx ∧ dY d = dy := by
 have c1 : dx = -1 ∨ dx = 0 ∨ dx = 1 := by omega
 have c2 : dy = -1 ∨ dy = 0 ∨ dy = 1 := by omega
 rcases c1 with rfl | rfl | rfl <;> rcases c2 with rfl | rfl | rfl
 · exact ⟨0, by decide, rfl, rfl⟩
 · exact ⟨3, by decide, rfl, rfl⟩
 · exact ⟨6, by decide, rfl, rfl⟩
 · exact ⟨1, by decide, rfl, rfl⟩
 · exact ⟨4, by decide, rfl, rfl⟩
 · exact ⟨7, by decide, rfl, rfl⟩
 · exact ⟨2, by decide, rfl, rfl⟩
 · exact ⟨5, by decide, rfl, rfl⟩
 · exact ⟨8, by decide, rfl, rfl⟩
theorem dXY_bd {d : Nat} (h : d < 9) : -1 ≤ dX d ∧ dX d ≤ 1 ∧ -1 ≤ dY d ∧ dY d ≤ 1 := by unfold dX dY; omega
theorem ar_mem {W T : Int} {xs : List Bool} {c : Nat} {corners : Bool} (hW : 1 ≤ W) (hWT : (xs.length : Int) = W * T) {v : Int} (h : v ∈ arList W T xs ((c : Int) % W) ((c : Int) / W) corners 9) :
 ∃ k : Nat, v = k ∧ k < xs.length ∧ xs.getD k false = true ∧ adjW W corners c k = true := by
 unfold arList at h
 rw [List.mem_map] at h
 obtain ⟨d, hd, rfl⟩ := h
 rw [List.mem_filter, List.mem_range] at hd
 obtain ⟨hd9, hok⟩ := hd
 unfold arOk atB inF at hok
 simp only [Bool.and_eq_true, Bool.not_eq_true', decide_eq_true_eq, Bool.and_eq_false_iff, bne_eq_false_iff_eq, beq_eq_false_iff_ne, ne_eq] at hok
 obtain ⟨⟨hz, hcn⟩, hin, hx⟩ := hok
 have hb := dXY_bd hd9
 generalize dX d = p at *
 generalize dY d = q at *
 generalize hxx : (c : Int) % W = x at *
 generalize hyy : (c : Int) / W = y at *
 have hi : 0 ≤ x + p ∧ x + p < W ∧ 0 ≤ y + q ∧ y + q < T := by simpa [and_assoc] using hin
 obtain ⟨i1, i2, i3, i4⟩ := hi
 have ib := idx_bd i1 i2 i3 i4
 obtain ⟨k, hk⟩ := Int.eq_ofNat_of_zero_le ib.2.1
 have hdiv : (k : Int) / W = y + q := by
  rw [← hk, Int.add_comm, Int.add_mul_ediv_right _ _ (by omega), Int.ediv_eq_zero_of_lt i1 i2]; omega
 have hmod : (k : Int) % W = x + p := by
  rw [← hk, Int.add_comm, Int.add_mul_emod_self_right, Int.emod_eq_of_lt i1 i2]
 rw [hk] at hx
 simp only [Int.toNat_natCast] at hx
 refine ⟨k, hk, by rw [hk] at ib; omega, hx, ?_⟩
 unfold adjW
 rw [hmod, hdiv, hxx, hyy]
 simp only [Bool.and_eq_true, Bool.or_eq_true, Bool.not_eq_true', decide_eq_true_eq, decide_eq_false_iff_not]
 refine ⟨⟨by omega, fun e => ?_⟩, ?_⟩
 · have : p = 0 ∧ q = 0 := by omega
   rcases hz with h | h
   · exact h this.1
   · exact h this.2
 · rcases hcn with (h | h) | h
   · right; left; omega
   · right; right; omega
   · left; simpa using h
theorem ar_all {W T : Int} {xs : List Bool} {c k : Nat} {corners : Bool} (hW : 1 ≤ W) (hT : 0 ≤ T) (hWT : (xs.length : Int) = W * T) (hk : k < xs.length) (hx : xs.getD k false = true) (ha : adjW W corners c k = true) :
 (k : Int) ∈ arList W T xs ((c : Int) % W) ((c : Int) / W) corners 9 := by
 unfold adjW at ha
 simp only [Bool.and_eq_true, Bool.or_eq_true, Bool.not_eq_true', decide_eq_true_eq, decide_eq_false_iff_not] at ha
 obtain ⟨⟨⟨h1, h2, h3, h4⟩, hne⟩, hcn⟩ := ha
 obtain ⟨d, hd, ex, ey⟩ := dXY_at h1 h2 h3 h4
 have m0 := Int.emod_nonneg (k : Int) (show W ≠ 0 by omega)
 have m1 := Int.emod_lt_of_pos (k : Int) (show 0 < W by omega)
 have hdm := Int.emod_add_mul_ediv (k : Int) W
 have d0 : 0 ≤ (k : Int) / W := Int.ediv_nonneg (by omega) (by omega)
 have d1 : (k : Int) / W < T := Int.ediv_lt_of_lt_mul (by omega) (by rw [Int.mul_comm]; omega)
 have e1 : (c : Int) % W + dX d = (k : Int) % W := by omega
 have e2 : (c : Int) / W + dY d = (k : Int) / W := by omega
 have e3 : (k : Int) / W * W + (k : Int) % W = k := by rw [Int.mul_comm]; omega
 unfold arList
 rw [List.mem_map]
 refine ⟨d, List.mem_filter.2 ⟨List.mem_range.2 hd, ?_⟩, by rw [e1, e2, e3]⟩
 unfold arOk atB inF
 rw [e1, e2, e3]
 simp only [Bool.and_eq_true, Bool.not_eq_true', decide_eq_true_eq, Bool.and_eq_false_iff, bne_eq_false_iff_eq, beq_eq_false_iff_ne, ne_eq, Int.toNat_natCast]
 refine ⟨⟨?_, ?_⟩, ?_, hx⟩
 · by_cases e : dX d = 0
   · right; intro e'; exact hne ⟨by omega, by omega⟩
   · left; exact e
 · rcases hcn with h | h | h
   · right; simpa using h
   · left; left; omega
   · left; right; omega
 · simp [m0, m1, d0, d1]
theorem mem_getD {L : List Int} {i : Nat} (h : i < L.length) : L.getD i 0 ∈ L := by
 have e : L.getD i 0 = L[i] := by simp [h]
 rw [e]; exact List.getElem_mem h
theorem getD_of_mem {L : List Int} {v : Int} (h : v ∈ L) : ∃ i, i < L.length ∧ L.getD i 0 = v := by
 obtain ⟨i, hi, e⟩ := List.mem_iff_getElem.1 h
 exact ⟨i, hi, by rw [← e]; simp [hi]⟩
end Go.Proofs.YtpcajacekmidbaaGreat

namespace Go.Proofs.YtpcajacekmidbaaGreat
open Go.RowKit
set_option linter.unusedVariables false
set_option maxRecDepth 100000
set_option linter.unusedSimpArgs false

theorem grown_setQ (w : World) (g i : Nat) (v : Value) : w.grownBy (w.setCell ⟨g, i, none⟩ v) (some g) := by
 refine ⟨rfl, rfl, rfl, by simp, fun k _ hk => ?_⟩
 exact Below.heap_setCell w ⟨g, i, none⟩ v k (fun e => hk (by simp at e; rw [e]))
def QAt (w : World) (g : Nat) (v : Value) (zs : List Int) : Prop :=
 ∃ (off cap : Nat) (cs : Array Value), v = .slice (some ⟨g, off, none⟩) zs.length cap ∧ w.heap[g]? = some (.cells cs 3 (0, 0)) ∧ zs.length ≤ cap ∧ off + cap ≤ cs.size ∧ cap ≤ maxLen ∧ ∀ j, j < zs.length → cs[off + j]? = some (.int .i64 (zs.getD j 0))
theorem QAt.lt {w : World} {g : Nat} {v : Value} {zs : List Int} (h : QAt w g v zs) : g < w.heap.size := by
 obtain ⟨_, _, _, _, h2, _⟩ := h; exact heap_lt h2
theorem QAt.kept {w w' : World} {g : Nat} {v : Value} {zs : List Int} (h : QAt w g v zs) (hk : ∀ o, w.heap[g]? = some o → w'.heap[g]? = some o) : QAt w' g v zs := by
 obtain ⟨off, cap, cs, h1, h2, h3⟩ := h; exact ⟨off, cap, cs, h1, hk _ h2, h3⟩
theorem QAt.below {w w' : World} {g : Nat} {v : Value} {zs : List Int} (h : QAt w g v zs) (hb : Below w.heap.size w w') : QAt w' g v zs := h.kept fun _ ho => heap_later ho hb
theorem QAt.grown {w w' : World} {g : Nat} {v : Value} {zs : List Int} {row : Option Nat} (h : QAt w g v zs) (hg : w.grownBy w' row) (hr : row ≠ some g) : QAt w' g v zs := h.kept fun _ ho => heap_grown ho hg hr
theorem QAt.one (w : World) (x : Int) : QAt (w.alloc (.cells #[.int .i64 x] 3 (0, 0))) w.heap.size (.slice (some ⟨w.heap.size, 0, none⟩) 1 1) [x] :=
 ⟨0, 1, #[.int .i64 x], rfl, heap_new _ _, Nat.le_refl _, by simp, by decide, fun j hj => by simp at hj; subst hj; rfl⟩
theorem QAt.head {w : World} {g : Nat} {v : Value} {z : Int} {zs : List Int} (h : QAt w g v (z :: zs)) : ∃ off cap, v = .slice (some ⟨g, off, none⟩) (zs.length + 1) (cap + 1) ∧ w.cell? ⟨g, off, none⟩ = some (.int .i64 z) ∧ cap ≤ maxLen ∧ zs.length ≤ cap ∧
 QAt w g (.slice (some ⟨g, off + 1, none⟩) zs.length cap) zs ∧ (zs = [] → QAt w g (.slice (some ⟨g, off, none⟩) 0 0) []) := by
 obtain ⟨off, cap, cs, h1, h2, h3, h4, h5, h6⟩ := h
 simp only [List.length_cons] at h1 h3
 obtain ⟨cap, rfl⟩ : ∃ c, cap = c + 1 := ⟨cap - 1, by omega⟩
 refine ⟨off, cap, h1, ?_, by omega, by omega, ⟨off + 1, cap, cs, rfl, h2, by omega, by omega, by omega, fun j hj => ?_⟩, fun _ => ⟨off, 0, cs, rfl, h2, Nat.le_refl _, by omega, by decide, fun j hj => by simp at hj⟩⟩
 · have := h6 0 (by simp)
   simp only [Nat.add_zero] at this
   simp [World.cell?, h2, this]
 · have := h6 (j + 1) (by simp; omega)
   rw [show off + 1 + j = off + (j + 1) by omega, this]
   rfl
theorem QAt.ofOwn {w : World} {B g cap : Nat} {L : List Int} (h : w.ownsRow B 3 1 (.slice (some ⟨g, 0, none⟩) L.length cap) L.length (L.map (Value.int .i64))) : QAt w g (.slice (some ⟨g, 0, none⟩) L.length cap) L := by
 rcases h.2 with ⟨h1, _⟩ | ⟨g', cap', cs, hv, hg, hh, hn, hm, hs, ht⟩
 · simp at h1
 · simp only [Value.slice.injEq, Option.some.injEq, Addr.mk.injEq] at hv
   obtain ⟨⟨rfl, _⟩, _, rfl⟩ := hv
   refine ⟨0, cap, cs, rfl, hh, hn, by omega, hm, fun j hj => ?_⟩
   have hj' : j < cs.size := by omega
   have e : cs.toList[j]? = (L.map (Value.int .i64))[j]? := by
    rw [← ht, List.getElem?_take_of_lt (by simpa using hj)]
   rw [Nat.zero_add, ← Array.getElem?_toList, e]
   simp [hj]

set_option maxHeartbeats 1000000 in
theorem wpList_push (w : World) {ops : Array Oper} {rest : List Oper} {o : Oper} {a : Act} {Q : Exit → Act → World → Prop} (hgd : o.guard = none) (s x : Operand)
 (ho : o.op = .call { callee := .builtin .append, args := #[s, x], argTypes := #[26, 26] })
 {g : Nat} {v : Value} {zs : List Int} (hs : a.eval s = v) (hq : QAt w g v zs) (ad : Addr) (c : Nat) (z : Int) (hx : a.eval x = .slice (some ad) 1 c) (hc : ∀ j u, [Value.int .i64 z][j]? = some u → w.cell? (ad.add j) = some u) (hlen : zs.length ≤ 1000000)
 (hK : ∀ g' v' w', QAt w' g' v' (zs ++ [z]) → w.grownBy w' (some g) → (g' = g ∨ w.heap.size ≤ g') → wpList Tryz.prog ops Q rest (a.put o.dst v') w') : wpList Tryz.prog ops Q (o :: rest) a w := by
 obtain ⟨i0, hi, hz0, hz1, hz2⟩ := info_parts infoInt
 obtain ⟨off, cap, cs, rfl, h2, h3, h4, h5, h6⟩ := hq
 refine wpList_append_arg w hgd s x 26 ho 3 i0 (.int .i64 0) 1 8 Tryz.underlying26 hi hz0 hz1 hz2 rfl (by decide) g off zs.length cap (zs.map (Value.int .i64)) hs (by simp) (fun j u hj => ?_) ad 1 c [.int .i64 z] hx rfl hc (one_int z) (fun hr j hj => ?_) (by unfold maxLen; omega) (by omega) (fun hr => ?_) (fun hr v' w' hown hgrow => ?_)
 · have hjl : j < zs.length := by
    have := (List.getElem?_eq_some_iff.1 hj).1; simpa using this
   have := h6 j hjl
   have e : u = .int .i64 (zs.getD j 0) := by
    have e2 : (zs.map (Value.int .i64))[j]? = some (.int .i64 (zs.getD j 0)) := by simp [hjl]
    rw [e2] at hj; exact (Option.some.inj hj).symm
   rw [e]
   simp [World.cell?, h2, this]
 · simp at hj
   subst hj
   have hsz : off + zs.length < cs.size := by omega
   constructor
   · simp [World.cell?, h2, hsz]
   · simp [World.frozen?, h2]
 · have e : w.setCells g (off + zs.length * 1) [.int .i64 z] = w.setCell ⟨g, off + zs.length, none⟩ (.int .i64 z) := by simp [World.setCells]
   rw [e]
   refine hK g _ _ ⟨off, cap, cs.setIfInBounds (off + zs.length) (.int .i64 z), by simp, block_setCell h2 _, by simp; omega, by simpa using h4, h5, fun j hj => ?_⟩ (grown_setQ _ _ _ _) (Or.inl rfl)
   by_cases ej : j < zs.length
   · rw [Array.getElem?_setIfInBounds_ne (by omega), h6 j ej]
     simp [List.getD, List.getElem?_append_left ej]
   · have : j = zs.length := by simp at hj; omega
     subst this
     rw [Array.getElem?_setIfInBounds_self_of_lt (by omega)]
     simp [List.getD]
 · have hl : (zs ++ [z]).length = zs.length + 1 := by simp
   have hm : (zs ++ [z]).map (Value.int .i64) = zs.map (Value.int .i64) ++ [.int .i64 z] := by simp
   rw [← hl, ← hm] at hown
   have hown0 := hown
   rcases hown.2 with ⟨_, h0⟩ | ⟨g', cap', cur, hv, hg, _⟩
   · simp at h0
   · subst hv
     exact hK g' _ _ (QAt.ofOwn hown0) ⟨hgrow.os, hgrow.tape, hgrow.output, hgrow.size, fun k hk _ => hgrow.block k hk (by simp)⟩ (Or.inr hg)
end Go.Proofs.YtpcajacekmidbaaGreat
