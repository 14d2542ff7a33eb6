/- Contract of impl.cellsAround. -/
import Derived.Test.YtpcajacekmidbaaDark
import Derived.Test.YtpcajacekmidbaaBox
import Derived.Test.YtpcajacekmidbaaInts
namespace Go.Proofs.Ytpcajacekmidbaa
open Go.RowKit
set_option linter.unusedVariables false
set_option maxRecDepth 100000
set_option linter.unusedSimpArgs false



/-- The d-th of the nine places around a cell: column and row from -1 to 1. -/
def dX (d : Nat) : Int := (d % 3 : Nat) - 1
def dY (d : Nat) : Int := (d / 3 : Nat) - 1
def arOk (W T : Int) (xs : List Bool) (x y : Int) (corners : Bool) (d : Nat) : Bool :=
  !(dX d == 0 && dY d == 0) && !(dX d != 0 && dY d != 0 && !corners) && atB W T xs (x + dX d) (y + dY d)
def arList (W T : Int) (xs : List Bool) (x y : Int) (corners : Bool) (D : Nat) : List Int :=
  ((List.range D).filter (arOk W T xs x y corners)).map fun d => (y + dY d) * W + (x + dX d)
theorem arList_succ (W T : Int) (xs : List Bool) (x y : Int) (corners : Bool) (D : Nat) :
    arList W T xs x y corners (D + 1) = arList W T xs x y corners D ++ if arOk W T xs x y corners D then [(y + dY D) * W + (x + dX D)] else [] := by
  unfold arList
  rw [List.range_succ, List.filter_append, List.map_append]
  congr 1
  by_cases h : arOk W T xs x y corners D = true
  · simp [h]
  · rw [Bool.not_eq_true] at h; simp [h]
theorem arList_len (W T : Int) (xs : List Bool) (x y : Int) (corners : Bool) (D : Nat) : (arList W T xs x y corners D).length ≤ D := by
  unfold arList
  rw [List.length_map]
  have := List.length_filter_le (arOk W T xs x y corners) (List.range D)
  rw [List.length_range] at this; exact this

theorem dX_at {j i : Nat} (h : i < 3) : dX (3 * j + i) = (i : Int) - 1 := by
  unfold dX; rw [Nat.mul_add_mod, Nat.mod_eq_of_lt h]
theorem dY_at {j i : Nat} (h : i < 3) : dY (3 * j + i) = (j : Int) - 1 := by
  unfold dY; rw [Nat.mul_add_div (by omega), Nat.div_eq_of_lt h]; simp
theorem arList_skip {W T : Int} {xs : List Bool} {x y : Int} {corners : Bool} {D : Nat} (h : arOk W T xs x y corners D = false) : arList W T xs x y corners (D + 1) = arList W T xs x y corners D := by
  rw [arList_succ, h]; simp
theorem arList_take {W T : Int} {xs : List Bool} {x y : Int} {corners : Bool} {D : Nat} (h : arOk W T xs x y corners D = true) : arList W T xs x y corners (D + 1) = arList W T xs x y corners D ++ [(y + dY D) * W + (x + dX D)] := by
  rw [arList_succ, h]; simp

set_option maxHeartbeats 8000000 in
theorem cellsAround_any (W T : Int) (a : Option Addr) (n cap : Nat) (xs : List Bool) (cell : Nat) (corners : Bool) (w : World) (hn : n = xs.length) (hW0 : 1 ≤ W) (hW1 : W ≤ 100) (hT0 : 0 ≤ T) (hT1 : T ≤ 100) (hWT : (n : Int) = W * T) (hc : cell < n) (ha : BoolsAt w a xs) :
    Calls Try.prog 170 #[.agg #[.int .i64 W, .int .i64 T, .slice a n cap], .int .i64 cell, .bool corners] w fun e w' => ∃ v, e = .returned v ∧ OwnsI w' w.heap.size v (arList W T xs ((cell : Int) % W) ((cell : Int) / W) corners 9) ∧ Below w.heap.size w w' := by
  have pb := (prod_bd (by omega) hW1 hT0 hT1).2
  have n4 : n ≤ 10000 := by omega
  obtain ⟨i0, hi, hz0, hz1, hz2⟩ := info_parts infoInt
  have HN := Lib.hid hn; clear hn
  have HWT := Lib.hid hWT; clear hWT
  have HA := Lib.hid ha; clear ha
  obtain ⟨m1, m2, m3, m4⟩ := divmod_bd (W := W) (k := cell) hW0
  have e0 : (0 : Int) ≤ cell := by omega
  have hWn : W ≠ 0 := by omega
  go_enter Try.func170, Try.ntmps170
  go_wp2
  go_quiet (fail)
  go_wp2
  generalize hx : (cell : Int) % W = x at *
  generalize hy : (cell : Int) / W = y at *
  obtain ⟨wA, hwA⟩ : ∃ wA, wA = (w.alloc (.cells #[.int .i64 W, .int .i64 T, .slice a n cap] 25)).drewN nq := ⟨_, rfl⟩
  have pA : wA.heap[w.heap.size]? = some (.cells #[.int .i64 W, .int .i64 T, .slice a n cap] 25 (0, 0)) := by rw [hwA]; exact heap_new w _
  have bA : Below w.heap.size w wA := by rw [hwA]; exact below_seq (below1 _ _) (drewN_below _ _)
  rw [← hwA]
  clear hwA
  go_loopw [7, 10, 11, 12, 13] (fun v dy _ _ _ wr => ∃ (j : Nat) (q : Int), j ≤ 3 ∧ Hid (q = (j : Int) - 1) ∧ -1 ≤ q ∧ q ≤ 2 ∧ dy = .int .i64 q ∧ OwnsI wr (w.heap.size + 1) v (arList W T xs x y corners (3 * j)) ∧ wr.heap[w.heap.size]? = some (.cells #[.int .i64 W, .int .i64 T, .slice a n cap] 25 (0, 0)) ∧ Below w.heap.size w wr) (fun _ dy _ _ _ _ => (2 - intOf dy).toNat)
  case atStart => exact ⟨0, -1, by omega, by show _ = _; omega, by omega, by omega, rfl, OwnsI.nil _ _, pA, bA⟩
  case round =>
    obtain ⟨j, q, hj, HQ, hq0, hq1, rfl, hown, hp, hbel⟩ := hrel
    have HO := Lib.hid hown; clear hown
    by_cases hlt : j < 3
    · have hj2 : q ≤ 1 := by have := HQ.out; omega
      go_wp2
      go_loopw [7, 11, 12, 13] (fun v dx _ _ wr => ∃ (i : Nat) (p : Int), i ≤ 3 ∧ Hid (p = (i : Int) - 1) ∧ -1 ≤ p ∧ p ≤ 2 ∧ dx = .int .i64 p ∧ OwnsI wr (w.heap.size + 1) v (arList W T xs x y corners (3 * j + i)) ∧ wr.heap[w.heap.size]? = some (.cells #[.int .i64 W, .int .i64 T, .slice a n cap] 25 (0, 0)) ∧ Below w.heap.size w wr) (fun _ dx _ _ _ => (2 - intOf dx).toNat)
      case atStart => exact ⟨0, -1, by omega, by show _ = _; omega, by omega, by omega, rfl, HO.out, hp, hbel⟩
      case round =>
        clear HO hp hbel
        obtain ⟨i, p, hi3, HP, hp0, hp1, rfl, hown, hp, hbel⟩ := hrel
        have HO := Lib.hid hown; clear hown
        obtain ⟨c0, c1, c2⟩ := cells3 hp
        have lp := heap_lt hp
        by_cases hlti : i < 3
        · have hi2 : p ≤ 1 := by have := HP.out; omega
          have eX : Hid (dX (3 * j + i) = p) := by show _ = _; rw [dX_at hlti, HP.out]
          have eY : Hid (dY (3 * j + i) = q) := by show _ = _; rw [dY_at hlti, HQ.out]
          have HAt := Lib.hid (HA.out.below hbel)
          have hall := arList_len W T xs x y corners (3 * j + i)
          have NXT : ∀ wn : World, Hid (arOk W T xs x y corners (3 * j + i) = false) → arList W T xs x y corners (3 * j + (i + 1)) = arList W T xs x y corners (3 * j + i) := fun _ h => arList_skip h.out
          have NXT' := Lib.hid NXT; clear NXT
          cases hpz : (p == 0)
          all_goals
            cases hqz : (q == 0)
            all_goals
              have hpz' : (p != 0) = !(p == 0) := rfl
              have hqz' : (q != 0) = !(q == 0) := rfl
              rw [hpz] at hpz'
              rw [hqz] at hqz'
              simp only [Bool.not_true, Bool.not_false] at hpz' hqz'
          · cases hcn : corners
            · have ok : arOk W T xs x y false (3 * j + i) = false := by unfold arOk; rw [eX.out, eY.out, hpz', hqz']; simp
              subst hcn
              have OKF := Lib.hid ok; clear ok
              have BEL := Lib.hid hbel; clear hbel
              go_wp2
              go_roundw
              case rel => exact ⟨i + 1, p + 1, by omega, by show _ = _; rw [HP.out]; omega, by omega, by omega, rfl, by rw [NXT'.out wr OKF]; exact HO.out, hp, BEL.out⟩
              case measure => simp [intOf]; omega
            · subst hcn
              have BEL := Lib.hid hbel; clear hbel
              cases hat : atB W T xs (x + p) (y + q)
              · have ok : arOk W T xs x y true (3 * j + i) = false := by unfold arOk; rw [eX.out, eY.out, hat]; simp
                have OKF := Lib.hid ok; clear ok
                go_wp2_with fail
                refine (hasCell_any _ _ _ _ _ _ _ xs _ HN.out (by omega) (by omega) (by omega) (by omega) HWT.out HAt.out).mono ?_; rintro e w6 ⟨rfl, hb6⟩
                have p6 := heap_later hp hb6
                have B6 := Lib.hid (below_seq BEL.out hb6)
                have O6 := Lib.hid (HO.out.below hb6)
                clear c0 c1 c2
                go_wp2
                go_roundw
                case rel => exact ⟨i + 1, p + 1, by omega, by show _ = _; rw [HP.out]; omega, by omega, by omega, rfl, by rw [NXT'.out wr OKF]; exact O6.out, p6, B6.out⟩
                case measure => simp [intOf]; omega
              · have ok : arOk W T xs x y true (3 * j + i) = true := by unfold arOk; rw [eX.out, eY.out, hat, hpz, hqz]; (try rw [hpz']); (try rw [hqz']); simp
                have OKF := Lib.hid ok; clear ok
                have hin : 0 ≤ x + p ∧ x + p < W ∧ 0 ≤ y + q ∧ y + q < T := by
                  have h := hat; simp only [atB, Bool.and_eq_true, inF, decide_eq_true_eq] at h; exact h.1
                obtain ⟨n0, n1, n2, n3⟩ := hin
                obtain ⟨i0', i1', i2'⟩ := idx_bd n0 n1 n2 n3
                go_wp2_with fail
                refine (hasCell_any _ _ _ _ _ _ _ xs _ HN.out (by omega) (by omega) (by omega) (by omega) HWT.out HAt.out).mono ?_; rintro e w6 ⟨rfl, hb6⟩
                have p6 := heap_later hp hb6
                have B6 := Lib.hid (below_seq BEL.out hb6)
                have O6 := Lib.hid (HO.out.below hb6)
                clear c0 c1 c2
                obtain ⟨c0, c1, c2⟩ := cells3 p6
                go_wp2_with fail
                refine (cellAt_any _ _ _ _ (.bool false) _ _ _ _ n0 (by omega) i0' (by omega)).mono ?_; rintro e w7 ⟨rfl, hb7⟩
                have p7 := heap_later p6 hb7
                have B7 := Lib.hid (below_seq B6.out hb7)
                have O7 := Lib.hid (O6.out.below hb7)
                have hz7 := heap_lt p7
                clear c0 c1 c2
                go_wp2_with (at_builtin; refine wpList_append_own _ rfl _ _ 26 rfl (w.heap.size + 1) 3 i0 (.int .i64 0) 1 8 Try.underlying26 hi hz0 hz1 hz2 rfl (by decide) _ (arList W T xs x y true (3 * j + i)).length ((arList W T xs x y true (3 * j + i)).map (Value.int .i64)) rfl (World.ownsRow.alloc O7.out _) ⟨w7.heap.size, 0, none⟩ 1 1 [.int .i64 ((y + q) * W + (x + p))] rfl rfl (new_int _ _) (one_int _) (by unfold maxLen; omega) (by omega) (by simp; omega) ?_; intro v' w8 hown' hgrow _; have p8 := heap_grown (heap_later p7 (below1 _ _)) hgrow (O7.out.ownBlock (by omega)); have O8 := Lib.hid (OwnsI.ofRow (xs := arList W T xs x y true (3 * j + (i + 1))) hown' (by rw [show 3 * j + (i + 1) = 3 * j + i + 1 from rfl, arList_take OKF.out, eX.out, eY.out]; simp) (by rw [show 3 * j + (i + 1) = 3 * j + i + 1 from rfl, arList_take OKF.out]; simp)); have B8 := Lib.hid (below_grown (below_seq B7.out (below1 _ _)) hgrow (Nat.le_refl _) (O7.out.ownAt (by omega))); clear hown' hgrow)
                go_roundw
                case rel => exact ⟨i + 1, p + 1, by omega, by show _ = _; rw [HP.out]; omega, by omega, by omega, rfl, O8.out, p8, B8.out⟩
                case measure => simp [intOf]; omega
          · have BEL := Lib.hid hbel; clear hbel
            cases hat : atB W T xs (x + p) (y + q)
            · have ok : arOk W T xs x y corners (3 * j + i) = false := by unfold arOk; rw [eX.out, eY.out, hat]; simp
              have OKF := Lib.hid ok; clear ok
              go_wp2_with fail
              refine (hasCell_any _ _ _ _ _ _ _ xs _ HN.out (by omega) (by omega) (by omega) (by omega) HWT.out HAt.out).mono ?_; rintro e w6 ⟨rfl, hb6⟩
              have p6 := heap_later hp hb6
              have B6 := Lib.hid (below_seq BEL.out hb6)
              have O6 := Lib.hid (HO.out.below hb6)
              clear c0 c1 c2
              go_wp2
              go_roundw
              case rel => exact ⟨i + 1, p + 1, by omega, by show _ = _; rw [HP.out]; omega, by omega, by omega, rfl, by rw [NXT'.out wr OKF]; exact O6.out, p6, B6.out⟩
              case measure => simp [intOf]; omega
            · have ok : arOk W T xs x y corners (3 * j + i) = true := by unfold arOk; rw [eX.out, eY.out, hat, hpz, hqz]; (try rw [hpz']); (try rw [hqz']); simp
              have OKF := Lib.hid ok; clear ok
              have hin : 0 ≤ x + p ∧ x + p < W ∧ 0 ≤ y + q ∧ y + q < T := by
                have h := hat; simp only [atB, Bool.and_eq_true, inF, decide_eq_true_eq] at h; exact h.1
              obtain ⟨n0, n1, n2, n3⟩ := hin
              obtain ⟨i0', i1', i2'⟩ := idx_bd n0 n1 n2 n3
              go_wp2_with fail
              refine (hasCell_any _ _ _ _ _ _ _ xs _ HN.out (by omega) (by omega) (by omega) (by omega) HWT.out HAt.out).mono ?_; rintro e w6 ⟨rfl, hb6⟩
              have p6 := heap_later hp hb6
              have B6 := Lib.hid (below_seq BEL.out hb6)
              have O6 := Lib.hid (HO.out.below hb6)
              clear c0 c1 c2
              obtain ⟨c0, c1, c2⟩ := cells3 p6
              go_wp2_with fail
              refine (cellAt_any _ _ _ _ (.bool false) _ _ _ _ n0 (by omega) i0' (by omega)).mono ?_; rintro e w7 ⟨rfl, hb7⟩
              have p7 := heap_later p6 hb7
              have B7 := Lib.hid (below_seq B6.out hb7)
              have O7 := Lib.hid (O6.out.below hb7)
              have hz7 := heap_lt p7
              clear c0 c1 c2
              go_wp2_with (at_builtin; refine wpList_append_own _ rfl _ _ 26 rfl (w.heap.size + 1) 3 i0 (.int .i64 0) 1 8 Try.underlying26 hi hz0 hz1 hz2 rfl (by decide) _ (arList W T xs x y corners (3 * j + i)).length ((arList W T xs x y corners (3 * j + i)).map (Value.int .i64)) rfl (World.ownsRow.alloc O7.out _) ⟨w7.heap.size, 0, none⟩ 1 1 [.int .i64 ((y + q) * W + (x + p))] rfl rfl (new_int _ _) (one_int _) (by unfold maxLen; omega) (by omega) (by simp; omega) ?_; intro v' w8 hown' hgrow _; have p8 := heap_grown (heap_later p7 (below1 _ _)) hgrow (O7.out.ownBlock (by omega)); have O8 := Lib.hid (OwnsI.ofRow (xs := arList W T xs x y corners (3 * j + (i + 1))) hown' (by rw [show 3 * j + (i + 1) = 3 * j + i + 1 from rfl, arList_take OKF.out, eX.out, eY.out]; simp) (by rw [show 3 * j + (i + 1) = 3 * j + i + 1 from rfl, arList_take OKF.out]; simp)); have B8 := Lib.hid (below_grown (below_seq B7.out (below1 _ _)) hgrow (Nat.le_refl _) (O7.out.ownAt (by omega))); clear hown' hgrow)
              go_roundw
              case rel => exact ⟨i + 1, p + 1, by omega, by show _ = _; rw [HP.out]; omega, by omega, by omega, rfl, O8.out, p8, B8.out⟩
              case measure => simp [intOf]; omega
          · have BEL := Lib.hid hbel; clear hbel
            cases hat : atB W T xs (x + p) (y + q)
            · have ok : arOk W T xs x y corners (3 * j + i) = false := by unfold arOk; rw [eX.out, eY.out, hat]; simp
              have OKF := Lib.hid ok; clear ok
              go_wp2_with fail
              refine (hasCell_any _ _ _ _ _ _ _ xs _ HN.out (by omega) (by omega) (by omega) (by omega) HWT.out HAt.out).mono ?_; rintro e w6 ⟨rfl, hb6⟩
              have p6 := heap_later hp hb6
              have B6 := Lib.hid (below_seq BEL.out hb6)
              have O6 := Lib.hid (HO.out.below hb6)
              clear c0 c1 c2
              go_wp2
              go_roundw
              case rel => exact ⟨i + 1, p + 1, by omega, by show _ = _; rw [HP.out]; omega, by omega, by omega, rfl, by rw [NXT'.out wr OKF]; exact O6.out, p6, B6.out⟩
              case measure => simp [intOf]; omega
            · have ok : arOk W T xs x y corners (3 * j + i) = true := by unfold arOk; rw [eX.out, eY.out, hat, hpz, hqz]; (try rw [hpz']); (try rw [hqz']); simp
              have OKF := Lib.hid ok; clear ok
              have hin : 0 ≤ x + p ∧ x + p < W ∧ 0 ≤ y + q ∧ y + q < T := by
                have h := hat; simp only [atB, Bool.and_eq_true, inF, decide_eq_true_eq] at h; exact h.1
              obtain ⟨n0, n1, n2, n3⟩ := hin
              obtain ⟨i0', i1', i2'⟩ := idx_bd n0 n1 n2 n3
              go_wp2_with fail
              refine (hasCell_any _ _ _ _ _ _ _ xs _ HN.out (by omega) (by omega) (by omega) (by omega) HWT.out HAt.out).mono ?_; rintro e w6 ⟨rfl, hb6⟩
              have p6 := heap_later hp hb6
              have B6 := Lib.hid (below_seq BEL.out hb6)
              have O6 := Lib.hid (HO.out.below hb6)
              clear c0 c1 c2
              obtain ⟨c0, c1, c2⟩ := cells3 p6
              go_wp2_with fail
              refine (cellAt_any _ _ _ _ (.bool false) _ _ _ _ n0 (by omega) i0' (by omega)).mono ?_; rintro e w7 ⟨rfl, hb7⟩
              have p7 := heap_later p6 hb7
              have B7 := Lib.hid (below_seq B6.out hb7)
              have O7 := Lib.hid (O6.out.below hb7)
              have hz7 := heap_lt p7
              clear c0 c1 c2
              go_wp2_with (at_builtin; refine wpList_append_own _ rfl _ _ 26 rfl (w.heap.size + 1) 3 i0 (.int .i64 0) 1 8 Try.underlying26 hi hz0 hz1 hz2 rfl (by decide) _ (arList W T xs x y corners (3 * j + i)).length ((arList W T xs x y corners (3 * j + i)).map (Value.int .i64)) rfl (World.ownsRow.alloc O7.out _) ⟨w7.heap.size, 0, none⟩ 1 1 [.int .i64 ((y + q) * W + (x + p))] rfl rfl (new_int _ _) (one_int _) (by unfold maxLen; omega) (by omega) (by simp; omega) ?_; intro v' w8 hown' hgrow _; have p8 := heap_grown (heap_later p7 (below1 _ _)) hgrow (O7.out.ownBlock (by omega)); have O8 := Lib.hid (OwnsI.ofRow (xs := arList W T xs x y corners (3 * j + (i + 1))) hown' (by rw [show 3 * j + (i + 1) = 3 * j + i + 1 from rfl, arList_take OKF.out, eX.out, eY.out]; simp) (by rw [show 3 * j + (i + 1) = 3 * j + i + 1 from rfl, arList_take OKF.out]; simp)); have B8 := Lib.hid (below_grown (below_seq B7.out (below1 _ _)) hgrow (Nat.le_refl _) (O7.out.ownAt (by omega))); clear hown' hgrow)
              go_roundw
              case rel => exact ⟨i + 1, p + 1, by omega, by show _ = _; rw [HP.out]; omega, by omega, by omega, rfl, O8.out, p8, B8.out⟩
              case measure => simp [intOf]; omega
          · have ok : arOk W T xs x y corners (3 * j + i) = false := by unfold arOk; rw [eX.out, eY.out, hpz, hqz]; rfl
            have OKF := Lib.hid ok; clear ok
            have BEL := Lib.hid hbel; clear hbel
            go_wp2
            go_roundw
            case rel => exact ⟨i + 1, p + 1, by omega, by show _ = _; rw [HP.out]; omega, by omega, by omega, rfl, by rw [NXT'.out wr OKF]; exact HO.out, hp, BEL.out⟩
            case measure => simp [intOf]; omega
        · have hi2 : ¬ p ≤ 1 := by have := HP.out; omega
          obtain rfl : i = 3 := by omega
          have BEL := Lib.hid hbel; clear hbel
          go_wp2
          go_roundw
          case rel => exact ⟨j + 1, q + 1, by omega, by show _ = _; rw [HQ.out]; omega, by omega, by omega, rfl, by rw [show 3 * (j + 1) = 3 * j + 3 from rfl]; exact HO.out, hp, BEL.out⟩
          case measure => simp [intOf]; omega
    · have hj2 : ¬ q ≤ 1 := by have := HQ.out; omega
      obtain rfl : j = 3 := by omega
      have BEL := Lib.hid hbel; clear hbel
      go_wp2
      go_ret
      exact ⟨_, rfl, HO.out.lower (by omega), BEL.out⟩
end Go.Proofs.Ytpcajacekmidbaa
