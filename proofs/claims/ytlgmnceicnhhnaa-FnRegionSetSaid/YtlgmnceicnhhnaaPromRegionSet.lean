/- The law FnRegionSet: its walk. -/
import Derived.Test.YtlgmnceicnhhnaaDrawSet
import Derived.Test.YtlgmnceicnhhnaaSetS
import Derived.Test.YtlgmnceicnhhnaaFlipM
import Derived.Test.YtlgmnceicnhhnaaProm
namespace Go.Proofs.Ytlgmnceicnhhnaa
open Go.RowKit
set_option linter.unusedVariables false
set_option maxRecDepth 100000
set_option linter.unusedSimpArgs false

theorem cnt_setB {xs : List Bool} {c : Nat} (hc : c < xs.length) (has : Bool) : cnt (setB xs c has) + b2n (xs.getD c false) = cnt xs + b2n has := by
  have hl : (setB xs c has).length = xs.length := by unfold setB; rw [tab_len]
  rw [cnt_sum, cnt_sum xs, hl]
  have h1 := sumN_ind xs.length c (b2n (xs.getD c false))
  have h2 := sumN_ind xs.length c (b2n has)
  rw [if_pos hc] at h1 h2
  rw [← h1, ← h2, ← sumN_add, ← sumN_add]
  refine sumN_congr fun i hi => ?_
  rw [show (setB xs c has).getD i false = if i = c then has else xs.getD i false from tab_getD _ hi]
  by_cases e : i = c
  · subst e; simp; omega
  · simp [e]
theorem setB_back {xs : List Bool} {c : Nat} (has : Bool) : setB (setB xs c has) c (xs.getD c false) = xs := by
  have hl : (setB xs c has).length = xs.length := by unfold setB; rw [tab_len]
  have hg : ∀ i, i < xs.length → (setB xs c has).getD i false = if i = c then has else xs.getD i false := fun i hi => tab_getD _ hi
  show tab (setB xs c has).length (fun i => if i = c then xs.getD c false else (setB xs c has).getD i false) = xs
  rw [hl, tab_congr (g := fun i => xs.getD i false) fun i hi => by
    by_cases e : i = c
    · rw [if_pos e, e]
    · rw [if_neg e, hg i hi, if_neg e]]
  exact tab_of xs
theorem BoolsAt.cellAtS {w : World} {b off : Nat} {xs : List Bool} (h : BoolsAt w (some ⟨b, off, none⟩) xs) {i : Nat} (hi : i < xs.length) : w.cell? ⟨b, off + i, none⟩ = some (.bool (xs.getD i false)) := by
  obtain ⟨b', off', e, hc⟩ := h i hi
  simp only [Option.some.injEq, Addr.mk.injEq, and_true] at e
  obtain ⟨rfl, rfl⟩ := e
  exact hc
theorem BoolsAt.set3o {w : World} {a : Option Addr} {xs : List Bool} (h : BoolsAt w a xs) {b : Nat} (hb : ∀ p : Addr, a = some p → p.block < b) (x y z : Value) : BoolsAt (((w.setCell ⟨b, 0, none⟩ x).setCell ⟨b, 1, none⟩ y).setCell ⟨b, 2, none⟩ z) a xs := by
  intro i hi
  obtain ⟨b', off', rfl, hc⟩ := h i hi
  have hne : b' ≠ b := by have := hb _ rfl; simp at this; omega
  exact ⟨b', off', rfl, (World.cell?_setCell_other _ _ _ _ (fun e => hne (by simp only [Addr.mk.injEq] at e; exact e.1.symm))).trans ((World.cell?_setCell_other _ _ _ _ (fun e => hne (by simp only [Addr.mk.injEq] at e; exact e.1.symm))).trans ((World.cell?_setCell_other _ _ _ _ (fun e => hne (by simp only [Addr.mk.injEq] at e; exact e.1.symm))).trans hc))⟩
theorem iSet_none (W T cell : Int) (has : Bool) (a : Option Addr) (n cap : Nat) (xs : List Bool) (w : World) (hn : n = xs.length) (hn' : n ≤ 1048576) (ha : BoolsAt w a xs) (h : (setIn W T xs cell && rv W T (setB xs cell.toNat has)) = false) :
    Calls Try.prog 23 #[.agg #[.int .i64 W, .int .i64 T, .slice a n cap], .int .i64 cell, .bool has] w fun e w' => e = .returned (.tuple #[.agg #[.int .i64 0, .int .i64 0, .slice none 0 0], .bool false]) ∧ Below w.heap.size w w' := by
  cases hs : setIn W T xs cell
  · exact iRegionSet_no W T cell has a n cap xs w hn hn' ha hs
  · rw [hs, Bool.true_and] at h
    refine (iRegionSet_in W T cell has a n cap xs w hn hn' ha hs).mono ?_
    rintro e w' ⟨g, rfl, -, hb⟩
    rw [h]
    exact ⟨rfl, hb⟩
theorem sSet_none (W T cell : Int) (has : Bool) (a : Option Addr) (n cap : Nat) (xs : List Bool) (w : World) (hn : n = xs.length) (hn' : n ≤ 1048576) (ha : BoolsAt w a xs) (h : (setIn W T xs cell && rv W T (setB xs cell.toNat has)) = false) :
    Calls Try.prog 24 #[.agg #[.int .i64 W, .int .i64 T, .slice a n cap], .int .i64 cell, .bool has] w fun e w' => e = .returned (.tuple #[.agg #[.int .i64 0, .int .i64 0, .slice none 0 0], .bool false]) ∧ Below w.heap.size w w' := by
  cases hs : setIn W T xs cell
  · exact sRegionSet_no W T cell has a n cap xs w hn hn' ha hs
  · rw [hs, Bool.true_and] at h
    refine (sRegionSet_in W T cell has a n cap xs w hn hn' ha hs).mono ?_
    rintro e w' ⟨g, cg, rfl, -, hb⟩
    rw [h]
    exact ⟨rfl, hb⟩
theorem iSet_yes (W T : Int) (c : Nat) (has : Bool) (a : Option Addr) (n cap : Nat) (xs : List Bool) (w : World) (hn : n = xs.length) (hn' : n ≤ 1048576) (ha : BoolsAt w a xs) (h : setIn W T xs c = true) (hv : rv W T (setB xs c has) = true) :
    Calls Try.prog 23 #[.agg #[.int .i64 W, .int .i64 T, .slice a n cap], .int .i64 c, .bool has] w fun e w' => ∃ g, e = .returned (.tuple #[.agg #[.int .i64 W, .int .i64 T, .slice (some ⟨g, 0, none⟩) n n], .bool true]) ∧ OwnsB w' (w.heap.size + 2) (.slice (some ⟨g, 0, none⟩) n n) (setB xs c has) ∧ Below w.heap.size w w' := by
  refine (iRegionSet_in W T c has a n cap xs w hn hn' ha h).mono ?_
  rintro e w' ⟨g, rfl, ho, hb⟩
  rw [Int.toNat_natCast] at *
  rw [hv]
  exact ⟨g, rfl, ho, hb⟩
theorem sSet_yes (W T : Int) (c : Nat) (has : Bool) (a : Option Addr) (n cap : Nat) (xs : List Bool) (w : World) (hn : n = xs.length) (hn' : n ≤ 1048576) (ha : BoolsAt w a xs) (h : setIn W T xs c = true) (hv : rv W T (setB xs c has) = true) :
    Calls Try.prog 24 #[.agg #[.int .i64 W, .int .i64 T, .slice a n cap], .int .i64 c, .bool has] w fun e w' => ∃ g cg, e = .returned (.tuple #[.agg #[.int .i64 W, .int .i64 T, .slice (some ⟨g, 0, none⟩) n cg], .bool true]) ∧ BoolsAt w' (some ⟨g, 0, none⟩) (setB xs c has) ∧ Below w.heap.size w w' := by
  refine (sRegionSet_in W T c has a n cap xs w hn hn' ha h).mono ?_
  rintro e w' ⟨g, cg, rfl, ho, hb⟩
  rw [Int.toNat_natCast] at *
  rw [hv]
  exact ⟨g, cg, rfl, OwnsB.at ho, hb⟩
theorem bset3 {w : World} {b : Nat} {x y z x' y' z' : Value} {t : TypeId} (h : w.heap[b]? = some (.cells #[x, y, z] t (0, 0))) : (((w.setCell ⟨b, 0, none⟩ x').setCell ⟨b, 1, none⟩ y').setCell ⟨b, 2, none⟩ z').heap[b]? = some (.cells #[x', y', z'] t (0, 0)) := by
  simpa using block_setCell (block_setCell (block_setCell h (i := 0) x') (i := 1) y') (i := 2) z'
theorem hset3 {w : World} {b b6 : Nat} {o : Obj} (h : w.heap[b]? = some o) (hb : b ≠ b6) (x y z : Value) : (((w.setCell ⟨b6, 0, none⟩ x).setCell ⟨b6, 1, none⟩ y).setCell ⟨b6, 2, none⟩ z).heap[b]? = some o :=
  heap_set_other (heap_set_other (heap_set_other h (p := ⟨b6, 0, none⟩) hb x) (p := ⟨b6, 1, none⟩) hb y) (p := ⟨b6, 2, none⟩) hb z

set_option maxHeartbeats 4000000 in
theorem promRegionSet_walk (cb : Option Addr) (n cap : Nat) (zs : List Int) (w : World) (hn : n = zs.length) (hn' : n ≤ maxLen) (hcap : n ≤ cap) (hb : BytesAt w cb zs) :
    Calls Try.prog 5 #[.slice cb n cap] w fun e w' => e = .returned (.bool true) ∧ Below w.heap.size w w' := by
  have HN := Lib.hid hn; clear hn
  have HB := Lib.hid hb; clear hb
  by_cases hbig : 1048576 < n
  · unfold maxLen at hn'
    go_enter Try.func5, Try.ntmps5
    go_wp2
    go_ret
    exact ⟨rfl, Below.refl _ _⟩
  have hsm : n ≤ 1048576 := by omega
  clear hbig hn'
  go_enter Try.func5, Try.ntmps5
  go_wp2_with fail
  refine (drawRegionSet_any _ _ _ zs _ HN.out hsm hcap HB.out).mono ?_; rintro e w1 ⟨W, T, a, m, c, xs, cell, has, rfl, hm, h36, hs, hxy, ho, b1⟩
  have HM := Lib.hid hm; clear hm
  have AX := Lib.hid (OwnsB.at ho); clear ho
  have hm1 : m ≤ 1048576 := by omega
  clear hs hxy
  cases h : (setIn W T xs cell && rv W T (setB xs cell.toNat has))
  · go_wp2_with fail
    refine (iSet_none _ _ _ _ _ _ _ xs _ HM.out hm1 (BoolsAt.one AX.out _) h).mono ?_; rintro e w2 ⟨rfl, hb2⟩
    have b2 := below_seq (below_seq b1 (below1 _ _)) hb2
    have AX_2 := Lib.hid (BoolsAt.below (BoolsAt.one AX.out _) hb2)
    have pr_2 := heap_later (heap_new _ _) hb2
    clear AX
    obtain ⟨c2_pr0, c2_pr1, c2_pr2⟩ := cells3 pr_2
    have l2_pr := heap_lt pr_2
    go_wp2_with fail
    refine (sSet_none _ _ _ _ _ _ _ xs _ HM.out hm1 (BoolsAt.one AX_2.out _) h).mono ?_; rintro e w3 ⟨rfl, hb3⟩
    have b3 := below_seq (below_seq b2 (below1 _ _)) hb3
    have px_3 := heap_later (heap_new _ _) hb3
    clear AX_2 pr_2 c2_pr0 c2_pr1 c2_pr2 l2_pr
    obtain ⟨c3_px0, c3_px1, c3_px2⟩ := cells3 px_3
    have l3_px := heap_lt px_3
    go_wp2_with fail
    refine (sameRegion_same _ _ _ _ _ _ _ [] _ rfl (by simp) (BoolsAt.empty _ _) (BoolsAt.empty _ _)).mono ?_; rintro e w4 ⟨rfl, hb4⟩
    have b4 := below_seq (below_seq b3 (below1 _ _)) hb4
    have px_4 := heap_later (heap_later px_3 (below1 _ _)) hb4
    have py_4 := heap_later (heap_new _ _) hb4
    clear px_3 c3_px0 c3_px1 c3_px2 l3_px
    obtain ⟨c4_px0, c4_px1, c4_px2⟩ := cells3 px_4
    have l4_px := heap_lt px_4
    go_wp2_with fail
    refine (alive_any _).mono ?_; rintro e w5 ⟨rfl, hb5⟩
    have b5 := below_seq b4 hb5
    have px_5 := heap_later px_4 hb5
    have py_5 := heap_later py_4 hb5
    clear px_4 py_4 c4_px0 c4_px1 c4_px2 l4_px
    go_wp2
    go_ret
    exact ⟨rfl, b5⟩
  · rw [Bool.and_eq_true] at h
    obtain ⟨h, hv⟩ := h
    have h0 : rv W T xs = true ∧ 0 ≤ cell ∧ cell < xs.length := by simpa [setIn] using h
    obtain ⟨hr, hc0, hc1⟩ := h0
    obtain ⟨cn, rfl⟩ := Int.eq_ofNat_of_zero_le hc0
    rw [Int.toNat_natCast] at hv
    have hcl : cn < xs.length := by exact_mod_cast hc1
    obtain ⟨lb, lo, rfl, -⟩ := AX.out cn hcl
    obtain ⟨v, hvv⟩ : ∃ v, v = xs.getD cn false := ⟨_, rfl⟩
    have hbk : setB (setB xs cn has) cn v = xs := by rw [hvv]; exact setB_back has
    have hcnt := cnt_setB hcl has
    rw [← hvv] at hcnt
    have hly : (setB xs cn has).length = xs.length := by unfold setB; rw [tab_len]
    obtain ⟨ys, hys⟩ : ∃ ys, ys = setB xs cn has := ⟨_, rfl⟩
    rw [← hys] at hbk hcnt hv hly
    have HY : Hid (m = ys.length) := by show m = _; rw [hly]; exact HM.out
    have HX := Lib.hid h
    have HX2 : Hid (setIn W T ys cn = true) := by
      show setIn _ _ _ _ = true
      simp only [setIn, Bool.and_eq_true, decide_eq_true_eq]; rw [hly]; exact ⟨hv, hc0, hc1⟩
    have HV : Hid (rv W T (setB xs cn has) = true) := by show _ = true; rw [← hys]; exact hv
    have HV2 : Hid (rv W T (setB ys cn v) = true) := by show _ = true; rw [hbk]; exact hr
    obtain ⟨Yn, hYn⟩ : ∃ k, k = cnt ys := ⟨_, rfl⟩
    obtain ⟨Xn, hXn⟩ : ∃ k, k = cnt xs := ⟨_, rfl⟩
    rw [← hYn, ← hXn] at hcnt
    have EY : Hid (many W T ys = Yn) := by show many _ _ _ = _; unfold many; rw [hv, if_pos rfl, hYn]
    have EX : Hid (many W T xs = Xn) := by show many _ _ _ = _; unfold many; rw [hr, if_pos rfl, hXn]
    have ly : Yn ≤ 24 := by rw [hYn]; exact (rv_true hv).2.2.2.2.2
    have lx : Xn ≤ 24 := by rw [hXn]; exact (rv_true hr).2.2.2.2.2
    have qw : IntKind.i64.wrap ((Yn : Int) - Xn) = (Yn : Int) - Xn := IntWalk.i64_in _ (by omega)
    obtain ⟨D, hD⟩ : ∃ D, (Yn : Int) - Xn = D := ⟨_, rfl⟩
    have HD : Hid ((D = 1 ∧ has = true ∧ v = false) ∨ (D = -1 ∧ has = false ∧ v = true) ∨ (D = 0 ∧ has = v)) := by
      show _ ∨ _
      revert hcnt; cases has <;> cases v <;> simp [b2n] <;> omega
    have HQ : Hid (IntKind.i64.wrap ((Yn : Int) - Xn) = D) := qw.trans hD
    have HVV := Lib.hid hvv
    have HYS := Lib.hid hys
    have HBK := Lib.hid hbk
    have i0 : (0 : Int) ≤ cn := hc0
    have i1 : (cn : Int) < m := by rw [HM.out]; exact hc1
    have HCL := Lib.hid hcl
    clear hcnt hly h hv hr hYn hXn ly lx qw hD hvv hys hbk hc0 hc1 hcl
    go_wp2_with fail
    refine (iSet_yes _ _ _ _ _ _ _ xs _ HM.out hm1 (BoolsAt.one AX.out _) HX.out HV.out).mono ?_; rintro e w2 ⟨g2, rfl, ho2, hb2⟩
    have b2 := below_seq (below_seq b1 (below1 _ _)) hb2
    have z2 : w1.heap.size + 1 ≤ w2.heap.size := by have := hb2.size; (try simp at this); omega
    have AX_2 := Lib.hid (BoolsAt.below (BoolsAt.one AX.out _) hb2)
    have pr_2 := heap_later (heap_new _ _) hb2
    have FX_2 := Lib.hid ((by rw [HYS.out]; exact OwnsB.at ho2 : BoolsAt _ _ ys))
    clear AX
    obtain ⟨c2_pr0, c2_pr1, c2_pr2⟩ := cells3 pr_2
    have l2_pr := heap_lt pr_2
    clear ho2
    go_wp2_with fail
    refine (sSet_yes _ _ _ _ _ _ _ xs _ HM.out hm1 (BoolsAt.one AX_2.out _) HX.out HV.out).mono ?_; rintro e w3 ⟨g3, c3, rfl, ho3, hb3⟩
    have b3 := below_seq (below_seq b2 (below1 _ _)) hb3
    have z3 : w2.heap.size + 1 ≤ w3.heap.size := by have := hb3.size; (try simp at this); omega
    have AX_3 := Lib.hid (BoolsAt.below (BoolsAt.one AX_2.out _) hb3)
    have pr_3 := heap_later (heap_later pr_2 (below1 _ _)) hb3
    have FX_3 := Lib.hid (BoolsAt.below (BoolsAt.one FX_2.out _) hb3)
    have px_3 := heap_later (heap_new _ _) hb3
    have FY_3 := Lib.hid ((by rw [HYS.out]; exact ho3 : BoolsAt _ _ ys))
    clear AX_2 pr_2 FX_2 c2_pr0 c2_pr1 c2_pr2 l2_pr
    obtain ⟨c3_px0, c3_px1, c3_px2⟩ := cells3 px_3
    have l3_px := heap_lt px_3
    clear ho3
    go_wp2_with fail
    refine (sameRegion_same _ _ _ _ _ _ _ ys _ HY.out hm1 (BoolsAt.one FX_3.out _) (BoolsAt.one FY_3.out _)).mono ?_; rintro e w4 ⟨rfl, hb4⟩
    have b4 := below_seq (below_seq b3 (below1 _ _)) hb4
    have z4 : w3.heap.size + 1 ≤ w4.heap.size := by have := hb4.size; (try simp at this); omega
    have AX_4 := Lib.hid (BoolsAt.below (BoolsAt.one AX_3.out _) hb4)
    have pr_4 := heap_later (heap_later pr_3 (below1 _ _)) hb4
    have FX_4 := Lib.hid (BoolsAt.below (BoolsAt.one FX_3.out _) hb4)
    have px_4 := heap_later (heap_later px_3 (below1 _ _)) hb4
    have py_4 := heap_later (heap_new _ _) hb4
    clear AX_3 pr_3 FX_3 px_3 FY_3 c3_px0 c3_px1 c3_px2 l3_px
    obtain ⟨c4_pr0, c4_pr1, c4_pr2⟩ := cells3 pr_4
    have l4_pr := heap_lt pr_4
    obtain ⟨c4_px0, c4_px1, c4_px2⟩ := cells3 px_4
    have l4_px := heap_lt px_4
    go_wp2_with fail
    have K4 := Lib.hid (show w4.cell? ⟨lb, lo + cn, none⟩ = some (.bool v) from (by have h9 := BoolsAt.cellAtS (AX_4.out) HCL.out; rw [← HVV.out] at h9; exact h9))
    refine cut_region (fun a0 aa w' => ∃ (v54 v55 v56 v57 v58 v59 v60 v61 v53 v62 v63 : Value) (b6 g5 : Nat), aa = ((((((((((((a0.put (some 54) v54).put (some 55) v55).put (some 56) v56).put (some 57) v57).put (some 58) v58).put (some 59) v59).put (some 60) v60).put (some 61) v61).put (some 53) v53).put (some 62) v62).put (some 63) v63).put (some 10) (.pointer (some ⟨b6, 0, none⟩))).put (some 11) (.bool true) ∧ w'.heap[b6]? = some (.cells #[.int .i64 W, .int .i64 T, .slice (some ⟨g5, 0, none⟩) m m] 25 (0, 0)) ∧ BoolsAt w' (some ⟨g5, 0, none⟩) xs ∧ BoolsAt w' (some ⟨lb, lo, none⟩) xs ∧ BoolsAt w' (some ⟨g2, 0, none⟩) ys ∧ Below w4.heap.size w4 w') ?_ ?_
    · have HSD := Lib.hid (show (fun w' : World => w'.cell? ⟨w2.heap.size, 0, none⟩ = some (.int .i64 W) ∧ w'.cell? ⟨w2.heap.size, 1, none⟩ = some (.int .i64 T) ∧ w'.cell? ⟨w2.heap.size, 2, none⟩ = some (.slice (some ⟨g2, 0, none⟩) m m) ∧ w'.cell? ⟨w1.heap.size, 0, none⟩ = some (.int .i64 W) ∧ w'.cell? ⟨w1.heap.size, 1, none⟩ = some (.int .i64 T) ∧ w'.cell? ⟨w1.heap.size, 2, none⟩ = some (.slice (some ⟨lb, lo, none⟩) m c) ∧ w'.cell? ⟨lb, lo + cn, none⟩ = some (.bool v)) w4.drew from ⟨(cells3 px_4).1, (cells3 px_4).2.1, (cells3 px_4).2.2, (cells3 pr_4).1, (cells3 pr_4).2.1, (cells3 pr_4).2.2, K4.out⟩)
      have D0 : w4.drew.heap[w2.heap.size]? = some _ := px_4
      have D1 : w4.drew.heap[w1.heap.size]? = some _ := pr_4
      have DB := Lib.hid (show Below w4.heap.size w4 w4.drew from drew_below _)
      have DX := Lib.hid (show BoolsAt w4.drew _ xs from AX_4.out)
      have DF := Lib.hid (show BoolsAt w4.drew _ ys from FX_4.out)
      have DK : w4.drew.cell? ⟨lb, lo + cn, none⟩ = some (.bool v) := K4.out
      refine wp_region_till (fun w' : World => w'.cell? ⟨w2.heap.size, 0, none⟩ = some (.int .i64 W) ∧ w'.cell? ⟨w2.heap.size, 1, none⟩ = some (.int .i64 T) ∧ w'.cell? ⟨w2.heap.size, 2, none⟩ = some (.slice (some ⟨g2, 0, none⟩) m m) ∧ w'.cell? ⟨w1.heap.size, 0, none⟩ = some (.int .i64 W) ∧ w'.cell? ⟨w1.heap.size, 1, none⟩ = some (.int .i64 T) ∧ w'.cell? ⟨w1.heap.size, 2, none⟩ = some (.slice (some ⟨lb, lo, none⟩) m c) ∧ w'.cell? ⟨lb, lo + cn, none⟩ = some (.bool v)) 13 (by kernel_rfl) ?_
      refine Till.take (i := 0) (v := ?_) rfl (by kernel_rfl) (by kernel_rfl) (by kernel_rfl) (by kernel_rfl) (fun _ _ _ h => nomatch h.1) (Or.inl ⟨by kernel_rfl, ?_⟩) HSD.out ?_
      rotate_left
      · intro ws hsw
        obtain ⟨s1, s2, s3, s4, s5, s6, s7⟩ := hsw
        go_simp
        try with_reducible rfl
      try simp only [Act.put, List.setIfInBounds_toArray, List.set_cons_zero, List.set_cons_succ]
      refine Till.take (i := 1) (v := ?_) rfl (by kernel_rfl) (by kernel_rfl) (by kernel_rfl) (by kernel_rfl) (fun _ _ _ h => nomatch h.1) (Or.inl ⟨by kernel_rfl, ?_⟩) HSD.out ?_
      rotate_left
      · intro ws hsw
        obtain ⟨s1, s2, s3, s4, s5, s6, s7⟩ := hsw
        go_simp
        try with_reducible rfl
      try simp only [Act.put, List.setIfInBounds_toArray, List.set_cons_zero, List.set_cons_succ]
      refine Till.take (i := 2) (v := ?_) rfl (by kernel_rfl) (by kernel_rfl) (by kernel_rfl) (by kernel_rfl) (fun _ _ _ h => nomatch h.1) (Or.inl ⟨by kernel_rfl, ?_⟩) HSD.out ?_
      rotate_left
      · intro ws hsw
        obtain ⟨s1, s2, s3, s4, s5, s6, s7⟩ := hsw
        go_simp
        try with_reducible rfl
      try simp only [Act.put, List.setIfInBounds_toArray, List.set_cons_zero, List.set_cons_succ]
      refine Till.take (i := 3) (v := ?_) rfl (by kernel_rfl) (by kernel_rfl) (by kernel_rfl) (by kernel_rfl) (fun _ _ _ h => nomatch h.1) (Or.inl ⟨by kernel_rfl, ?_⟩) HSD.out ?_
      rotate_left
      · intro ws hsw
        obtain ⟨s1, s2, s3, s4, s5, s6, s7⟩ := hsw
        go_simp
        try with_reducible rfl
      try simp only [Act.put, List.setIfInBounds_toArray, List.set_cons_zero, List.set_cons_succ]
      refine Till.take (i := 4) (v := ?_) rfl (by kernel_rfl) (by kernel_rfl) (by kernel_rfl) (by kernel_rfl) (fun _ _ _ h => nomatch h.1) (Or.inl ⟨by kernel_rfl, ?_⟩) HSD.out ?_
      rotate_left
      · intro ws hsw
        obtain ⟨s1, s2, s3, s4, s5, s6, s7⟩ := hsw
        go_simp
        try with_reducible rfl
      try simp only [Act.put, List.setIfInBounds_toArray, List.set_cons_zero, List.set_cons_succ]
      refine Till.take (i := 5) (v := ?_) rfl (by kernel_rfl) (by kernel_rfl) (by kernel_rfl) (by kernel_rfl) (fun _ _ _ h => nomatch h.1) (Or.inl ⟨by kernel_rfl, ?_⟩) HSD.out ?_
      rotate_left
      · intro ws hsw
        obtain ⟨s1, s2, s3, s4, s5, s6, s7⟩ := hsw
        go_simp
        try with_reducible rfl
      try simp only [Act.put, List.setIfInBounds_toArray, List.set_cons_zero, List.set_cons_succ]
      refine Till.take (i := 6) (v := ?_) rfl (by kernel_rfl) (by kernel_rfl) (by kernel_rfl) (by kernel_rfl) (fun _ _ _ h => nomatch h.1) (Or.inl ⟨by kernel_rfl, ?_⟩) HSD.out ?_
      rotate_left
      · intro ws hsw
        obtain ⟨s1, s2, s3, s4, s5, s6, s7⟩ := hsw
        go_simp
        try with_reducible rfl
      try simp only [Act.put, List.setIfInBounds_toArray, List.set_cons_zero, List.set_cons_succ]
      refine Till.two (i := 7) (j := 11) (by kernel_rfl) rfl rfl (by rfl) (by rfl) (fun K hK => ?_) (fun K hK => ?_)
      · go_simp
        refine (iSet_yes _ _ _ _ _ _ _ ys _ HY.out hm1 DF.out HX2.out HV2.out).mono ?_; rintro e w5 ⟨g5, rfl, ho5, hb5⟩
        rw [HBK.out] at ho5
        have p5 := heap_later D0 hb5
        have r5 := heap_later D1 hb5
        have k5 := cell_later hb5 DK
        have S5 := Lib.hid (show (fun w' : World => w'.cell? ⟨w2.heap.size, 0, none⟩ = some (.int .i64 W) ∧ w'.cell? ⟨w2.heap.size, 1, none⟩ = some (.int .i64 T) ∧ w'.cell? ⟨w2.heap.size, 2, none⟩ = some (.slice (some ⟨g2, 0, none⟩) m m) ∧ w'.cell? ⟨w1.heap.size, 0, none⟩ = some (.int .i64 W) ∧ w'.cell? ⟨w1.heap.size, 1, none⟩ = some (.int .i64 T) ∧ w'.cell? ⟨w1.heap.size, 2, none⟩ = some (.slice (some ⟨lb, lo, none⟩) m c) ∧ w'.cell? ⟨lb, lo + cn, none⟩ = some (.bool v)) w5 from ⟨(cells3 p5).1, (cells3 p5).2.1, (cells3 p5).2.2, (cells3 r5).1, (cells3 r5).2.1, (cells3 r5).2.2, k5⟩)
        have O5 := Lib.hid ho5
        clear ho5
        have X5 := Lib.hid (DX.out.below hb5)
        have F5 := Lib.hid (DF.out.below hb5)
        have B5 := Lib.hid (below_seq DB.out hb5)
        refine hK.out _ _ (fun _ => S5.out) ?_
        clear hK K
        refine Till.take (i := 8) (v := ?_) rfl (by kernel_rfl) (by kernel_rfl) (by kernel_rfl) (by kernel_rfl) (fun _ _ _ h => nomatch h.1) (Or.inl ⟨by kernel_rfl, ?_⟩) S5.out ?_
        rotate_left
        · intro ws hsw
          obtain ⟨s1, s2, s3, s4, s5, s6, s7⟩ := hsw
          go_simp
          try with_reducible rfl
        try simp only [Act.put, List.setIfInBounds_toArray, List.set_cons_zero, List.set_cons_succ]
        refine Till.take (i := 9) (v := ?_) rfl (by kernel_rfl) (by kernel_rfl) (by kernel_rfl) (by kernel_rfl) (fun _ _ _ h => nomatch h.1) (Or.inl ⟨by kernel_rfl, ?_⟩) S5.out ?_
        rotate_left
        · intro ws hsw
          obtain ⟨s1, s2, s3, s4, s5, s6, s7⟩ := hsw
          go_simp
          try with_reducible rfl
        try simp only [Act.put, List.setIfInBounds_toArray, List.set_cons_zero, List.set_cons_succ]
        refine Till.take (i := 10) (v := ?_) rfl (by kernel_rfl) (by kernel_rfl) (by kernel_rfl) (by kernel_rfl) (fun _ _ _ h => nomatch h.1) (Or.inl ⟨by kernel_rfl, ?_⟩) S5.out ?_
        rotate_left
        · intro ws hsw
          obtain ⟨s1, s2, s3, s4, s5, s6, s7⟩ := hsw
          go_simp
          try with_reducible rfl
        try simp only [Act.put, List.setIfInBounds_toArray, List.set_cons_zero, List.set_cons_succ]
        refine Till.one (i := 11) (by kernel_rfl) rfl (by rfl) (fun K hK => ?_)
        go_simp
        refine hK.out _ _ (fun _ => ⟨(cells3 (heap_later p5 (below1 w5 (.cells #[.int .i64 0, .int .i64 0, .slice none 0 0] 25)))).1, (cells3 (heap_later p5 (below1 w5 (.cells #[.int .i64 0, .int .i64 0, .slice none 0 0] 25)))).2.1, (cells3 (heap_later p5 (below1 w5 (.cells #[.int .i64 0, .int .i64 0, .slice none 0 0] 25)))).2.2, (cells3 (heap_later r5 (below1 w5 (.cells #[.int .i64 0, .int .i64 0, .slice none 0 0] 25)))).1, (cells3 (heap_later r5 (below1 w5 (.cells #[.int .i64 0, .int .i64 0, .slice none 0 0] 25)))).2.1, (cells3 (heap_later r5 (below1 w5 (.cells #[.int .i64 0, .int .i64 0, .slice none 0 0] 25)))).2.2, (cell_later (below1 w5 (.cells #[.int .i64 0, .int .i64 0, .slice none 0 0] 25)) k5)⟩) ?_
        clear hK K
        refine Till.one (i := 12) (by kernel_rfl) rfl (by rfl) (fun K hK => ?_)
        go_simp
        refine hK.out _ _ (fun _ => ⟨(cells3 (heap_later p5 (below1 _ _))).1, (cells3 (heap_later p5 (below1 _ _))).2.1, (cells3 (heap_later p5 (below1 _ _))).2.2, (cells3 (heap_later r5 (below1 _ _))).1, (cells3 (heap_later r5 (below1 _ _))).2.1, (cells3 (heap_later r5 (below1 _ _))).2.2, (cell_later (below1 _ _) k5)⟩) ?_
        clear hK K
        refine Till.one (i := 13) (by kernel_rfl) rfl (by rfl) (fun K hK => ?_)
        go_simp
        refine hK.out _ _ (fun h => absurd rfl h) ?_
        clear hK K
        refine Till.done (by kernel_rfl) ⟨rfl, _, _, _, _, _, _, _, _, _, _, _, _, g5, rfl, ?_, ?_, ?_, ?_, ?_⟩ _
        · exact heap_new _ _
        · exact (OwnsB.at O5.out).one _
        · exact X5.out.one _
        · exact F5.out.one _
        · exact below_seq B5.out (below1 _ _)
      · go_simp
        have BN := Lib.hid (show Below w4.heap.size w4 (w4.alloc (.cells #[.int .i64 0, .int .i64 0, .slice none 0 0] 25)).drew from below_seq (below1 _ _) (drew_below _))
        have p5 := heap_later px_4 BN.out
        have r5 := heap_later pr_4 BN.out
        have k5 := cell_later BN.out K4.out
        have x5 := Lib.hid (AX_4.out.below BN.out)
        have f5 := Lib.hid (FX_4.out.below BN.out)
        have s5 : (w4.alloc (.cells #[.int .i64 0, .int .i64 0, .slice none 0 0] 25)).drew.heap[w4.heap.size]? = some _ := heap_new w4 (.cells #[.int .i64 0, .int .i64 0, .slice none 0 0] 25)
        refine hK.out _ _ (fun _ => ⟨(cells3 p5).1, (cells3 p5).2.1, (cells3 p5).2.2, (cells3 r5).1, (cells3 r5).2.1, (cells3 r5).2.2, k5⟩) ?_
        clear hK K
        refine Till.one (i := 7) (by kernel_rfl) rfl (by rfl) (fun K hK => ?_)
        go_simp
        refine (iSet_yes _ _ _ _ _ _ _ ys _ HY.out hm1 f5.out HX2.out HV2.out).mono ?_; rintro e w6 ⟨g5, rfl, ho5, hb5⟩
        rw [HBK.out] at ho5
        have p6 := heap_later p5 hb5
        have r6 := heap_later r5 hb5
        have s6 := heap_later s5 hb5
        have k6 := cell_later hb5 k5
        have S6 := Lib.hid (show (fun w' : World => w'.cell? ⟨w2.heap.size, 0, none⟩ = some (.int .i64 W) ∧ w'.cell? ⟨w2.heap.size, 1, none⟩ = some (.int .i64 T) ∧ w'.cell? ⟨w2.heap.size, 2, none⟩ = some (.slice (some ⟨g2, 0, none⟩) m m) ∧ w'.cell? ⟨w1.heap.size, 0, none⟩ = some (.int .i64 W) ∧ w'.cell? ⟨w1.heap.size, 1, none⟩ = some (.int .i64 T) ∧ w'.cell? ⟨w1.heap.size, 2, none⟩ = some (.slice (some ⟨lb, lo, none⟩) m c) ∧ w'.cell? ⟨lb, lo + cn, none⟩ = some (.bool v)) w6 from ⟨(cells3 p6).1, (cells3 p6).2.1, (cells3 p6).2.2, (cells3 r6).1, (cells3 r6).2.1, (cells3 r6).2.2, k6⟩)
        have hlr := heap_lt pr_4
        have hlx := heap_lt px_4
        have O6 := Lib.hid ho5
        clear ho5
        have X6 := Lib.hid (x5.out.below hb5)
        have F6 := Lib.hid (f5.out.below hb5)
        have B6 := Lib.hid (below_seq BN.out hb5)
        refine hK.out _ _ (fun _ => S6.out) ?_
        clear hK K
        refine Till.take (i := 8) (v := ?_) rfl (by kernel_rfl) (by kernel_rfl) (by kernel_rfl) (by kernel_rfl) (fun _ _ _ h => nomatch h.1) (Or.inl ⟨by kernel_rfl, ?_⟩) S6.out ?_
        rotate_left
        · intro ws hsw
          obtain ⟨s1, s2, s3, s4, s5, s6, s7⟩ := hsw
          go_simp
          try with_reducible rfl
        try simp only [Act.put, List.setIfInBounds_toArray, List.set_cons_zero, List.set_cons_succ]
        refine Till.take (i := 9) (v := ?_) rfl (by kernel_rfl) (by kernel_rfl) (by kernel_rfl) (by kernel_rfl) (fun _ _ _ h => nomatch h.1) (Or.inl ⟨by kernel_rfl, ?_⟩) S6.out ?_
        rotate_left
        · intro ws hsw
          obtain ⟨s1, s2, s3, s4, s5, s6, s7⟩ := hsw
          go_simp
          try with_reducible rfl
        try simp only [Act.put, List.setIfInBounds_toArray, List.set_cons_zero, List.set_cons_succ]
        refine Till.take (i := 10) (v := ?_) rfl (by kernel_rfl) (by kernel_rfl) (by kernel_rfl) (by kernel_rfl) (fun _ _ _ h => nomatch h.1) (Or.inl ⟨by kernel_rfl, ?_⟩) S6.out ?_
        rotate_left
        · intro ws hsw
          obtain ⟨s1, s2, s3, s4, s5, s6, s7⟩ := hsw
          go_simp
          try with_reducible rfl
        try simp only [Act.put, List.setIfInBounds_toArray, List.set_cons_zero, List.set_cons_succ]
        obtain ⟨t0, t1, t2⟩ := cells3 s6
        have e0 := free3 s6 0
        have e1 := free3 s6 1
        have e2 := free3 s6 2
        refine Till.one (i := 12) (by kernel_rfl) rfl (by rfl) (fun K hK => ?_)
        go_simp
        have hlb : lb < w4.heap.size := World.block_lt_of_cell? w4 _ K4.out
        have hg2 : g2 < w4.heap.size := World.block_lt_of_cell? w4 _ (BoolsAt.cellAtS FX_4.out (i := cn) (by rw [← HY.out]; omega))
        have P7 := fun x y z => hset3 p6 (show w2.heap.size ≠ w4.heap.size by omega) x y z
        have R7 := fun x y z => hset3 r6 (show w1.heap.size ≠ w4.heap.size by omega) x y z
        have X7 := fun x y z => BoolsAt.set3o X6.out (b := w4.heap.size) (fun p e => by cases e; exact hlb) x y z
        have F7 := fun x y z => BoolsAt.set3o F6.out (b := w4.heap.size) (fun p e => by cases e; exact hg2) x y z
        refine hK.out _ _ (fun _ => ⟨(cells3 (P7 _ _ _)).1, (cells3 (P7 _ _ _)).2.1, (cells3 (P7 _ _ _)).2.2, (cells3 (R7 _ _ _)).1, (cells3 (R7 _ _ _)).2.1, (cells3 (R7 _ _ _)).2.2, ((BoolsAt.cellAtS (X7 _ _ _) HCL.out).trans (by rw [← HVV.out]))⟩) ?_
        clear hK K
        refine Till.one (i := 13) (by kernel_rfl) rfl (by rfl) (fun K hK => ?_)
        go_simp
        refine hK.out _ _ (fun h => absurd rfl h) ?_
        clear hK K
        refine Till.done (by kernel_rfl) ⟨rfl, _, _, _, _, _, _, _, _, _, _, _, _, g5, rfl, ?_, ?_, ?_, ?_, ?_⟩ _
        · exact bset3 s6
        · exact OwnsB.at (OwnsB.set3 O6.out (by simp; omega) _ _ _)
        · exact X7 _ _ _
        · exact F7 _ _ _
        · exact below_set3 B6.out (Nat.le_refl _) _ _ _
    rintro aa w5 ⟨v54, v55, v56, v57, v58, v59, v60, v61, v53, v62, v63, b6, g5, rfl, pk, G5, X5, F5, hb5⟩
    have b5 := below_seq b4 hb5
    have px_5 := heap_later px_4 hb5
    have pr_5 := heap_later pr_4 hb5
    have GG := Lib.hid G5
    have XX := Lib.hid X5
    have FF := Lib.hid F5
    clear G5 X5 F5
    clear c4_pr0 c4_pr1 c4_pr2 l4_pr c4_px0 c4_px1 c4_px2 l4_px
    obtain ⟨ck0, ck1, ck2⟩ := cells3 pk
    obtain ⟨cr0, cr1, cr2⟩ := cells3 pr_5
    obtain ⟨cx0, cx1, cx2⟩ := cells3 px_5
    have lk := heap_lt pk
    have lr := heap_lt pr_5
    have lx := heap_lt px_5
    go_wp2_with fail
    have Pk : w5.drew.heap[b6]? = some _ := pk
    have Pr : w5.drew.heap[w1.heap.size]? = some _ := pr_5
    have Px : w5.drew.heap[w2.heap.size]? = some _ := px_5
    have BX : Hid (BoolsAt w5.drew (some ⟨lb, lo, none⟩) xs) := by show BoolsAt _ _ _; exact XX.out
    have BF : Hid (BoolsAt w5.drew (some ⟨g2, 0, none⟩) ys) := by show BoolsAt _ _ _; exact FF.out
    go_region_held3 (fun w' => w'.cell? ⟨w1.heap.size, 0, none⟩ = some (.int .i64 W) ∧ w'.cell? ⟨w1.heap.size, 1, none⟩ = some (.int .i64 T) ∧ w'.cell? ⟨w1.heap.size, 2, none⟩ = some (.slice (some ⟨lb, lo, none⟩) m c) ∧ w'.cell? ⟨w2.heap.size, 0, none⟩ = some (.int .i64 W) ∧ w'.cell? ⟨w2.heap.size, 1, none⟩ = some (.int .i64 T) ∧ w'.cell? ⟨w2.heap.size, 2, none⟩ = some (.slice (some ⟨g2, 0, none⟩) m m))
      (go_keep)
      (first
        | (go_at_call 26; (with_reducible refine (iCellsMany_any _ _ _ _ _ xs _ HM.out hm1 (BX.out.below hb8)).mono ?_); rintro e w9 ⟨rfl, hb9⟩; rw [EX.out]; have Pk9 := heap_later Pk8 hb9; have Pr9 := heap_later Pr8 hb9; have Px9 := heap_later Px8 hb9; obtain ⟨ck90, ck91, ck92⟩ := cells3 Pk9; obtain ⟨cr90, cr91, cr92⟩ := cells3 Pr9; obtain ⟨cx90, cx91, cx92⟩ := cells3 Px9)
        | (go_at_call 26; (with_reducible refine (iCellsMany_any _ _ _ _ _ ys _ HY.out hm1 BF.out).mono ?_); rintro e w8 ⟨rfl, hb8⟩; rw [EY.out]; have Pk8 := heap_later Pk hb8; have Pr8 := heap_later Pr hb8; have Px8 := heap_later Px hb8; obtain ⟨ck80, ck81, ck82⟩ := cells3 Pk8; obtain ⟨cr80, cr81, cr82⟩ := cells3 Pr8; obtain ⟨cx80, cx81, cx82⟩ := cells3 Px8))
    rw [HQ.out]
    have hb9' : Below w5.heap.size w5 w9 := below_seq (below_seq (drew_below _) hb8) hb9
    have b9 := below_seq b5 hb9'
    have X9 := Lib.hid (XX.out.below hb9')
    have G9 := Lib.hid (GG.out.below hb9')
    have K9 : w9.cell? ⟨lb, lo + cn, none⟩ = some (.bool v) := (by have h9 := BoolsAt.cellAtS (X9.out) HCL.out; rw [← HVV.out] at h9; exact h9)
    have lk9 := heap_lt Pk9
    have lr9 := heap_lt Pr9
    clear ck0 ck1 ck2 cr0 cr1 cr2 cx0 cx1 cx2 ck80 ck81 ck82 cr80 cr81 cr82 cx80 cx81 cx82 lk lr lx
    clear K4
    rcases HD.out with ⟨rfl, rfl, rfl⟩ | ⟨rfl, rfl, rfl⟩ | ⟨rfl, rfl⟩
    all_goals
      clear HD
      go_wp2_with fail
      refine (sameRegion_same _ _ _ _ _ _ _ xs _ HM.out hm1 G9.out X9.out).mono ?_; rintro e w10 ⟨rfl, hb10⟩
      have r10 := heap_later Pr9 hb10
      have k10 := cell_later hb10 K9
      obtain ⟨d0, d1, d2⟩ := cells3 r10
      go_wp2
      go_ret
      exact ⟨rfl, below_seq b9 hb10⟩

end Go.Proofs.Ytlgmnceicnhhnaa
