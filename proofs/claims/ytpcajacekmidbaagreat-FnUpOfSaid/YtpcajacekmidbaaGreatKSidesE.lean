/- Contract of impl.sideFrom: a side to the east. -/
import Derived.Test.YtpcajacekmidbaaGreatKSides
namespace Go.Proofs.YtpcajacekmidbaaGreat
open Go.RowKit
set_option linter.unusedVariables false
set_option maxRecDepth 100000
set_option linter.unusedSimpArgs false

set_option maxHeartbeats 16000000 in
theorem sideFrom_east (W T : Int) (a : Option Addr) (n cap : Nat) (xs : List Bool) (k : Nat) (w : World) (hn : n = xs.length) (hW0 : 1 ≤ W) (hW1 : W ≤ 6) (hT0 : 1 ≤ T) (hT1 : T ≤ 6) (hWT : (n : Int) = W * T) (hk : (k : Int) < (W + 1) * (T + 1)) (ha : BoolsAt w a xs) :
 Calls Tryz.prog 102 #[.agg #[.int .i64 W, .int .i64 T, .slice a n cap], .int .i64 (kx W k), .int .i64 (ky W k), .int .i64 1] w fun e w' => e = .returned (.tuple #[sdV W T xs k false, .bool (sUsed W T xs k false)]) ∧ Below w.heap.size w w' := by
 obtain ⟨kx0, kx1, ky0, ke⟩ := kxy hW0 k
 have ky1 := ky_le hW0 hk
 have HN := Lib.hid hn; clear hn
 have HA := Lib.hid ha; clear ha
 have HWT := Lib.hid hWT; clear hWT
 obtain ⟨wA, hwA⟩ : ∃ wA, wA = (w.alloc (.cells #[.int .i64 W, .int .i64 T, .slice a n cap] 25)).alloc (Obj.cells #[.int .i64 0, .int .i64 0, .int .i64 0, .bool false, .int .i64 0, .int .i64 0] 77) := ⟨_, rfl⟩
 have pA : wA.heap[w.heap.size]? = some (.cells #[.int .i64 W, .int .i64 T, .slice a n cap] 25 (0, 0)) := by rw [hwA]; exact heap_later (heap_new _ _) (below1 _ _)
 have zA : wA.heap[w.heap.size + 1]? = some (Obj.cells #[.int .i64 0, .int .i64 0, .int .i64 0, .bool false, .int .i64 0, .int .i64 0] 77 (0, 0)) := by rw [hwA]; have := heap_new (w.alloc (.cells #[.int .i64 W, .int .i64 T, .slice a n cap] 25)) (Obj.cells #[.int .i64 0, .int .i64 0, .int .i64 0, .bool false, .int .i64 0, .int .i64 0] 77); simpa using this
 have bA : Below w.heap.size w wA := by rw [hwA]; exact below2 _ _ _
 have AA : Hid (BoolsAt wA a xs) := HA.out.below bA
 obtain ⟨d0, d1, d2⟩ := cells3 pA
 obtain ⟨L, hL⟩ : ∃ L, sLeft W T xs k false = L := ⟨_, rfl⟩
 obtain ⟨R, hR⟩ : ∃ R, sRight W T xs k false = R := ⟨_, rfl⟩
 obtain ⟨D, hD⟩ : ∃ D, sDark W k false = D := ⟨_, rfl⟩
 have hcell : L = true → 0 ≤ ky W k * W ∧ ky W k * W ≤ 100000 ∧ 0 ≤ sLx W k false := fun h => by
  rw [h] at hL
  have hin := atB_in hL
  obtain ⟨i0, i1, i2⟩ := idx_bd (W := W) (T := T) hin.1 hin.2.1 hin.2.2.1 hin.2.2.2
  have pb := (prod_bd (W := W) (T := T) (by omega) (by omega) (by omega) (by omega)).2
  exact ⟨i0, by have := hin.1; omega, hin.1⟩
 have eV : Hid (sdV W T xs k false = .agg #[.int .i64 k, .int .i64 ((k : Int) + 1), .int .i64 (if D then 1 else -1), .bool (L && R), .int .i64 (if L && R then ky W k * W + sLx W k false else 0), .int .i64 (if L && R then 4 else 0)]) := by
  show _ = _; unfold sdV sRise sBoth sCell; rw [hL, hR, hD]; rfl
 have eU : Hid (sUsed W T xs k false = (L || R)) := by show _ = _; unfold sUsed; rw [hL, hR]
 rw [eV.out, eU.out]
 have hL' : atB W T xs (kx W k) (ky W k) = L := hL
 have hR' : atB W T xs (kx W k) (ky W k - 1) = R := hR
 have hD' : decide ((kx W k + ky W k + 2) % 2 = 0) = D := hD
 have hsl : sLx W k false = kx W k := rfl
 rw [hsl] at hcell ⊢
 clear eV eU hL hR hD hsl
 obtain ⟨x, hx⟩ : ∃ x, kx W k = x := ⟨_, rfl⟩
 obtain ⟨y, hy⟩ : ∃ y, ky W k = y := ⟨_, rfl⟩
 rw [hx, hy] at hL' hR' hD' ke hcell ⊢
 rw [hx] at kx0 kx1
 rw [hy] at ky0 ky1
 clear hx hy
 have yW : 0 ≤ y * (W + 1) := Int.mul_nonneg ky0 (by omega)
 have yW1 : y * (W + 1) ≤ 1000 := by
  have : y * (W + 1) ≤ 6 * (W + 1) := Int.mul_le_mul_of_nonneg_right (by omega) (by omega)
  omega
 have yV : 0 ≤ (y + 1) * (W + 1) := Int.mul_nonneg (by omega) (by omega)
 have yV1 : (y + 1) * (W + 1) ≤ 2000 := by
  rw [Int.add_mul]; omega
 have E1 : Hid (y * (W + 1) + x = (k : Int)) := ke
 have E2 : Hid (y * (W + 1) + (x + 1) = (k : Int) + 1) := by show _ = _; omega
 clear ke hk
 have HL := Lib.hid hL'; have HR := Lib.hid hR'; have HD := Lib.hid hD'; clear hL' hR' hD'
 have HC := Lib.hid hcell; clear hcell
 go_enter Tryz.func102, Tryz.ntmps102
 go_wp2_with fail
 refine (stepOf_any _ _).mono ?_; rintro e w1 ⟨rfl, rfl⟩
 rw [show dxOf 1 = 1 from rfl, show dyOf 1 = 0 from rfl, show okOf 1 = true from rfl, ← hwA]
 clear hwA
 go_wp2
 have PA : wA.drew.heap[w.heap.size]? = some _ := pA
 have ZA : wA.drew.heap[w.heap.size + 1]? = some _ := zA
 go_region_held3 (fun w' => w'.cell? ⟨w.heap.size, 0, none⟩ = some (.int .i64 W) ∧ w'.cell? ⟨w.heap.size, 1, none⟩ = some (.int .i64 T) ∧ w'.cell? ⟨w.heap.size, 2, none⟩ = some (.slice a n cap))
  (go_keep)
  (first
    | (go_at_call 110; refine (hasCell_any _ _ _ _ _ _ _ xs _ HN.out (by omega) (by omega) (by omega) (by omega) HWT.out ((show BoolsAt wA.drew _ _ from AA.out).below hb3)).mono ?_; rintro e w4 ⟨rfl, hb4⟩; have p4 := heap_later p3 hb4; have z4 := heap_later z3 hb4; obtain ⟨c40, c41, c42⟩ := cells3 p4)
    | (go_at_call 110; refine (hasCell_any _ _ _ _ _ _ _ xs _ HN.out (by omega) (by omega) (by omega) (by omega) HWT.out (show BoolsAt wA.drew _ _ from AA.out)).mono ?_; rintro e w3 ⟨rfl, hb3⟩; have p3 := heap_later PA hb3; have z3 := heap_later ZA hb3; obtain ⟨c30, c31, c32⟩ := cells3 p3))
 rw [HL.out, HR.out]
 have b4 := Lib.hid (below_seq bA (below_seq (drew_below _) (below_seq hb3 hb4)))
 clear p3 z3 c30 c31 c32 hb3 hb4 PA ZA d0 d1 d2 c40 c41 c42
 go_upto_region 4 with fail
 go_cut [17] (AtSide w W T a n cap k ((k : Int) + 1) (L && R))
 case first =>
  obtain ⟨c40, c41, c42⟩ := cells3 p4
  have s1 : IntKind.i64.wrap (x + 1) = x + 1 := by rw [IntKind.wrap_i64]; omega
  have s2 : IntKind.i64.wrap (y + 1) = y + 1 := by rw [IntKind.wrap_i64]; omega
  have s3 : IntKind.i64.wrap x = x := by rw [IntKind.wrap_i64]; omega
  have s4 : IntKind.i64.wrap y = y := by rw [IntKind.wrap_i64]; omega
  have s5 : 0 ≤ x + 1 := by omega
  have s6 : x + 1 ≤ 1000 := by omega
  have P4 : w4.drew.heap[w.heap.size]? = some _ := p4
  have Z4 : w4.drew.heap[w.heap.size + 1]? = some _ := z4
  have B4 : Below w.heap.size w w4.drew := below_seq b4.out (drew_below _)
  cases L
  · refine wp_region_held_drew (S := (fun w' : World => w'.cell? ⟨w.heap.size, 0, none⟩ = some (.int .i64 W) ∧ w'.cell? ⟨w.heap.size, 1, none⟩ = some (.int .i64 T) ∧ w'.cell? ⟨w.heap.size, 2, none⟩ = some (.slice a n cap))) (by kernel_rfl) (by first | go_keep | (dsimp only; go_keep)) (fun hHeld => ?_)
    refine wpAnyH_take (i := 0) (oi := _) (v := ?_) rfl (by kernel_rfl) (by kernel_rfl) (by kernel_rfl) (fun _ _ _ h => h) (Or.inl ⟨by rfl, ?_⟩) (by assumption) ?_
    rotate_left
    · (intro w' hSw; (try dsimp only at hSw); go_simp; try with_reducible rfl)
    try simp only [Act.put, List.setIfInBounds_toArray, List.set_cons_zero, List.set_cons_succ, List.getElem_toArray, List.getElem_cons_zero, List.getElem_cons_succ]
    refine wpAnyH_take (i := 1) (oi := _) (v := ?_) rfl (by kernel_rfl) (by kernel_rfl) (by kernel_rfl) (fun _ _ _ h => h) (Or.inl ⟨by rfl, ?_⟩) (by assumption) ?_
    rotate_left
    · (intro w' hSw; (try dsimp only at hSw); go_simp; try with_reducible rfl)
    try simp only [Act.put, List.setIfInBounds_toArray, List.set_cons_zero, List.set_cons_succ, List.getElem_toArray, List.getElem_cons_zero, List.getElem_cons_succ]
    refine wpAnyH_take (i := 2) (oi := _) (v := ?_) rfl (by kernel_rfl) (by kernel_rfl) (by kernel_rfl) (fun _ _ _ h => h) (Or.inl ⟨by rfl, ?_⟩) (by assumption) ?_
    rotate_left
    · (intro w' hSw; (try dsimp only at hSw); go_simp; try with_reducible rfl)
    try simp only [Act.put, List.setIfInBounds_toArray, List.set_cons_zero, List.set_cons_succ, List.getElem_toArray, List.getElem_cons_zero, List.getElem_cons_succ]
    refine wpAnyH_take (i := 4) (oi := _) (v := ?_) rfl (by kernel_rfl) (by kernel_rfl) (by kernel_rfl) (fun _ _ _ h => h) (Or.inl ⟨by rfl, ?_⟩) (by assumption) ?_
    rotate_left
    · (intro w' hSw; (try dsimp only at hSw); go_simp; try with_reducible rfl)
    try simp only [Act.put, List.setIfInBounds_toArray, List.set_cons_zero, List.set_cons_succ, List.getElem_toArray, List.getElem_cons_zero, List.getElem_cons_succ]
    refine wpAnyH_take (i := 5) (oi := _) (v := ?_) rfl (by kernel_rfl) (by kernel_rfl) (by kernel_rfl) (fun _ _ _ h => h) (Or.inl ⟨by rfl, ?_⟩) (by assumption) ?_
    rotate_left
    · (intro w' hSw; (try dsimp only at hSw); go_simp; try with_reducible rfl)
    try simp only [Act.put, List.setIfInBounds_toArray, List.set_cons_zero, List.set_cons_succ, List.getElem_toArray, List.getElem_cons_zero, List.getElem_cons_succ]
    refine wpAnyH_take (i := 6) (oi := _) (v := ?_) rfl (by kernel_rfl) (by kernel_rfl) (by kernel_rfl) (fun _ _ _ h => h) (Or.inl ⟨by rfl, ?_⟩) (by assumption) ?_
    rotate_left
    · (intro w' hSw; (try dsimp only at hSw); go_simp; try with_reducible rfl)
    try simp only [Act.put, List.setIfInBounds_toArray, List.set_cons_zero, List.set_cons_succ, List.getElem_toArray, List.getElem_cons_zero, List.getElem_cons_succ]
    refine wpAnyH_take (i := 7) (oi := _) (v := ?_) rfl (by kernel_rfl) (by kernel_rfl) (by kernel_rfl) (fun _ _ _ h => h) (Or.inl ⟨by rfl, ?_⟩) (by assumption) ?_
    rotate_left
    · (intro w' hSw; (try dsimp only at hSw); go_simp; try with_reducible rfl)
    try simp only [Act.put, List.setIfInBounds_toArray, List.set_cons_zero, List.set_cons_succ, List.getElem_toArray, List.getElem_cons_zero, List.getElem_cons_succ]
    refine wpAnyH_take (i := 8) (oi := _) (v := ?_) rfl (by kernel_rfl) (by kernel_rfl) (by kernel_rfl) (fun _ _ _ h => h) (Or.inl ⟨by rfl, ?_⟩) (by assumption) ?_
    rotate_left
    · (intro w' hSw; (try dsimp only at hSw); go_simp; try with_reducible rfl)
    try simp only [Act.put, List.setIfInBounds_toArray, List.set_cons_zero, List.set_cons_succ, List.getElem_toArray, List.getElem_cons_zero, List.getElem_cons_succ]
    refine wpAnyH_take (i := 9) (oi := _) (v := ?_) rfl (by kernel_rfl) (by kernel_rfl) (by kernel_rfl) (fun _ _ _ h => h) (Or.inl ⟨by rfl, ?_⟩) (by assumption) ?_
    rotate_left
    · (intro w' hSw; (try dsimp only at hSw); go_simp; try with_reducible rfl)
    try simp only [Act.put, List.setIfInBounds_toArray, List.set_cons_zero, List.set_cons_succ, List.getElem_toArray, List.getElem_cons_zero, List.getElem_cons_succ]
    refine wpAnyH_take (i := 10) (oi := _) (v := ?_) rfl (by kernel_rfl) (by kernel_rfl) (by kernel_rfl) (fun _ _ _ h => h) (Or.inl ⟨by rfl, ?_⟩) (by assumption) ?_
    rotate_left
    · (intro w' hSw; (try dsimp only at hSw); go_simp; try with_reducible rfl)
    try simp only [Act.put, List.setIfInBounds_toArray, List.set_cons_zero, List.set_cons_succ, List.getElem_toArray, List.getElem_cons_zero, List.getElem_cons_succ]
    refine wpAnyH_take (i := 12) (oi := _) (v := ?_) rfl (by kernel_rfl) (by kernel_rfl) (by kernel_rfl) (fun _ _ _ h => h) (Or.inl ⟨by rfl, ?_⟩) (by assumption) ?_
    rotate_left
    · (intro w' hSw; (try dsimp only at hSw); go_simp; try with_reducible rfl)
    try simp only [Act.put, List.setIfInBounds_toArray, List.set_cons_zero, List.set_cons_succ, List.getElem_toArray, List.getElem_cons_zero, List.getElem_cons_succ]
    refine wpAnyH_ready (rs := [3, 17]) (by kernel_rfl) (by simp) ?_
    refine AllReadyH.cons (o := _) rfl (fun K hK => ?_) (AllReadyH.cons (o := _) rfl (fun K hK => ?_) (AllReadyH.nil))
    · go_simp
      go_at_call 117
      refine (cornerAt_any _ _ _ _ _ _ hW0 hW1 (by first | assumption | omega) (by first | assumption | omega) (by first | assumption | omega) (by first | assumption | omega)).mono ?_
      rintro e v1 ⟨rfl, hv1⟩
      have P1 := heap_later P4 hv1
      have Z1 := heap_later Z4 hv1
      have B1 := below_seq B4 hv1
      obtain ⟨cP10, cP11, cP12⟩ := cells3 P1
      refine hK _ _ (by first | go_keep | (dsimp only; go_keep)) (fun hH1 => ?_)
      clear hK K
      try simp only [Act.put, List.setIfInBounds_toArray, List.set_cons_zero, List.set_cons_succ, List.getElem_toArray, List.getElem_cons_zero, List.getElem_cons_succ]
      refine wpAnyH_ready (rs := [11, 17]) (by kernel_rfl) (by simp) ?_
      refine AllReadyH.cons (o := _) rfl (fun K hK => ?_) (AllReadyH.cons (o := _) rfl (fun K hK => ?_) (AllReadyH.nil))
      · go_simp
        go_at_call 117
        refine (cornerAt_any _ _ _ _ _ _ hW0 hW1 (by first | assumption | omega) (by first | assumption | omega) (by first | assumption | omega) (by first | assumption | omega)).mono ?_
        rintro e v2 ⟨rfl, hv2⟩
        have P2 := heap_later P1 hv2
        have Z2 := heap_later Z1 hv2
        have B2 := below_seq B1 hv2
        obtain ⟨cP20, cP21, cP22⟩ := cells3 P2
        refine hK _ _ (by first | go_keep | (dsimp only; go_keep)) (fun hH2 => ?_)
        clear hK K
        try simp only [Act.put, List.setIfInBounds_toArray, List.set_cons_zero, List.set_cons_succ, List.getElem_toArray, List.getElem_cons_zero, List.getElem_cons_succ]
        refine wpAnyH_take (i := 13) (oi := _) (v := ?_) rfl (by kernel_rfl) (by kernel_rfl) (by kernel_rfl) (fun _ _ _ h => h) (Or.inl ⟨by rfl, ?_⟩) (by assumption) ?_
        rotate_left
        · (intro w' hSw; (try dsimp only at hSw); go_simp; try with_reducible rfl)
        try simp only [Act.put, List.setIfInBounds_toArray, List.set_cons_zero, List.set_cons_succ, List.getElem_toArray, List.getElem_cons_zero, List.getElem_cons_succ]
        refine wpAnyH_take (i := 14) (oi := _) (v := undef) rfl (by kernel_rfl) (by kernel_rfl) (by kernel_rfl) (fun _ _ _ h => h) (Or.inr ⟨by rfl, rfl⟩) (by assumption) ?_
        try simp only [Act.put, List.setIfInBounds_toArray, List.set_cons_zero, List.set_cons_succ, List.getElem_toArray, List.getElem_cons_zero, List.getElem_cons_succ]
        refine wpAnyH_take (i := 15) (oi := _) (v := ?_) rfl (by kernel_rfl) (by kernel_rfl) (by kernel_rfl) (fun _ _ _ h => h) (Or.inl ⟨by rfl, ?_⟩) (by assumption) ?_
        rotate_left
        · (intro w' hSw; (try dsimp only at hSw); go_simp; try with_reducible rfl)
        try simp only [Act.put, List.setIfInBounds_toArray, List.set_cons_zero, List.set_cons_succ, List.getElem_toArray, List.getElem_cons_zero, List.getElem_cons_succ]
        refine wpAnyH_take (i := 16) (oi := _) (v := ?_) rfl (by kernel_rfl) (by kernel_rfl) (by kernel_rfl) (fun _ _ _ h => h) (Or.inl ⟨by rfl, ?_⟩) (by assumption) ?_
        rotate_left
        · (intro w' hSw; (try dsimp only at hSw); go_simp; try with_reducible rfl)
        try simp only [Act.put, List.setIfInBounds_toArray, List.set_cons_zero, List.set_cons_succ, List.getElem_toArray, List.getElem_cons_zero, List.getElem_cons_succ]
        refine wpAnyH_ready (rs := [17]) (by kernel_rfl) (by simp) ?_
        refine AllReadyH.cons (o := _) rfl (fun K hK => ?_) (AllReadyH.nil)
        go_simp
        refine hK _ _ (by first | go_keep | (dsimp only; go_keep)) (fun hH3 => ?_)
        clear hK K
        try simp only [Act.put, List.setIfInBounds_toArray, List.set_cons_zero, List.set_cons_succ, List.getElem_toArray, List.getElem_cons_zero, List.getElem_cons_succ]
        have P3 := heap_later P2 (below1 _ (Obj.cells #[.int .i64 0, .int .i64 0, .int .i64 0, .bool false, .int .i64 0, .int .i64 0] 77))
        have Z3 := heap_later Z2 (below1 _ (Obj.cells #[.int .i64 0, .int .i64 0, .int .i64 0, .bool false, .int .i64 0, .int .i64 0] 77))
        have Q3 : ((v2).alloc (Obj.cells #[.int .i64 0, .int .i64 0, .int .i64 0, .bool false, .int .i64 0, .int .i64 0] 77)).heap[v2.heap.size]? = some (Obj.cells #[.int .i64 0, .int .i64 0, .int .i64 0, .bool false, .int .i64 0, .int .i64 0] 77 (0, 0)) := heap_new (v2) (Obj.cells #[.int .i64 0, .int .i64 0, .int .i64 0, .bool false, .int .i64 0, .int .i64 0] 77)
        have LP : w.heap.size < v2.heap.size := heap_lt P2
        have LZ : w.heap.size + 1 < v2.heap.size := heap_lt Z2
        have N1 : ¬ v2.heap.size = w.heap.size := by omega
        have N2 : ¬ w.heap.size = v2.heap.size := by omega
        have B3 := below_seq B2 (below1 _ (Obj.cells #[.int .i64 0, .int .i64 0, .int .i64 0, .bool false, .int .i64 0, .int .i64 0] 77))
        have hq1 := heap_lt Q3
        obtain ⟨q0, q1, q2, q3, q4, q5⟩ := cells6 Q3
        have fz0 := free3 Q3 0
        have fz1 := free3 Q3 1
        have fz2 := free3 Q3 2
        have fz3 := free3 Q3 3
        have fz4 := free3 Q3 4
        have fz5 := free3 Q3 5
        refine wpAnyH_ready (rs := [18]) (by kernel_rfl) (by simp) ?_
        refine AllReadyH.cons (o := _) rfl (fun K hK => ?_) AllReadyH.nil
        go_simp
        refine hK _ _ (by first | go_keep | (dsimp only; go_keep)) (fun hH0 => ?_)
        clear hK K
        try simp only [Act.put, List.setIfInBounds_toArray, List.set_cons_zero, List.set_cons_succ, List.getElem_toArray, List.getElem_cons_zero, List.getElem_cons_succ]
        refine wpAnyH_done (by kernel_rfl) ?_ _
        go_wp2
        rw [E1.out, E2.out]
        go_meet
        exact ⟨_, rfl, side_new P2 Z2 _ _ _ _ _ _, below_seq B2 (below1 _ _)⟩
      · go_simp
        refine hK _ _ (by first | go_keep | (dsimp only; go_keep)) (fun hH4 => ?_)
        clear hK K
        try simp only [Act.put, List.setIfInBounds_toArray, List.set_cons_zero, List.set_cons_succ, List.getElem_toArray, List.getElem_cons_zero, List.getElem_cons_succ]
        have P4 := heap_later P1 (below1 _ (Obj.cells #[.int .i64 0, .int .i64 0, .int .i64 0, .bool false, .int .i64 0, .int .i64 0] 77))
        have Z4 := heap_later Z1 (below1 _ (Obj.cells #[.int .i64 0, .int .i64 0, .int .i64 0, .bool false, .int .i64 0, .int .i64 0] 77))
        have Q4 : ((v1).alloc (Obj.cells #[.int .i64 0, .int .i64 0, .int .i64 0, .bool false, .int .i64 0, .int .i64 0] 77)).heap[v1.heap.size]? = some (Obj.cells #[.int .i64 0, .int .i64 0, .int .i64 0, .bool false, .int .i64 0, .int .i64 0] 77 (0, 0)) := heap_new (v1) (Obj.cells #[.int .i64 0, .int .i64 0, .int .i64 0, .bool false, .int .i64 0, .int .i64 0] 77)
        have LP : w.heap.size < v1.heap.size := heap_lt P1
        have LZ : w.heap.size + 1 < v1.heap.size := heap_lt Z1
        have N1 : ¬ v1.heap.size = w.heap.size := by omega
        have N2 : ¬ w.heap.size = v1.heap.size := by omega
        have B4 := below_seq B1 (below1 _ (Obj.cells #[.int .i64 0, .int .i64 0, .int .i64 0, .bool false, .int .i64 0, .int .i64 0] 77))
        refine wpAnyH_ready (rs := [11]) (by kernel_rfl) (by simp) ?_
        refine AllReadyH.cons (o := _) rfl (fun K hK => ?_) (AllReadyH.nil)
        go_simp
        go_at_call 117
        refine (cornerAt_any _ _ _ _ _ _ hW0 hW1 (by first | assumption | omega) (by first | assumption | omega) (by first | assumption | omega) (by first | assumption | omega)).mono ?_
        rintro e v5 ⟨rfl, hv5⟩
        have P5 := heap_later P4 hv5
        have Z5 := heap_later Z4 hv5
        have Q5 := heap_later Q4 hv5
        have B5 := below_seq B4 hv5
        obtain ⟨cP50, cP51, cP52⟩ := cells3 P5
        refine hK _ _ (by first | go_keep | (dsimp only; go_keep)) (fun hH5 => ?_)
        clear hK K
        try simp only [Act.put, List.setIfInBounds_toArray, List.set_cons_zero, List.set_cons_succ, List.getElem_toArray, List.getElem_cons_zero, List.getElem_cons_succ]
        refine wpAnyH_take (i := 13) (oi := _) (v := ?_) rfl (by kernel_rfl) (by kernel_rfl) (by kernel_rfl) (fun _ _ _ h => h) (Or.inl ⟨by rfl, ?_⟩) (by assumption) ?_
        rotate_left
        · (intro w' hSw; (try dsimp only at hSw); go_simp; try with_reducible rfl)
        try simp only [Act.put, List.setIfInBounds_toArray, List.set_cons_zero, List.set_cons_succ, List.getElem_toArray, List.getElem_cons_zero, List.getElem_cons_succ]
        refine wpAnyH_take (i := 14) (oi := _) (v := undef) rfl (by kernel_rfl) (by kernel_rfl) (by kernel_rfl) (fun _ _ _ h => h) (Or.inr ⟨by rfl, rfl⟩) (by assumption) ?_
        try simp only [Act.put, List.setIfInBounds_toArray, List.set_cons_zero, List.set_cons_succ, List.getElem_toArray, List.getElem_cons_zero, List.getElem_cons_succ]
        refine wpAnyH_take (i := 15) (oi := _) (v := ?_) rfl (by kernel_rfl) (by kernel_rfl) (by kernel_rfl) (fun _ _ _ h => h) (Or.inl ⟨by rfl, ?_⟩) (by assumption) ?_
        rotate_left
        · (intro w' hSw; (try dsimp only at hSw); go_simp; try with_reducible rfl)
        try simp only [Act.put, List.setIfInBounds_toArray, List.set_cons_zero, List.set_cons_succ, List.getElem_toArray, List.getElem_cons_zero, List.getElem_cons_succ]
        refine wpAnyH_take (i := 16) (oi := _) (v := ?_) rfl (by kernel_rfl) (by kernel_rfl) (by kernel_rfl) (fun _ _ _ h => h) (Or.inl ⟨by rfl, ?_⟩) (by assumption) ?_
        rotate_left
        · (intro w' hSw; (try dsimp only at hSw); go_simp; try with_reducible rfl)
        try simp only [Act.put, List.setIfInBounds_toArray, List.set_cons_zero, List.set_cons_succ, List.getElem_toArray, List.getElem_cons_zero, List.getElem_cons_succ]
        have hq1 := heap_lt Q5
        obtain ⟨q0, q1, q2, q3, q4, q5⟩ := cells6 Q5
        have fz0 := free3 Q5 0
        have fz1 := free3 Q5 1
        have fz2 := free3 Q5 2
        have fz3 := free3 Q5 3
        have fz4 := free3 Q5 4
        have fz5 := free3 Q5 5
        refine wpAnyH_ready (rs := [18]) (by kernel_rfl) (by simp) ?_
        refine AllReadyH.cons (o := _) rfl (fun K hK => ?_) AllReadyH.nil
        go_simp
        refine hK _ _ (by first | go_keep | (dsimp only; go_keep)) (fun hH0 => ?_)
        clear hK K
        try simp only [Act.put, List.setIfInBounds_toArray, List.set_cons_zero, List.set_cons_succ, List.getElem_toArray, List.getElem_cons_zero, List.getElem_cons_succ]
        refine wpAnyH_done (by kernel_rfl) ?_ _
        go_wp2
        rw [E1.out, E2.out]
        go_meet
        exact ⟨_, rfl, side_six Q5 P5 Z5 LZ _ _ _ _ _ _, below_six B5 (by omega) _ _ _ _ _ _⟩
    · go_simp
      refine hK _ _ (by first | go_keep | (dsimp only; go_keep)) (fun hH6 => ?_)
      clear hK K
      try simp only [Act.put, List.setIfInBounds_toArray, List.set_cons_zero, List.set_cons_succ, List.getElem_toArray, List.getElem_cons_zero, List.getElem_cons_succ]
      have P6 := heap_later P4 (below1 _ (Obj.cells #[.int .i64 0, .int .i64 0, .int .i64 0, .bool false, .int .i64 0, .int .i64 0] 77))
      have Z6 := heap_later Z4 (below1 _ (Obj.cells #[.int .i64 0, .int .i64 0, .int .i64 0, .bool false, .int .i64 0, .int .i64 0] 77))
      have Q6 : ((w4.drew).alloc (Obj.cells #[.int .i64 0, .int .i64 0, .int .i64 0, .bool false, .int .i64 0, .int .i64 0] 77)).heap[w4.heap.size]? = some (Obj.cells #[.int .i64 0, .int .i64 0, .int .i64 0, .bool false, .int .i64 0, .int .i64 0] 77 (0, 0)) := heap_new (w4.drew) (Obj.cells #[.int .i64 0, .int .i64 0, .int .i64 0, .bool false, .int .i64 0, .int .i64 0] 77)
      have LP : w.heap.size < w4.heap.size := heap_lt P4
      have LZ : w.heap.size + 1 < w4.heap.size := heap_lt Z4
      have N1 : ¬ w4.heap.size = w.heap.size := by omega
      have N2 : ¬ w.heap.size = w4.heap.size := by omega
      have B6 := below_seq B4 (below1 _ (Obj.cells #[.int .i64 0, .int .i64 0, .int .i64 0, .bool false, .int .i64 0, .int .i64 0] 77))
      refine wpAnyH_ready (rs := [3]) (by kernel_rfl) (by simp) ?_
      refine AllReadyH.cons (o := _) rfl (fun K hK => ?_) (AllReadyH.nil)
      go_simp
      go_at_call 117
      refine (cornerAt_any _ _ _ _ _ _ hW0 hW1 (by first | assumption | omega) (by first | assumption | omega) (by first | assumption | omega) (by first | assumption | omega)).mono ?_
      rintro e v7 ⟨rfl, hv7⟩
      have P7 := heap_later P6 hv7
      have Z7 := heap_later Z6 hv7
      have Q7 := heap_later Q6 hv7
      have B7 := below_seq B6 hv7
      obtain ⟨cP70, cP71, cP72⟩ := cells3 P7
      refine hK _ _ (by first | go_keep | (dsimp only; go_keep)) (fun hH7 => ?_)
      clear hK K
      try simp only [Act.put, List.setIfInBounds_toArray, List.set_cons_zero, List.set_cons_succ, List.getElem_toArray, List.getElem_cons_zero, List.getElem_cons_succ]
      refine wpAnyH_ready (rs := [11]) (by kernel_rfl) (by simp) ?_
      refine AllReadyH.cons (o := _) rfl (fun K hK => ?_) (AllReadyH.nil)
      go_simp
      go_at_call 117
      refine (cornerAt_any _ _ _ _ _ _ hW0 hW1 (by first | assumption | omega) (by first | assumption | omega) (by first | assumption | omega) (by first | assumption | omega)).mono ?_
      rintro e v8 ⟨rfl, hv8⟩
      have P8 := heap_later P7 hv8
      have Z8 := heap_later Z7 hv8
      have Q8 := heap_later Q7 hv8
      have B8 := below_seq B7 hv8
      obtain ⟨cP80, cP81, cP82⟩ := cells3 P8
      refine hK _ _ (by first | go_keep | (dsimp only; go_keep)) (fun hH8 => ?_)
      clear hK K
      try simp only [Act.put, List.setIfInBounds_toArray, List.set_cons_zero, List.set_cons_succ, List.getElem_toArray, List.getElem_cons_zero, List.getElem_cons_succ]
      refine wpAnyH_take (i := 13) (oi := _) (v := ?_) rfl (by kernel_rfl) (by kernel_rfl) (by kernel_rfl) (fun _ _ _ h => h) (Or.inl ⟨by rfl, ?_⟩) (by assumption) ?_
      rotate_left
      · (intro w' hSw; (try dsimp only at hSw); go_simp; try with_reducible rfl)
      try simp only [Act.put, List.setIfInBounds_toArray, List.set_cons_zero, List.set_cons_succ, List.getElem_toArray, List.getElem_cons_zero, List.getElem_cons_succ]
      refine wpAnyH_take (i := 14) (oi := _) (v := undef) rfl (by kernel_rfl) (by kernel_rfl) (by kernel_rfl) (fun _ _ _ h => h) (Or.inr ⟨by rfl, rfl⟩) (by assumption) ?_
      try simp only [Act.put, List.setIfInBounds_toArray, List.set_cons_zero, List.set_cons_succ, List.getElem_toArray, List.getElem_cons_zero, List.getElem_cons_succ]
      refine wpAnyH_take (i := 15) (oi := _) (v := ?_) rfl (by kernel_rfl) (by kernel_rfl) (by kernel_rfl) (fun _ _ _ h => h) (Or.inl ⟨by rfl, ?_⟩) (by assumption) ?_
      rotate_left
      · (intro w' hSw; (try dsimp only at hSw); go_simp; try with_reducible rfl)
      try simp only [Act.put, List.setIfInBounds_toArray, List.set_cons_zero, List.set_cons_succ, List.getElem_toArray, List.getElem_cons_zero, List.getElem_cons_succ]
      refine wpAnyH_take (i := 16) (oi := _) (v := ?_) rfl (by kernel_rfl) (by kernel_rfl) (by kernel_rfl) (fun _ _ _ h => h) (Or.inl ⟨by rfl, ?_⟩) (by assumption) ?_
      rotate_left
      · (intro w' hSw; (try dsimp only at hSw); go_simp; try with_reducible rfl)
      try simp only [Act.put, List.setIfInBounds_toArray, List.set_cons_zero, List.set_cons_succ, List.getElem_toArray, List.getElem_cons_zero, List.getElem_cons_succ]
      have hq1 := heap_lt Q8
      obtain ⟨q0, q1, q2, q3, q4, q5⟩ := cells6 Q8
      have fz0 := free3 Q8 0
      have fz1 := free3 Q8 1
      have fz2 := free3 Q8 2
      have fz3 := free3 Q8 3
      have fz4 := free3 Q8 4
      have fz5 := free3 Q8 5
      refine wpAnyH_ready (rs := [18]) (by kernel_rfl) (by simp) ?_
      refine AllReadyH.cons (o := _) rfl (fun K hK => ?_) AllReadyH.nil
      go_simp
      refine hK _ _ (by first | go_keep | (dsimp only; go_keep)) (fun hH0 => ?_)
      clear hK K
      try simp only [Act.put, List.setIfInBounds_toArray, List.set_cons_zero, List.set_cons_succ, List.getElem_toArray, List.getElem_cons_zero, List.getElem_cons_succ]
      refine wpAnyH_done (by kernel_rfl) ?_ _
      go_wp2
      rw [E1.out, E2.out]
      go_meet
      exact ⟨_, rfl, side_six Q8 P8 Z8 LZ _ _ _ _ _ _, below_six B8 (by omega) _ _ _ _ _ _⟩
  · refine wp_region_held_drew (S := (fun w' : World => w'.cell? ⟨w.heap.size, 0, none⟩ = some (.int .i64 W) ∧ w'.cell? ⟨w.heap.size, 1, none⟩ = some (.int .i64 T) ∧ w'.cell? ⟨w.heap.size, 2, none⟩ = some (.slice a n cap))) (by kernel_rfl) (by first | go_keep | (dsimp only; go_keep)) (fun hHeld => ?_)
    refine wpAnyH_take (i := 0) (oi := _) (v := ?_) rfl (by kernel_rfl) (by kernel_rfl) (by kernel_rfl) (fun _ _ _ h => h) (Or.inl ⟨by rfl, ?_⟩) (by assumption) ?_
    rotate_left
    · (intro w' hSw; (try dsimp only at hSw); go_simp; try with_reducible rfl)
    try simp only [Act.put, List.setIfInBounds_toArray, List.set_cons_zero, List.set_cons_succ, List.getElem_toArray, List.getElem_cons_zero, List.getElem_cons_succ]
    refine wpAnyH_take (i := 1) (oi := _) (v := ?_) rfl (by kernel_rfl) (by kernel_rfl) (by kernel_rfl) (fun _ _ _ h => h) (Or.inl ⟨by rfl, ?_⟩) (by assumption) ?_
    rotate_left
    · (intro w' hSw; (try dsimp only at hSw); go_simp; try with_reducible rfl)
    try simp only [Act.put, List.setIfInBounds_toArray, List.set_cons_zero, List.set_cons_succ, List.getElem_toArray, List.getElem_cons_zero, List.getElem_cons_succ]
    refine wpAnyH_take (i := 2) (oi := _) (v := ?_) rfl (by kernel_rfl) (by kernel_rfl) (by kernel_rfl) (fun _ _ _ h => h) (Or.inl ⟨by rfl, ?_⟩) (by assumption) ?_
    rotate_left
    · (intro w' hSw; (try dsimp only at hSw); go_simp; try with_reducible rfl)
    try simp only [Act.put, List.setIfInBounds_toArray, List.set_cons_zero, List.set_cons_succ, List.getElem_toArray, List.getElem_cons_zero, List.getElem_cons_succ]
    refine wpAnyH_take (i := 4) (oi := _) (v := ?_) rfl (by kernel_rfl) (by kernel_rfl) (by kernel_rfl) (fun _ _ _ h => h) (Or.inl ⟨by rfl, ?_⟩) (by assumption) ?_
    rotate_left
    · (intro w' hSw; (try dsimp only at hSw); go_simp; try with_reducible rfl)
    try simp only [Act.put, List.setIfInBounds_toArray, List.set_cons_zero, List.set_cons_succ, List.getElem_toArray, List.getElem_cons_zero, List.getElem_cons_succ]
    refine wpAnyH_take (i := 5) (oi := _) (v := ?_) rfl (by kernel_rfl) (by kernel_rfl) (by kernel_rfl) (fun _ _ _ h => h) (Or.inl ⟨by rfl, ?_⟩) (by assumption) ?_
    rotate_left
    · (intro w' hSw; (try dsimp only at hSw); go_simp; try with_reducible rfl)
    try simp only [Act.put, List.setIfInBounds_toArray, List.set_cons_zero, List.set_cons_succ, List.getElem_toArray, List.getElem_cons_zero, List.getElem_cons_succ]
    refine wpAnyH_take (i := 6) (oi := _) (v := ?_) rfl (by kernel_rfl) (by kernel_rfl) (by kernel_rfl) (fun _ _ _ h => h) (Or.inl ⟨by rfl, ?_⟩) (by assumption) ?_
    rotate_left
    · (intro w' hSw; (try dsimp only at hSw); go_simp; try with_reducible rfl)
    try simp only [Act.put, List.setIfInBounds_toArray, List.set_cons_zero, List.set_cons_succ, List.getElem_toArray, List.getElem_cons_zero, List.getElem_cons_succ]
    refine wpAnyH_take (i := 7) (oi := _) (v := ?_) rfl (by kernel_rfl) (by kernel_rfl) (by kernel_rfl) (fun _ _ _ h => h) (Or.inl ⟨by rfl, ?_⟩) (by assumption) ?_
    rotate_left
    · (intro w' hSw; (try dsimp only at hSw); go_simp; try with_reducible rfl)
    try simp only [Act.put, List.setIfInBounds_toArray, List.set_cons_zero, List.set_cons_succ, List.getElem_toArray, List.getElem_cons_zero, List.getElem_cons_succ]
    refine wpAnyH_take (i := 8) (oi := _) (v := ?_) rfl (by kernel_rfl) (by kernel_rfl) (by kernel_rfl) (fun _ _ _ h => h) (Or.inl ⟨by rfl, ?_⟩) (by assumption) ?_
    rotate_left
    · (intro w' hSw; (try dsimp only at hSw); go_simp; try with_reducible rfl)
    try simp only [Act.put, List.setIfInBounds_toArray, List.set_cons_zero, List.set_cons_succ, List.getElem_toArray, List.getElem_cons_zero, List.getElem_cons_succ]
    refine wpAnyH_take (i := 9) (oi := _) (v := ?_) rfl (by kernel_rfl) (by kernel_rfl) (by kernel_rfl) (fun _ _ _ h => h) (Or.inl ⟨by rfl, ?_⟩) (by assumption) ?_
    rotate_left
    · (intro w' hSw; (try dsimp only at hSw); go_simp; try with_reducible rfl)
    try simp only [Act.put, List.setIfInBounds_toArray, List.set_cons_zero, List.set_cons_succ, List.getElem_toArray, List.getElem_cons_zero, List.getElem_cons_succ]
    refine wpAnyH_take (i := 10) (oi := _) (v := ?_) rfl (by kernel_rfl) (by kernel_rfl) (by kernel_rfl) (fun _ _ _ h => h) (Or.inl ⟨by rfl, ?_⟩) (by assumption) ?_
    rotate_left
    · (intro w' hSw; (try dsimp only at hSw); go_simp; try with_reducible rfl)
    try simp only [Act.put, List.setIfInBounds_toArray, List.set_cons_zero, List.set_cons_succ, List.getElem_toArray, List.getElem_cons_zero, List.getElem_cons_succ]
    refine wpAnyH_take (i := 12) (oi := _) (v := ?_) rfl (by kernel_rfl) (by kernel_rfl) (by kernel_rfl) (fun _ _ _ h => h) (Or.inl ⟨by rfl, ?_⟩) (by assumption) ?_
    rotate_left
    · (intro w' hSw; (try dsimp only at hSw); go_simp; try with_reducible rfl)
    try simp only [Act.put, List.setIfInBounds_toArray, List.set_cons_zero, List.set_cons_succ, List.getElem_toArray, List.getElem_cons_zero, List.getElem_cons_succ]
    refine wpAnyH_ready (rs := [3, 17]) (by kernel_rfl) (by simp) ?_
    refine AllReadyH.cons (o := _) rfl (fun K hK => ?_) (AllReadyH.cons (o := _) rfl (fun K hK => ?_) (AllReadyH.nil))
    · go_simp
      go_at_call 117
      refine (cornerAt_any _ _ _ _ _ _ hW0 hW1 (by first | assumption | omega) (by first | assumption | omega) (by first | assumption | omega) (by first | assumption | omega)).mono ?_
      rintro e v1 ⟨rfl, hv1⟩
      have P1 := heap_later P4 hv1
      have Z1 := heap_later Z4 hv1
      have B1 := below_seq B4 hv1
      obtain ⟨cP10, cP11, cP12⟩ := cells3 P1
      refine hK _ _ (by first | go_keep | (dsimp only; go_keep)) (fun hH1 => ?_)
      clear hK K
      try simp only [Act.put, List.setIfInBounds_toArray, List.set_cons_zero, List.set_cons_succ, List.getElem_toArray, List.getElem_cons_zero, List.getElem_cons_succ]
      refine wpAnyH_ready (rs := [11, 17]) (by kernel_rfl) (by simp) ?_
      refine AllReadyH.cons (o := _) rfl (fun K hK => ?_) (AllReadyH.cons (o := _) rfl (fun K hK => ?_) (AllReadyH.nil))
      · go_simp
        go_at_call 117
        refine (cornerAt_any _ _ _ _ _ _ hW0 hW1 (by first | assumption | omega) (by first | assumption | omega) (by first | assumption | omega) (by first | assumption | omega)).mono ?_
        rintro e v2 ⟨rfl, hv2⟩
        have P2 := heap_later P1 hv2
        have Z2 := heap_later Z1 hv2
        have B2 := below_seq B1 hv2
        obtain ⟨cP20, cP21, cP22⟩ := cells3 P2
        refine hK _ _ (by first | go_keep | (dsimp only; go_keep)) (fun hH2 => ?_)
        clear hK K
        try simp only [Act.put, List.setIfInBounds_toArray, List.set_cons_zero, List.set_cons_succ, List.getElem_toArray, List.getElem_cons_zero, List.getElem_cons_succ]
        refine wpAnyH_take (i := 13) (oi := _) (v := ?_) rfl (by kernel_rfl) (by kernel_rfl) (by kernel_rfl) (fun _ _ _ h => h) (Or.inl ⟨by rfl, ?_⟩) (by assumption) ?_
        rotate_left
        · (intro w' hSw; (try dsimp only at hSw); go_simp; try with_reducible rfl)
        try simp only [Act.put, List.setIfInBounds_toArray, List.set_cons_zero, List.set_cons_succ, List.getElem_toArray, List.getElem_cons_zero, List.getElem_cons_succ]
        refine wpAnyH_take (i := 14) (oi := _) (v := ?_) rfl (by kernel_rfl) (by kernel_rfl) (by kernel_rfl) (fun _ _ _ h => h) (Or.inl ⟨by rfl, ?_⟩) (by assumption) ?_
        rotate_left
        · (intro w' hSw; (try dsimp only at hSw); go_simp; try with_reducible rfl)
        try simp only [Act.put, List.setIfInBounds_toArray, List.set_cons_zero, List.set_cons_succ, List.getElem_toArray, List.getElem_cons_zero, List.getElem_cons_succ]
        refine wpAnyH_take (i := 15) (oi := _) (v := ?_) rfl (by kernel_rfl) (by kernel_rfl) (by kernel_rfl) (fun _ _ _ h => h) (Or.inl ⟨by rfl, ?_⟩) (by assumption) ?_
        rotate_left
        · (intro w' hSw; (try dsimp only at hSw); go_simp; try with_reducible rfl)
        try simp only [Act.put, List.setIfInBounds_toArray, List.set_cons_zero, List.set_cons_succ, List.getElem_toArray, List.getElem_cons_zero, List.getElem_cons_succ]
        refine wpAnyH_take (i := 16) (oi := _) (v := ?_) rfl (by kernel_rfl) (by kernel_rfl) (by kernel_rfl) (fun _ _ _ h => h) (Or.inl ⟨by rfl, ?_⟩) (by assumption) ?_
        rotate_left
        · (intro w' hSw; (try dsimp only at hSw); go_simp; try with_reducible rfl)
        try simp only [Act.put, List.setIfInBounds_toArray, List.set_cons_zero, List.set_cons_succ, List.getElem_toArray, List.getElem_cons_zero, List.getElem_cons_succ]
        refine wpAnyH_ready (rs := [17]) (by kernel_rfl) (by simp) ?_
        refine AllReadyH.cons (o := _) rfl (fun K hK => ?_) (AllReadyH.nil)
        go_simp
        refine hK _ _ (by first | go_keep | (dsimp only; go_keep)) (fun hH3 => ?_)
        clear hK K
        try simp only [Act.put, List.setIfInBounds_toArray, List.set_cons_zero, List.set_cons_succ, List.getElem_toArray, List.getElem_cons_zero, List.getElem_cons_succ]
        have P3 := heap_later P2 (below1 _ (Obj.cells #[.int .i64 0, .int .i64 0, .int .i64 0, .bool false, .int .i64 0, .int .i64 0] 77))
        have Z3 := heap_later Z2 (below1 _ (Obj.cells #[.int .i64 0, .int .i64 0, .int .i64 0, .bool false, .int .i64 0, .int .i64 0] 77))
        have Q3 : ((v2).alloc (Obj.cells #[.int .i64 0, .int .i64 0, .int .i64 0, .bool false, .int .i64 0, .int .i64 0] 77)).heap[v2.heap.size]? = some (Obj.cells #[.int .i64 0, .int .i64 0, .int .i64 0, .bool false, .int .i64 0, .int .i64 0] 77 (0, 0)) := heap_new (v2) (Obj.cells #[.int .i64 0, .int .i64 0, .int .i64 0, .bool false, .int .i64 0, .int .i64 0] 77)
        have LP : w.heap.size < v2.heap.size := heap_lt P2
        have LZ : w.heap.size + 1 < v2.heap.size := heap_lt Z2
        have N1 : ¬ v2.heap.size = w.heap.size := by omega
        have N2 : ¬ w.heap.size = v2.heap.size := by omega
        have B3 := below_seq B2 (below1 _ (Obj.cells #[.int .i64 0, .int .i64 0, .int .i64 0, .bool false, .int .i64 0, .int .i64 0] 77))
        have hq1 := heap_lt Q3
        obtain ⟨q0, q1, q2, q3, q4, q5⟩ := cells6 Q3
        have fz0 := free3 Q3 0
        have fz1 := free3 Q3 1
        have fz2 := free3 Q3 2
        have fz3 := free3 Q3 3
        have fz4 := free3 Q3 4
        have fz5 := free3 Q3 5
        refine wpAnyH_ready (rs := [18]) (by kernel_rfl) (by simp) ?_
        refine AllReadyH.cons (o := _) rfl (fun K hK => ?_) AllReadyH.nil
        go_simp
        refine hK _ _ (by first | go_keep | (dsimp only; go_keep)) (fun hH0 => ?_)
        clear hK K
        try simp only [Act.put, List.setIfInBounds_toArray, List.set_cons_zero, List.set_cons_succ, List.getElem_toArray, List.getElem_cons_zero, List.getElem_cons_succ]
        refine wpAnyH_done (by kernel_rfl) ?_ _
        go_wp2
        rw [E1.out, E2.out]
        go_meet
        exact ⟨_, rfl, side_new P2 Z2 _ _ _ _ _ _, below_seq B2 (below1 _ _)⟩
      · go_simp
        refine hK _ _ (by first | go_keep | (dsimp only; go_keep)) (fun hH4 => ?_)
        clear hK K
        try simp only [Act.put, List.setIfInBounds_toArray, List.set_cons_zero, List.set_cons_succ, List.getElem_toArray, List.getElem_cons_zero, List.getElem_cons_succ]
        have P4 := heap_later P1 (below1 _ (Obj.cells #[.int .i64 0, .int .i64 0, .int .i64 0, .bool false, .int .i64 0, .int .i64 0] 77))
        have Z4 := heap_later Z1 (below1 _ (Obj.cells #[.int .i64 0, .int .i64 0, .int .i64 0, .bool false, .int .i64 0, .int .i64 0] 77))
        have Q4 : ((v1).alloc (Obj.cells #[.int .i64 0, .int .i64 0, .int .i64 0, .bool false, .int .i64 0, .int .i64 0] 77)).heap[v1.heap.size]? = some (Obj.cells #[.int .i64 0, .int .i64 0, .int .i64 0, .bool false, .int .i64 0, .int .i64 0] 77 (0, 0)) := heap_new (v1) (Obj.cells #[.int .i64 0, .int .i64 0, .int .i64 0, .bool false, .int .i64 0, .int .i64 0] 77)
        have LP : w.heap.size < v1.heap.size := heap_lt P1
        have LZ : w.heap.size + 1 < v1.heap.size := heap_lt Z1
        have N1 : ¬ v1.heap.size = w.heap.size := by omega
        have N2 : ¬ w.heap.size = v1.heap.size := by omega
        have B4 := below_seq B1 (below1 _ (Obj.cells #[.int .i64 0, .int .i64 0, .int .i64 0, .bool false, .int .i64 0, .int .i64 0] 77))
        refine wpAnyH_ready (rs := [11]) (by kernel_rfl) (by simp) ?_
        refine AllReadyH.cons (o := _) rfl (fun K hK => ?_) (AllReadyH.nil)
        go_simp
        go_at_call 117
        refine (cornerAt_any _ _ _ _ _ _ hW0 hW1 (by first | assumption | omega) (by first | assumption | omega) (by first | assumption | omega) (by first | assumption | omega)).mono ?_
        rintro e v5 ⟨rfl, hv5⟩
        have P5 := heap_later P4 hv5
        have Z5 := heap_later Z4 hv5
        have Q5 := heap_later Q4 hv5
        have B5 := below_seq B4 hv5
        obtain ⟨cP50, cP51, cP52⟩ := cells3 P5
        refine hK _ _ (by first | go_keep | (dsimp only; go_keep)) (fun hH5 => ?_)
        clear hK K
        try simp only [Act.put, List.setIfInBounds_toArray, List.set_cons_zero, List.set_cons_succ, List.getElem_toArray, List.getElem_cons_zero, List.getElem_cons_succ]
        refine wpAnyH_take (i := 13) (oi := _) (v := ?_) rfl (by kernel_rfl) (by kernel_rfl) (by kernel_rfl) (fun _ _ _ h => h) (Or.inl ⟨by rfl, ?_⟩) (by assumption) ?_
        rotate_left
        · (intro w' hSw; (try dsimp only at hSw); go_simp; try with_reducible rfl)
        try simp only [Act.put, List.setIfInBounds_toArray, List.set_cons_zero, List.set_cons_succ, List.getElem_toArray, List.getElem_cons_zero, List.getElem_cons_succ]
        refine wpAnyH_take (i := 14) (oi := _) (v := ?_) rfl (by kernel_rfl) (by kernel_rfl) (by kernel_rfl) (fun _ _ _ h => h) (Or.inl ⟨by rfl, ?_⟩) (by assumption) ?_
        rotate_left
        · (intro w' hSw; (try dsimp only at hSw); go_simp; try with_reducible rfl)
        try simp only [Act.put, List.setIfInBounds_toArray, List.set_cons_zero, List.set_cons_succ, List.getElem_toArray, List.getElem_cons_zero, List.getElem_cons_succ]
        refine wpAnyH_take (i := 15) (oi := _) (v := ?_) rfl (by kernel_rfl) (by kernel_rfl) (by kernel_rfl) (fun _ _ _ h => h) (Or.inl ⟨by rfl, ?_⟩) (by assumption) ?_
        rotate_left
        · (intro w' hSw; (try dsimp only at hSw); go_simp; try with_reducible rfl)
        try simp only [Act.put, List.setIfInBounds_toArray, List.set_cons_zero, List.set_cons_succ, List.getElem_toArray, List.getElem_cons_zero, List.getElem_cons_succ]
        refine wpAnyH_take (i := 16) (oi := _) (v := ?_) rfl (by kernel_rfl) (by kernel_rfl) (by kernel_rfl) (fun _ _ _ h => h) (Or.inl ⟨by rfl, ?_⟩) (by assumption) ?_
        rotate_left
        · (intro w' hSw; (try dsimp only at hSw); go_simp; try with_reducible rfl)
        try simp only [Act.put, List.setIfInBounds_toArray, List.set_cons_zero, List.set_cons_succ, List.getElem_toArray, List.getElem_cons_zero, List.getElem_cons_succ]
        have hq1 := heap_lt Q5
        obtain ⟨q0, q1, q2, q3, q4, q5⟩ := cells6 Q5
        have fz0 := free3 Q5 0
        have fz1 := free3 Q5 1
        have fz2 := free3 Q5 2
        have fz3 := free3 Q5 3
        have fz4 := free3 Q5 4
        have fz5 := free3 Q5 5
        refine wpAnyH_ready (rs := [18]) (by kernel_rfl) (by simp) ?_
        refine AllReadyH.cons (o := _) rfl (fun K hK => ?_) AllReadyH.nil
        go_simp
        refine hK _ _ (by first | go_keep | (dsimp only; go_keep)) (fun hH0 => ?_)
        clear hK K
        try simp only [Act.put, List.setIfInBounds_toArray, List.set_cons_zero, List.set_cons_succ, List.getElem_toArray, List.getElem_cons_zero, List.getElem_cons_succ]
        refine wpAnyH_done (by kernel_rfl) ?_ _
        go_wp2
        rw [E1.out, E2.out]
        go_meet
        exact ⟨_, rfl, side_six Q5 P5 Z5 LZ _ _ _ _ _ _, below_six B5 (by omega) _ _ _ _ _ _⟩
    · go_simp
      refine hK _ _ (by first | go_keep | (dsimp only; go_keep)) (fun hH6 => ?_)
      clear hK K
      try simp only [Act.put, List.setIfInBounds_toArray, List.set_cons_zero, List.set_cons_succ, List.getElem_toArray, List.getElem_cons_zero, List.getElem_cons_succ]
      have P6 := heap_later P4 (below1 _ (Obj.cells #[.int .i64 0, .int .i64 0, .int .i64 0, .bool false, .int .i64 0, .int .i64 0] 77))
      have Z6 := heap_later Z4 (below1 _ (Obj.cells #[.int .i64 0, .int .i64 0, .int .i64 0, .bool false, .int .i64 0, .int .i64 0] 77))
      have Q6 : ((w4.drew).alloc (Obj.cells #[.int .i64 0, .int .i64 0, .int .i64 0, .bool false, .int .i64 0, .int .i64 0] 77)).heap[w4.heap.size]? = some (Obj.cells #[.int .i64 0, .int .i64 0, .int .i64 0, .bool false, .int .i64 0, .int .i64 0] 77 (0, 0)) := heap_new (w4.drew) (Obj.cells #[.int .i64 0, .int .i64 0, .int .i64 0, .bool false, .int .i64 0, .int .i64 0] 77)
      have LP : w.heap.size < w4.heap.size := heap_lt P4
      have LZ : w.heap.size + 1 < w4.heap.size := heap_lt Z4
      have N1 : ¬ w4.heap.size = w.heap.size := by omega
      have N2 : ¬ w.heap.size = w4.heap.size := by omega
      have B6 := below_seq B4 (below1 _ (Obj.cells #[.int .i64 0, .int .i64 0, .int .i64 0, .bool false, .int .i64 0, .int .i64 0] 77))
      refine wpAnyH_ready (rs := [3]) (by kernel_rfl) (by simp) ?_
      refine AllReadyH.cons (o := _) rfl (fun K hK => ?_) (AllReadyH.nil)
      go_simp
      go_at_call 117
      refine (cornerAt_any _ _ _ _ _ _ hW0 hW1 (by first | assumption | omega) (by first | assumption | omega) (by first | assumption | omega) (by first | assumption | omega)).mono ?_
      rintro e v7 ⟨rfl, hv7⟩
      have P7 := heap_later P6 hv7
      have Z7 := heap_later Z6 hv7
      have Q7 := heap_later Q6 hv7
      have B7 := below_seq B6 hv7
      obtain ⟨cP70, cP71, cP72⟩ := cells3 P7
      refine hK _ _ (by first | go_keep | (dsimp only; go_keep)) (fun hH7 => ?_)
      clear hK K
      try simp only [Act.put, List.setIfInBounds_toArray, List.set_cons_zero, List.set_cons_succ, List.getElem_toArray, List.getElem_cons_zero, List.getElem_cons_succ]
      refine wpAnyH_ready (rs := [11]) (by kernel_rfl) (by simp) ?_
      refine AllReadyH.cons (o := _) rfl (fun K hK => ?_) (AllReadyH.nil)
      go_simp
      go_at_call 117
      refine (cornerAt_any _ _ _ _ _ _ hW0 hW1 (by first | assumption | omega) (by first | assumption | omega) (by first | assumption | omega) (by first | assumption | omega)).mono ?_
      rintro e v8 ⟨rfl, hv8⟩
      have P8 := heap_later P7 hv8
      have Z8 := heap_later Z7 hv8
      have Q8 := heap_later Q7 hv8
      have B8 := below_seq B7 hv8
      obtain ⟨cP80, cP81, cP82⟩ := cells3 P8
      refine hK _ _ (by first | go_keep | (dsimp only; go_keep)) (fun hH8 => ?_)
      clear hK K
      try simp only [Act.put, List.setIfInBounds_toArray, List.set_cons_zero, List.set_cons_succ, List.getElem_toArray, List.getElem_cons_zero, List.getElem_cons_succ]
      refine wpAnyH_take (i := 13) (oi := _) (v := ?_) rfl (by kernel_rfl) (by kernel_rfl) (by kernel_rfl) (fun _ _ _ h => h) (Or.inl ⟨by rfl, ?_⟩) (by assumption) ?_
      rotate_left
      · (intro w' hSw; (try dsimp only at hSw); go_simp; try with_reducible rfl)
      try simp only [Act.put, List.setIfInBounds_toArray, List.set_cons_zero, List.set_cons_succ, List.getElem_toArray, List.getElem_cons_zero, List.getElem_cons_succ]
      refine wpAnyH_take (i := 14) (oi := _) (v := ?_) rfl (by kernel_rfl) (by kernel_rfl) (by kernel_rfl) (fun _ _ _ h => h) (Or.inl ⟨by rfl, ?_⟩) (by assumption) ?_
      rotate_left
      · (intro w' hSw; (try dsimp only at hSw); go_simp; try with_reducible rfl)
      try simp only [Act.put, List.setIfInBounds_toArray, List.set_cons_zero, List.set_cons_succ, List.getElem_toArray, List.getElem_cons_zero, List.getElem_cons_succ]
      refine wpAnyH_take (i := 15) (oi := _) (v := ?_) rfl (by kernel_rfl) (by kernel_rfl) (by kernel_rfl) (fun _ _ _ h => h) (Or.inl ⟨by rfl, ?_⟩) (by assumption) ?_
      rotate_left
      · (intro w' hSw; (try dsimp only at hSw); go_simp; try with_reducible rfl)
      try simp only [Act.put, List.setIfInBounds_toArray, List.set_cons_zero, List.set_cons_succ, List.getElem_toArray, List.getElem_cons_zero, List.getElem_cons_succ]
      refine wpAnyH_take (i := 16) (oi := _) (v := ?_) rfl (by kernel_rfl) (by kernel_rfl) (by kernel_rfl) (fun _ _ _ h => h) (Or.inl ⟨by rfl, ?_⟩) (by assumption) ?_
      rotate_left
      · (intro w' hSw; (try dsimp only at hSw); go_simp; try with_reducible rfl)
      try simp only [Act.put, List.setIfInBounds_toArray, List.set_cons_zero, List.set_cons_succ, List.getElem_toArray, List.getElem_cons_zero, List.getElem_cons_succ]
      have hq1 := heap_lt Q8
      obtain ⟨q0, q1, q2, q3, q4, q5⟩ := cells6 Q8
      have fz0 := free3 Q8 0
      have fz1 := free3 Q8 1
      have fz2 := free3 Q8 2
      have fz3 := free3 Q8 3
      have fz4 := free3 Q8 4
      have fz5 := free3 Q8 5
      refine wpAnyH_ready (rs := [18]) (by kernel_rfl) (by simp) ?_
      refine AllReadyH.cons (o := _) rfl (fun K hK => ?_) AllReadyH.nil
      go_simp
      refine hK _ _ (by first | go_keep | (dsimp only; go_keep)) (fun hH0 => ?_)
      clear hK K
      try simp only [Act.put, List.setIfInBounds_toArray, List.set_cons_zero, List.set_cons_succ, List.getElem_toArray, List.getElem_cons_zero, List.getElem_cons_succ]
      refine wpAnyH_done (by kernel_rfl) ?_ _
      go_wp2
      rw [E1.out, E2.out]
      go_meet
      exact ⟨_, rfl, side_six Q8 P8 Z8 LZ _ _ _ _ _ _, below_six B8 (by omega) _ _ _ _ _ _⟩
 case rest =>
  obtain ⟨bs, rfl, hs, bc⟩ := hcut
  obtain ⟨c40, c41, c42⟩ := cells3 hs.reg
  obtain ⟨e0, e1, e2, e3, e4, e5⟩ := cells6 hs.side
  obtain ⟨r0, r1, r2, r3, r4, r5⟩ := cells6 hs.res
  have fe2 := free3 hs.side 2
  have fe4 := free3 hs.side 4
  have fe5 := free3 hs.side 5
  have fr0 := free3 hs.res 0
  have fr1 := free3 hs.res 1
  have fr2 := free3 hs.res 2
  have fr3 := free3 hs.res 3
  have fr4 := free3 hs.res 4
  have fr5 := free3 hs.res 5
  have l0 := hs.lt
  have l1 := heap_lt hs.side
  have l2 := heap_lt hs.reg
  have l3 := heap_lt hs.res
  have m1 : ¬ bs = w.heap.size := by omega
  have m2 : ¬ w.heap.size = bs := by omega
  have m3 : ¬ bs = w.heap.size + 1 := by omega
  have m4 : ¬ w.heap.size + 1 = bs := by omega
  have HS := Lib.hid hs; clear hs
  have BC := Lib.hid bc; clear bc b4 p4 z4 bA pA zA
  cases L <;> cases R <;> cases D
  all_goals
   go_wp2_with (first
    | (go_at_call 118; refine (darkAt_low _ _ _ (by omega) (by omega) (by omega) (by omega) HD.out).mono ?_; rintro e w5 ⟨rfl, rfl⟩)
    | (go_at_call 107; refine (cellAt_any _ _ _ _ (.bool false) _ _ _ _ (HC.out (by trivial)).2.2 (by omega) (HC.out (by trivial)).1 (HC.out (by trivial)).2.1).mono ?_; rintro e w6 ⟨rfl, hb6⟩; have HB6 := Lib.hid hb6; obtain ⟨hcl, hfl⟩ := bcell hb6; clear hb6)
    | (go_at_call 119; refine (turnedWay1_any _).mono ?_; rintro e w7 ⟨rfl, rfl⟩)
    | (go_at_call 78; refine (opposite_any _ _ (by decide) (by decide)).mono ?_; rintro e w8 ⟨rfl, rfl⟩))
   refine bodyPost_ret (v := _) ?hr rfl ⟨rfl, ?_⟩
   case hr => first | (simp [results, Tryz.results102, go_sem, r0, r1, r2, r3, r4, r5, m1, m2, m3, m4]; done) | (simp [results, Tryz.results102, go_sem, r0, r1, r2, r3, r4, r5, hcl, l3, m1, m2, m3, m4, show backI 2 = 4 from rfl, show backI 3 = 1 from rfl]; done)
   repeat (refine Below.setCell ?_ (by first | (simp; done) | (simp; omega) | omega) _)
   first
    | exact BC.out
    | (refine below_seq ?_ HB6.out; repeat (refine Below.setCell ?_ (by first | (simp; done) | (simp; omega) | omega) _)
       exact BC.out)
end Go.Proofs.YtpcajacekmidbaaGreat
