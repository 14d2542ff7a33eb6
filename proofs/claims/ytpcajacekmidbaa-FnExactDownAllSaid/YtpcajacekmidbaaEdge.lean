/- Contract of spec.l4Edge: a side from a corner. -/
import Derived.Test.YtpcajacekmidbaaSideM
import Derived.Test.YtpcajacekmidbaaAt
namespace Go.Proofs.Ytpcajacekmidbaa
open Go.RowKit
set_option linter.unusedVariables false
set_option maxRecDepth 100000
set_option linter.unusedSimpArgs false

/-- What l4Edge returns. -/
def edV (W T : Int) (xs : List Bool) (k : Nat) (nth : Bool) : Value :=
  .tuple #[.int .i64 (sTo W k nth), .bool (sUsed W T xs k nth), .bool (sBoth W T xs k nth), .int .i64 (if sLeft W T xs k nth then sCell W k nth else -1), .int .i64 (if sRight W T xs k nth then sOther W k nth else -1), .bool (sDark W k nth)]
theorem l1At_e (W T x y : Int) (a : Option Addr) (n cap : Nat) (xs : List Bool) (w : World) {v : Bool} (hn : n = xs.length) (hW0 : 0 ≤ W) (hW1 : W ≤ 100) (hT0 : 0 ≤ T) (hT1 : T ≤ 100) (hWT : (n : Int) = W * T) (ha : BoolsAt w a xs) (h : atB W T xs x y = v) :
    Calls Try.prog 163 #[.agg #[.int .i64 W, .int .i64 T, .slice a n cap], .int .i64 x, .int .i64 y] w fun e w' => e = .returned (.bool v) ∧ Below w.heap.size w w' := by
  subst h; exact l1At_any W T x y a n cap xs w hn hW0 hW1 hT0 hT1 hWT ha
theorem l4Dark_low (x y : Int) (w : World) {d : Bool} (hx : -1 ≤ x) (hx1 : x ≤ 10) (hy : 0 ≤ y) (hy1 : y ≤ 10) (h : decide ((x + y + 2) % 2 = 0) = d) :
    Calls Try.prog 171 #[.int .i64 x, .int .i64 y] w fun e w' => e = .returned (.bool d) ∧ w' = w := by
  have h0 : 0 ≤ x + y + 2 := by omega
  have e : ((x + y) % 2 == 0) = d := by rw [← h, show (x + y + 2) % 2 = (x + y) % 2 by omega]; rfl
  have HE := Lib.hid e; clear e h
  go_enter Try.func171, Try.ntmps171
  go_wp2
  go_ret
  exact ⟨ret_bool HE.out, rfl⟩
theorem l4Rise_any (dark across : Bool) (w : World) : Calls Try.prog 139 #[.bool dark, .bool across] w fun e w' => e = .returned (.int .i64 (if across then -3 * (if dark then 1 else -1) else (if dark then 1 else -1))) ∧ w' = w := by
  cases dark <;> cases across
  all_goals
    go_enter Try.func139, Try.ntmps139
    go_wp2
    go_ret
    exact ⟨rfl, rfl⟩

set_option maxHeartbeats 4000000 in
theorem l4Edge_east (W T : Int) (a : Option Addr) (n cap : Nat) (xs : List Bool) (k : Nat) (w : World) (hn : n = xs.length) (hW0 : 1 ≤ W) (hW1 : W ≤ 6) (hT0 : 1 ≤ T) (hT1 : T ≤ 6) (hWT : (n : Int) = W * T) (hk : (k : Int) < (W + 1) * (T + 1)) (ha : BoolsAt w a xs) :
    Calls Try.prog 138 #[.agg #[.int .i64 W, .int .i64 T, .slice a n cap], .int .i64 k, .bool false] w fun e w' => e = .returned (edV W T xs k false) ∧ Below w.heap.size w w' := by
  obtain ⟨kx0, kx1, ky0, ke⟩ := kxy hW0 k
  have ky1 := ky_le hW0 hk
  have hcb := corn_bd hW0 hW1 hT0 hT1
  have hk49 : (k : Int) ≤ 49 := by omega
  have HN := Lib.hid hn; clear hn
  have HA := Lib.hid ha; clear ha
  have HWT := Lib.hid hWT; clear hWT
  obtain ⟨L, hL⟩ : ∃ L, sLeft W T xs k false = L := ⟨_, rfl⟩
  obtain ⟨R, hR⟩ : ∃ R, sRight W T xs k false = R := ⟨_, rfl⟩
  obtain ⟨D, hD⟩ : ∃ D, sDark W k false = D := ⟨_, rfl⟩
  have hin : (L || R) = true → kx W k < W := fun h => by
    have hu : sUsed W T xs k false = true := by unfold sUsed; rw [hL, hR]; exact h
    have := sUsed_in hW0 hu
    simp at this
    omega
  have hcl : L = true → 0 ≤ ky W k * W ∧ ky W k * W ≤ 100000 ∧ 0 ≤ sLx W k false := fun h => by
    rw [h] at hL
    have q := atB_in hL
    obtain ⟨i0, i1, i2⟩ := idx_bd (W := W) (T := T) q.1 q.2.1 q.2.2.1 q.2.2.2
    have pb := (prod_bd (W := W) (T := T) (by omega) (by omega) (by omega) (by omega)).2
    exact ⟨i0, by have := q.1; omega, q.1⟩
  have hcr : R = true → 0 ≤ sRy W k false * W ∧ sRy W k false * W ≤ 100000 ∧ 0 ≤ sRy W k false := fun h => by
    rw [h] at hR
    have q := atB_in hR
    obtain ⟨i0, i1, i2⟩ := idx_bd (W := W) (T := T) q.1 q.2.1 q.2.2.1 q.2.2.2
    have pb := (prod_bd (W := W) (T := T) (by omega) (by omega) (by omega) (by omega)).2
    exact ⟨i0, by have := q.1; omega, q.2.2.1⟩
  have eV : Hid (edV W T xs k false = .tuple #[.int .i64 ((k : Int) + 1), .bool (L || R), .bool (L && R), .int .i64 (if L then ky W k * W + sLx W k false else -1), .int .i64 (if R then sRy W k false * W + kx W k else -1), .bool D]) := by
    show _ = _; unfold edV sUsed sBoth; rw [hL, hR, hD]; rfl
  rw [eV.out]
  have hL' : atB W T xs (kx W k) (ky W k) = L := hL
  have hR' : atB W T xs (kx W k) (ky W k - 1) = R := hR
  have hD' : decide ((kx W k + ky W k + 2) % 2 = 0) = D := hD
  have hsl : sLx W k false = kx W k := rfl
  have hsr : sRy W k false = ky W k - 1 := rfl
  rw [hsl] at hcl ⊢; rw [hsr] at hcr ⊢
  clear eV hL hR hD hsl hsr
  have r1 : (k : Int) % (W + 1) = kx W k := rfl
  have r2 : (k : Int) / (W + 1) = ky W k := rfl
  have r1' : (k : Int).tmod (W + 1) = kx W k := Int.tmod_eq_emod_of_nonneg (by omega)
  have r2' : (k : Int).tdiv (W + 1) = ky W k := Int.tdiv_eq_ediv_of_nonneg (by omega)
  obtain ⟨x, hx⟩ : ∃ x, kx W k = x := ⟨_, rfl⟩
  obtain ⟨y, hy⟩ : ∃ y, ky W k = y := ⟨_, rfl⟩
  rw [hx] at r1 r1' kx0 kx1; rw [hy] at r2 r2' ky0 ky1
  simp only [hx, hy] at hL' hR' hD' hcl hcr hin ⊢
  have r4 : W + 1 ≠ 0 := by omega
  have r5 : ((W + 1 : Int) == 0) = false := by simpa using r4
  clear hx hy ke hk hcb
  have HL := Lib.hid hL'; have HR := Lib.hid hR'; have HD := Lib.hid hD'; have HCL := Lib.hid hcl; have HCR := Lib.hid hcr; have HIN := Lib.hid hin
  clear hL' hR' hD' hcl hcr hin
  obtain ⟨wA, hwA⟩ : ∃ wA, wA = w.alloc (.cells #[.int .i64 W, .int .i64 T, .slice a n cap] 25) := ⟨_, rfl⟩
  have pA : wA.heap[w.heap.size]? = some (.cells #[.int .i64 W, .int .i64 T, .slice a n cap] 25 (0, 0)) := by rw [hwA]; exact heap_new _ _
  have bA : Below w.heap.size w wA := by rw [hwA]; exact below1 _ _
  obtain ⟨d0, d1, d2⟩ := cells3 pA
  cases L <;> cases R
  · by_cases hth : x < W
    all_goals
      go_enter Try.func138, Try.ntmps138
      go_wp2_with fail
      rw [← hwA]; clear hwA
      refine (l1At_e _ _ _ _ _ _ _ xs _ HN.out (by omega) (by omega) (by omega) (by omega) HWT.out (HA.out.below bA) HL.out).mono ?_; rintro e w1 ⟨rfl, hb1⟩
      have p1 := heap_later pA hb1; have b1 := below_seq bA hb1
      clear d0 d1 d2
      obtain ⟨c10, c11, c12⟩ := cells3 p1
      go_wp2_with fail
      refine (l1At_e _ _ _ _ _ _ _ xs _ HN.out (by omega) (by omega) (by omega) (by omega) HWT.out (HA.out.below b1) HR.out).mono ?_; rintro e w2 ⟨rfl, hb2⟩
      have p2 := heap_later p1 hb2; have b2 := below_seq b1 hb2
      clear c10 c11 c12
      obtain ⟨c20, c21, c22⟩ := cells3 p2
      go_wp2_with fail
      refine (l4Dark_low _ _ _ (by omega) (by omega) (by omega) (by omega) HD.out).mono ?_; rintro e w3 ⟨rfl, rfl⟩
      go_wp2
      refine bodyPost_ret (v := _) ?hr rfl ⟨rfl, b2⟩
      case hr => simp [results, Try.results138, go_sem]
  · have hth := HIN.out rfl
    obtain ⟨q0, q1, q2⟩ := HCR.out rfl
    go_enter Try.func138, Try.ntmps138
    go_wp2_with fail
    rw [← hwA]; clear hwA
    refine (l1At_e _ _ _ _ _ _ _ xs _ HN.out (by omega) (by omega) (by omega) (by omega) HWT.out (HA.out.below bA) HL.out).mono ?_; rintro e w1 ⟨rfl, hb1⟩
    have p1 := heap_later pA hb1; have b1 := below_seq bA hb1
    clear d0 d1 d2
    obtain ⟨c10, c11, c12⟩ := cells3 p1
    go_wp2_with fail
    refine (l1At_e _ _ _ _ _ _ _ xs _ HN.out (by omega) (by omega) (by omega) (by omega) HWT.out (HA.out.below b1) HR.out).mono ?_; rintro e w2 ⟨rfl, hb2⟩
    have p2 := heap_later p1 hb2; have b2 := below_seq b1 hb2
    clear c10 c11 c12
    obtain ⟨c20, c21, c22⟩ := cells3 p2
    go_wp2_with fail
    refine (l4Dark_low _ _ _ (by omega) (by omega) (by omega) (by omega) HD.out).mono ?_; rintro e w3 ⟨rfl, rfl⟩
    go_wp2
    refine bodyPost_ret (v := _) ?hr rfl ⟨rfl, b2⟩
    case hr => simp [results, Try.results138, go_sem]
  · have hth := HIN.out rfl
    obtain ⟨l0, l1, l2⟩ := HCL.out rfl
    go_enter Try.func138, Try.ntmps138
    go_wp2_with fail
    rw [← hwA]; clear hwA
    refine (l1At_e _ _ _ _ _ _ _ xs _ HN.out (by omega) (by omega) (by omega) (by omega) HWT.out (HA.out.below bA) HL.out).mono ?_; rintro e w1 ⟨rfl, hb1⟩
    have p1 := heap_later pA hb1; have b1 := below_seq bA hb1
    clear d0 d1 d2
    obtain ⟨c10, c11, c12⟩ := cells3 p1
    go_wp2_with fail
    refine (l1At_e _ _ _ _ _ _ _ xs _ HN.out (by omega) (by omega) (by omega) (by omega) HWT.out (HA.out.below b1) HR.out).mono ?_; rintro e w2 ⟨rfl, hb2⟩
    have p2 := heap_later p1 hb2; have b2 := below_seq b1 hb2
    clear c10 c11 c12
    obtain ⟨c20, c21, c22⟩ := cells3 p2
    go_wp2_with fail
    refine (l4Dark_low _ _ _ (by omega) (by omega) (by omega) (by omega) HD.out).mono ?_; rintro e w3 ⟨rfl, rfl⟩
    go_wp2
    refine bodyPost_ret (v := _) ?hr rfl ⟨rfl, b2⟩
    case hr => simp [results, Try.results138, go_sem]
  · have hth := HIN.out rfl
    obtain ⟨l0, l1, l2⟩ := HCL.out rfl
    obtain ⟨q0, q1, q2⟩ := HCR.out rfl
    go_enter Try.func138, Try.ntmps138
    go_wp2_with fail
    rw [← hwA]; clear hwA
    refine (l1At_e _ _ _ _ _ _ _ xs _ HN.out (by omega) (by omega) (by omega) (by omega) HWT.out (HA.out.below bA) HL.out).mono ?_; rintro e w1 ⟨rfl, hb1⟩
    have p1 := heap_later pA hb1; have b1 := below_seq bA hb1
    clear d0 d1 d2
    obtain ⟨c10, c11, c12⟩ := cells3 p1
    go_wp2_with fail
    refine (l1At_e _ _ _ _ _ _ _ xs _ HN.out (by omega) (by omega) (by omega) (by omega) HWT.out (HA.out.below b1) HR.out).mono ?_; rintro e w2 ⟨rfl, hb2⟩
    have p2 := heap_later p1 hb2; have b2 := below_seq b1 hb2
    clear c10 c11 c12
    obtain ⟨c20, c21, c22⟩ := cells3 p2
    go_wp2_with fail
    refine (l4Dark_low _ _ _ (by omega) (by omega) (by omega) (by omega) HD.out).mono ?_; rintro e w3 ⟨rfl, rfl⟩
    go_wp2
    refine bodyPost_ret (v := _) ?hr rfl ⟨rfl, b2⟩
    case hr => simp [results, Try.results138, go_sem]

set_option maxHeartbeats 4000000 in
theorem l4Edge_north (W T : Int) (a : Option Addr) (n cap : Nat) (xs : List Bool) (k : Nat) (w : World) (hn : n = xs.length) (hW0 : 1 ≤ W) (hW1 : W ≤ 6) (hT0 : 1 ≤ T) (hT1 : T ≤ 6) (hWT : (n : Int) = W * T) (hk : (k : Int) < (W + 1) * (T + 1)) (ha : BoolsAt w a xs) :
    Calls Try.prog 138 #[.agg #[.int .i64 W, .int .i64 T, .slice a n cap], .int .i64 k, .bool true] w fun e w' => e = .returned (edV W T xs k true) ∧ Below w.heap.size w w' := by
  obtain ⟨kx0, kx1, ky0, ke⟩ := kxy hW0 k
  have ky1 := ky_le hW0 hk
  have hcb := corn_bd hW0 hW1 hT0 hT1
  have hk49 : (k : Int) ≤ 49 := by omega
  have HN := Lib.hid hn; clear hn
  have HA := Lib.hid ha; clear ha
  have HWT := Lib.hid hWT; clear hWT
  obtain ⟨L, hL⟩ : ∃ L, sLeft W T xs k true = L := ⟨_, rfl⟩
  obtain ⟨R, hR⟩ : ∃ R, sRight W T xs k true = R := ⟨_, rfl⟩
  obtain ⟨D, hD⟩ : ∃ D, sDark W k true = D := ⟨_, rfl⟩
  have hin : (L || R) = true → ky W k < T := fun h => by
    have hu : sUsed W T xs k true = true := by unfold sUsed; rw [hL, hR]; exact h
    have := sUsed_in hW0 hu
    simp at this
    omega
  have hcl : L = true → 0 ≤ ky W k * W ∧ ky W k * W ≤ 100000 ∧ 0 ≤ sLx W k true := fun h => by
    rw [h] at hL
    have q := atB_in hL
    obtain ⟨i0, i1, i2⟩ := idx_bd (W := W) (T := T) q.1 q.2.1 q.2.2.1 q.2.2.2
    have pb := (prod_bd (W := W) (T := T) (by omega) (by omega) (by omega) (by omega)).2
    exact ⟨i0, by have := q.1; omega, q.1⟩
  have hcr : R = true → 0 ≤ sRy W k true * W ∧ sRy W k true * W ≤ 100000 ∧ 0 ≤ sRy W k true := fun h => by
    rw [h] at hR
    have q := atB_in hR
    obtain ⟨i0, i1, i2⟩ := idx_bd (W := W) (T := T) q.1 q.2.1 q.2.2.1 q.2.2.2
    have pb := (prod_bd (W := W) (T := T) (by omega) (by omega) (by omega) (by omega)).2
    exact ⟨i0, by have := q.1; omega, q.2.2.1⟩
  have eV : Hid (edV W T xs k true = .tuple #[.int .i64 ((k : Int) + W + 1), .bool (L || R), .bool (L && R), .int .i64 (if L then ky W k * W + sLx W k true else -1), .int .i64 (if R then sRy W k true * W + kx W k else -1), .bool D]) := by
    show _ = _; unfold edV sUsed sBoth; rw [hL, hR, hD]; rfl
  rw [eV.out]
  have hL' : atB W T xs (kx W k - 1) (ky W k) = L := hL
  have hR' : atB W T xs (kx W k) (ky W k) = R := hR
  have hD' : decide ((kx W k - 1 + ky W k + 2) % 2 = 0) = D := hD
  have hsl : sLx W k true = kx W k - 1 := rfl
  have hsr : sRy W k true = ky W k := rfl
  rw [hsl] at hcl ⊢; rw [hsr] at hcr ⊢
  clear eV hL hR hD hsl hsr
  have r1 : (k : Int) % (W + 1) = kx W k := rfl
  have r2 : (k : Int) / (W + 1) = ky W k := rfl
  have r1' : (k : Int).tmod (W + 1) = kx W k := Int.tmod_eq_emod_of_nonneg (by omega)
  have r2' : (k : Int).tdiv (W + 1) = ky W k := Int.tdiv_eq_ediv_of_nonneg (by omega)
  obtain ⟨x, hx⟩ : ∃ x, kx W k = x := ⟨_, rfl⟩
  obtain ⟨y, hy⟩ : ∃ y, ky W k = y := ⟨_, rfl⟩
  rw [hx] at r1 r1' kx0 kx1; rw [hy] at r2 r2' ky0 ky1
  simp only [hx, hy] at hL' hR' hD' hcl hcr hin ⊢
  have r4 : W + 1 ≠ 0 := by omega
  have r5 : ((W + 1 : Int) == 0) = false := by simpa using r4
  clear hx hy ke hk hcb
  have HL := Lib.hid hL'; have HR := Lib.hid hR'; have HD := Lib.hid hD'; have HCL := Lib.hid hcl; have HCR := Lib.hid hcr; have HIN := Lib.hid hin
  clear hL' hR' hD' hcl hcr hin
  obtain ⟨wA, hwA⟩ : ∃ wA, wA = w.alloc (.cells #[.int .i64 W, .int .i64 T, .slice a n cap] 25) := ⟨_, rfl⟩
  have pA : wA.heap[w.heap.size]? = some (.cells #[.int .i64 W, .int .i64 T, .slice a n cap] 25 (0, 0)) := by rw [hwA]; exact heap_new _ _
  have bA : Below w.heap.size w wA := by rw [hwA]; exact below1 _ _
  obtain ⟨d0, d1, d2⟩ := cells3 pA
  cases L <;> cases R
  · by_cases hth : y < T
    all_goals
      go_enter Try.func138, Try.ntmps138
      go_wp2_with fail
      rw [← hwA]; clear hwA
      refine (l1At_e _ _ _ _ _ _ _ xs _ HN.out (by omega) (by omega) (by omega) (by omega) HWT.out (HA.out.below bA) HL.out).mono ?_; rintro e w1 ⟨rfl, hb1⟩
      have p1 := heap_later pA hb1; have b1 := below_seq bA hb1
      clear d0 d1 d2
      obtain ⟨c10, c11, c12⟩ := cells3 p1
      go_wp2_with fail
      refine (l1At_e _ _ _ _ _ _ _ xs _ HN.out (by omega) (by omega) (by omega) (by omega) HWT.out (HA.out.below b1) HR.out).mono ?_; rintro e w2 ⟨rfl, hb2⟩
      have p2 := heap_later p1 hb2; have b2 := below_seq b1 hb2
      clear c10 c11 c12
      obtain ⟨c20, c21, c22⟩ := cells3 p2
      go_wp2_with fail
      refine (l4Dark_low _ _ _ (by omega) (by omega) (by omega) (by omega) HD.out).mono ?_; rintro e w3 ⟨rfl, rfl⟩
      go_wp2
      refine bodyPost_ret (v := _) ?hr rfl ⟨rfl, b2⟩
      case hr => simp [results, Try.results138, go_sem]
  · have hth := HIN.out rfl
    obtain ⟨q0, q1, q2⟩ := HCR.out rfl
    go_enter Try.func138, Try.ntmps138
    go_wp2_with fail
    rw [← hwA]; clear hwA
    refine (l1At_e _ _ _ _ _ _ _ xs _ HN.out (by omega) (by omega) (by omega) (by omega) HWT.out (HA.out.below bA) HL.out).mono ?_; rintro e w1 ⟨rfl, hb1⟩
    have p1 := heap_later pA hb1; have b1 := below_seq bA hb1
    clear d0 d1 d2
    obtain ⟨c10, c11, c12⟩ := cells3 p1
    go_wp2_with fail
    refine (l1At_e _ _ _ _ _ _ _ xs _ HN.out (by omega) (by omega) (by omega) (by omega) HWT.out (HA.out.below b1) HR.out).mono ?_; rintro e w2 ⟨rfl, hb2⟩
    have p2 := heap_later p1 hb2; have b2 := below_seq b1 hb2
    clear c10 c11 c12
    obtain ⟨c20, c21, c22⟩ := cells3 p2
    go_wp2_with fail
    refine (l4Dark_low _ _ _ (by omega) (by omega) (by omega) (by omega) HD.out).mono ?_; rintro e w3 ⟨rfl, rfl⟩
    go_wp2
    refine bodyPost_ret (v := _) ?hr rfl ⟨rfl, b2⟩
    case hr => simp [results, Try.results138, go_sem]
  · have hth := HIN.out rfl
    obtain ⟨l0, l1, l2⟩ := HCL.out rfl
    go_enter Try.func138, Try.ntmps138
    go_wp2_with fail
    rw [← hwA]; clear hwA
    refine (l1At_e _ _ _ _ _ _ _ xs _ HN.out (by omega) (by omega) (by omega) (by omega) HWT.out (HA.out.below bA) HL.out).mono ?_; rintro e w1 ⟨rfl, hb1⟩
    have p1 := heap_later pA hb1; have b1 := below_seq bA hb1
    clear d0 d1 d2
    obtain ⟨c10, c11, c12⟩ := cells3 p1
    go_wp2_with fail
    refine (l1At_e _ _ _ _ _ _ _ xs _ HN.out (by omega) (by omega) (by omega) (by omega) HWT.out (HA.out.below b1) HR.out).mono ?_; rintro e w2 ⟨rfl, hb2⟩
    have p2 := heap_later p1 hb2; have b2 := below_seq b1 hb2
    clear c10 c11 c12
    obtain ⟨c20, c21, c22⟩ := cells3 p2
    go_wp2_with fail
    refine (l4Dark_low _ _ _ (by omega) (by omega) (by omega) (by omega) HD.out).mono ?_; rintro e w3 ⟨rfl, rfl⟩
    go_wp2
    refine bodyPost_ret (v := _) ?hr rfl ⟨rfl, b2⟩
    case hr => simp [results, Try.results138, go_sem]
  · have hth := HIN.out rfl
    obtain ⟨l0, l1, l2⟩ := HCL.out rfl
    obtain ⟨q0, q1, q2⟩ := HCR.out rfl
    go_enter Try.func138, Try.ntmps138
    go_wp2_with fail
    rw [← hwA]; clear hwA
    refine (l1At_e _ _ _ _ _ _ _ xs _ HN.out (by omega) (by omega) (by omega) (by omega) HWT.out (HA.out.below bA) HL.out).mono ?_; rintro e w1 ⟨rfl, hb1⟩
    have p1 := heap_later pA hb1; have b1 := below_seq bA hb1
    clear d0 d1 d2
    obtain ⟨c10, c11, c12⟩ := cells3 p1
    go_wp2_with fail
    refine (l1At_e _ _ _ _ _ _ _ xs _ HN.out (by omega) (by omega) (by omega) (by omega) HWT.out (HA.out.below b1) HR.out).mono ?_; rintro e w2 ⟨rfl, hb2⟩
    have p2 := heap_later p1 hb2; have b2 := below_seq b1 hb2
    clear c10 c11 c12
    obtain ⟨c20, c21, c22⟩ := cells3 p2
    go_wp2_with fail
    refine (l4Dark_low _ _ _ (by omega) (by omega) (by omega) (by omega) HD.out).mono ?_; rintro e w3 ⟨rfl, rfl⟩
    go_wp2
    refine bodyPost_ret (v := _) ?hr rfl ⟨rfl, b2⟩
    case hr => simp [results, Try.results138, go_sem]
end Go.Proofs.Ytpcajacekmidbaa
