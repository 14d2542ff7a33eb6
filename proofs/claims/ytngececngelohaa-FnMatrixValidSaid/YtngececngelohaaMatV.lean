/- What a valid matrix is: contracts of slices.ContainsFunc at outOfMatrix and of MatrixValid on both sides. -/
import Derived.Test.YtngececngelohaaRowsAt
import Derived.Test.YtngececngelohaaValid
namespace Go.Proofs.Ytngececngelohaa
open Go.RowKit
set_option linter.unusedVariables false
set_option maxRecDepth 100000
set_option linter.unusedSimpArgs false

def badI (x : Int) : Bool := !(inB x (-1) 1)
theorem outOf_any (x : Int) (w : World) : Calls Try.prog 17 #[.int .i64 x] w fun e w' => e = .returned (.bool (badI x)) ∧ Below w.heap.size w w' := by
  by_cases h1 : x < -1
  · go_enter Try.func17, Try.ntmps17
    go_wp2
    go_ret
    exact ⟨ret_bool (by simp [badI, inB]; omega), Below.refl _ _⟩
  · by_cases h2 : 1 < x
    all_goals
      go_enter Try.func17, Try.ntmps17
      go_wp2
      go_ret
      exact ⟨ret_bool (by simp [badI, inB]; omega), Below.refl _ _⟩

/-- Is the number one of the list. -/
def rowBad (xs : List Int) : Bool := xs.any badI
theorem rowBad_hit {xs : List Int} {k : Nat} (h : k < xs.length) (hb : badI (xs.getD k 0) = true) : rowBad xs = true := by
  unfold rowBad
  rw [List.any_eq_true]
  refine ⟨xs[k], List.getElem_mem h, ?_⟩
  simpa [List.getD, h] using hb
theorem rowBad_miss {xs : List Int} (h : ∀ j, j < xs.length → badI (xs.getD j 0) = false) : rowBad xs = false := by
  unfold rowBad
  rw [List.any_eq_false]
  intro x hx
  obtain ⟨j, hj, rfl⟩ := List.getElem_of_mem hx
  have := h j hj
  simp [List.getD, hj] at this
  simp [this]

set_option maxHeartbeats 1000000 in
theorem indexOut_any (a : Option Addr) (n cap : Nat) (xs : List Int) (w : World) (hn : n = xs.length) (hn' : n ≤ 1048576) (ha : IntsAt w a xs) :
    Calls Try.prog 32 #[.slice a n cap, .func (.func 17) #[] #[]] w fun e w' => ∃ r : Int, e = .returned (.int .i64 r) ∧ decide (0 ≤ r) = rowBad xs ∧ Below w.heap.size w w' := by
  have HN := Lib.hid hn; clear hn
  have HA := Lib.hid ha; clear ha
  go_enter Try.func32, Try.ntmps32
  go_wp2
  go_loopw [5, 8] (fun _ i wr => ∃ k : Nat, k ≤ n ∧ i = .int .i64 k ∧ Hid (∀ j, j < k → badI (xs.getD j 0) = false) ∧ Below w.heap.size w wr) (fun _ i _ => n - (intOf i).toNat)
  case atStart => exact ⟨0, Nat.zero_le _, rfl, fun j hj => absurd hj (Nat.not_lt_zero j), Below.refl _ _⟩
  case round =>
    rename World => wo
    obtain ⟨k, hk, rfl, HB, bo⟩ := hrel
    have BO := Lib.hid bo; clear bo
    by_cases hlt : k < n
    · have hkx : k < xs.length := by rw [← HN.out]; exact hlt
      obtain ⟨b, off, rfl, hc⟩ := (HA.out.below BO.out) k hkx
      obtain ⟨y, hy⟩ : ∃ y, y = xs.getD k 0 := ⟨_, rfl⟩
      rw [← hy] at hc
      have HY := Lib.hid hy; clear hy
      clear hkx
      have e1 : (k : Int) < n := by omega
      cases hq : badI y
      · go_wp2_with (go_at_call 17; refine (outOf_any _ _).mono ?_; rintro e w2 ⟨rfl, hb2⟩; rw [hq])
        have B2 := Lib.hid (below_seq BO.out hb2)
        go_roundw
        case rel =>
          refine ⟨k + 1, by omega, by go_num, (show Hid _ from fun j hj => ?_), B2.out⟩
          by_cases e : j = k
          · subst e; rw [← HY.out]; exact hq
          · exact HB.out j (by omega)
        case measure => simp [intOf]; omega
      · go_wp2_with (go_at_call 17; refine (outOf_any _ _).mono ?_; rintro e w2 ⟨rfl, hb2⟩; rw [hq])
        have B2 := Lib.hid (below_seq BO.out hb2)
        go_ret
        exact ⟨_, rfl, by rw [rowBad_hit (show k < xs.length by rw [← HN.out]; exact hlt) (by rw [← HY.out]; exact hq)]; simp, B2.out⟩
    · go_wp2
      go_ret
      exact ⟨_, rfl, by rw [rowBad_miss (fun j hj => HB.out j (by rw [← HN.out] at hj; omega))]; rfl, BO.out⟩

set_option maxHeartbeats 600000 in
theorem containsOut_any (a : Option Addr) (n cap : Nat) (xs : List Int) (w : World) (hn : n = xs.length) (hn' : n ≤ 1048576) (ha : IntsAt w a xs) :
    Calls Try.prog 16 #[.slice a n cap, .func (.func 17) #[] #[]] w fun e w' => e = .returned (.bool (rowBad xs)) ∧ Below w.heap.size w w' := by
  have HN := Lib.hid hn; clear hn
  have HA := Lib.hid ha; clear ha
  go_enter Try.func16, Try.ntmps16
  go_wp2_with (go_at_call 32; refine (indexOut_any _ _ _ _ _ HN.out hn' HA.out).mono ?_; rintro e w2 ⟨r, rfl, hr, hb2⟩)
  go_ret
  exact ⟨ret_bool (by rw [← hr]), hb2⟩

/-- The row has as many numbers as there are rows, all of them fit. -/
def rowOk (rows : List (List Int)) (k : Nat) : Bool := decide ((rows.getD k []).length = rows.length) && !(rowBad (rows.getD k []))
def rowsOk (rows : List (List Int)) (k : Nat) : Bool := (List.range k).all (rowOk rows)
def matB (rows : List (List Int)) : Bool := decide (rows.length ≤ 12) && rowsOk rows rows.length
theorem rowsOk_no {rows : List (List Int)} {k n : Nat} (h : k < n) (hk : rowOk rows k = false) : rowsOk rows n = false := by
  unfold rowsOk
  rw [List.all_eq_false]
  exact ⟨k, List.mem_range.2 h, by simp [hk]⟩
theorem rowsOk_zero (rows : List (List Int)) : rowsOk rows 0 = true := rfl
theorem rowsOk_succ {rows : List (List Int)} {k : Nat} (h : rowsOk rows k = true) (hk : rowOk rows k = true) : rowsOk rows (k + 1) = true := by
  unfold rowsOk at h ⊢
  rw [List.range_succ, List.all_append, h]
  simp [hk]

set_option maxHeartbeats 600000 in
theorem iMatrixValid_any (a : Option Addr) (n cap : Nat) (rows : List (List Int)) (w : World) (hn : n = rows.length) (hn' : n ≤ 1048576) (hr : ∀ i, i < rows.length → (rows.getD i []).length ≤ 1048576) (ha : RowsAt w a rows) :
    Calls Try.prog 6 #[.slice a n cap] w fun e w' => e = .returned (.bool (matB rows)) ∧ Below w.heap.size w w' := by
  have HN := Lib.hid hn; clear hn
  have HA := Lib.hid ha; clear ha
  have HR := Lib.hid hr; clear hr
  by_cases h12 : 12 < n
  · go_enter Try.func6, Try.ntmps6
    go_wp2
    go_ret
    exact ⟨ret_bool (by simp [matB, ← HN.out]; omega), Below.refl _ _⟩
  · go_enter Try.func6, Try.ntmps6
    go_wp2
    go_loopw [4, 10] (fun _ i wr => ∃ k : Nat, k ≤ n ∧ i = .int .i64 k ∧ Hid (rowsOk rows k = true) ∧ Below w.heap.size w wr) (fun _ i _ => n - (intOf i).toNat)
    case atStart => exact ⟨0, Nat.zero_le _, rfl, rowsOk_zero rows, Below.refl _ _⟩
    case round =>
      rename World => wo
      obtain ⟨k, hk, rfl, HB, bo⟩ := hrel
      have BO := Lib.hid bo; clear bo
      by_cases hlt : k < n
      · have hkr : k < rows.length := by rw [← HN.out]; exact hlt
        obtain ⟨b1, o1, a1, cap1, rfl, hc1, hx1⟩ := (HA.out.below BO.out) k hkr
        obtain ⟨M, hM⟩ : ∃ M, M = rows.getD k [] := ⟨_, rfl⟩
        have hml : M.length ≤ 1048576 := by rw [hM]; exact HR.out k hkr
        rw [← hM] at hc1 hx1
        have HE := Lib.hid hM
        clear hM hkr
        obtain ⟨m, hm⟩ : ∃ m, m = M.length := ⟨_, rfl⟩
        rw [← hm] at hc1 hml
        have HM := Lib.hid hm; clear hm
        have HX1 := Lib.hid hx1; clear hx1
        have e1 : (k : Int) < n := by omega
        by_cases hmn : m = n
        · subst hmn
          have hb : ∃ q, rowBad M = q := ⟨_, rfl⟩
          obtain ⟨q, hq⟩ := hb
          have HQ := Lib.hid hq
          cases q
          · go_wp2_with (go_loud (go_at_call 16; refine (containsOut_any _ _ _ M _ HM.out hml HX1.out).mono ?_; rintro e w2 ⟨rfl, hb2⟩; rw [hq]))
            have B2 := Lib.hid (below_seq BO.out hb2)
            go_roundw
            case rel =>
              refine ⟨k + 1, by omega, by go_num, (show Hid _ from rowsOk_succ HB.out ?_), B2.out⟩
              unfold rowOk
              rw [← HE.out, HQ.out, ← HM.out, ← HN.out]
              simp
            case measure => simp [intOf]; omega
          · go_wp2_with (go_at_call 16; refine (containsOut_any _ _ _ M _ HM.out hml HX1.out).mono ?_; rintro e w2 ⟨rfl, hb2⟩; rw [hq])
            have B2 := Lib.hid (below_seq BO.out hb2)
            go_ret
            refine ⟨ret_bool ?_, B2.out⟩
            have : rowOk rows k = false := by unfold rowOk; rw [← HE.out, HQ.out]; simp
            unfold matB
            rw [rowsOk_no (show k < rows.length by rw [← HN.out]; exact hlt) this]
            simp
        · have hmi : ¬ (m : Int) = n := by omega
          go_wp2
          go_ret
          refine ⟨ret_bool ?_, BO.out⟩
          have : rowOk rows k = false := by unfold rowOk; rw [← HE.out, ← HM.out, ← HN.out]; simp [hmn]
          unfold matB
          rw [rowsOk_no (show k < rows.length by rw [← HN.out]; exact hlt) this]
          simp
      · obtain rfl : k = n := by omega
        go_wp2
        go_ret
        refine ⟨ret_bool ?_, BO.out⟩
        unfold matB
        rw [← HN.out, HB.out]
        simp; omega
end Go.Proofs.Ytngececngelohaa
