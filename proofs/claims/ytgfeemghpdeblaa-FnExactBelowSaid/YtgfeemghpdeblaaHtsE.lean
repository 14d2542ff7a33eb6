/- Contracts of slices.Equal at lists of numbers, impl.riseUnder, impl.HeightsOf$1. -/
import Derived.Test.YtgfeemghpdeblaaHtsQ
import Derived.Test.YtgfeemghpdeblaaHokI
import Derived.Test.YtgfeemghpdeblaaRep
namespace Go.Proofs.Ytgfeemghpdeblaa
open Go.RowKit
set_option linter.unusedVariables false
set_option maxRecDepth 100000
set_option linter.unusedSimpArgs false

set_option maxHeartbeats 2000000 in
theorem equalI_any (la : Option Addr) (m ca : Nat) (A : List Int) (lb : Option Addr) (q cb : Nat) (B : List Int) (w : World) (hm : m = A.length) (hm' : m ≤ 1048576) (hq : q = B.length) (hq' : q ≤ 1048576) (ha : IntsAt w la A) (hb : IntsAt w lb B) :
    Calls Try.prog 78 #[.slice la m ca, .slice lb q cb] w fun e w' => e = .returned (.bool (decide (A = B))) ∧ Below w.heap.size w w' := by
  have HM := Lib.hid hm; clear hm
  have HQ := Lib.hid hq; clear hq
  have HA := Lib.hid ha; clear ha
  have HB := Lib.hid hb; clear hb
  by_cases hne : m = q
  · subst hne
    go_enter Try.func78, Try.ntmps78
    go_wp2
    go_loopw [13] (fun i wr => ∃ k : Nat, k ≤ m ∧ i = .int .i64 k ∧ Hid (∀ j, j < k → A.getD j 0 = B.getD j 0) ∧ Below w.heap.size w wr) (fun i _ => m - (intOf i).toNat)
    case atStart => exact ⟨0, Nat.zero_le _, rfl, (fun j hj => absurd hj (Nat.not_lt_zero j)), Below.refl _ _⟩
    case round =>
      rename World => wo
      obtain ⟨k, hk, rfl, HE, bo⟩ := hrel
      by_cases hlt : k < m
      · obtain ⟨b1, o1, rfl, hx⟩ := (HA.out.below bo) k (by rw [← HM.out]; exact hlt)
        obtain ⟨b2, o2, rfl, hy⟩ := (HB.out.below bo) k (by rw [← HQ.out]; exact hlt)
        obtain ⟨x, hxx⟩ : ∃ x, x = A.getD k 0 := ⟨_, rfl⟩
        obtain ⟨y, hyy⟩ : ∃ y, y = B.getD k 0 := ⟨_, rfl⟩
        rw [← hxx] at hx; rw [← hyy] at hy
        have HX := Lib.hid hxx; have HY := Lib.hid hyy; clear hxx hyy
        have BO := Lib.hid bo; clear bo
        have e1 : (k : Int) < m := by omega
        by_cases e : x = y
        · have t1 : (x == y) = true := by simpa using e
          have t2 : (x != y) = false := by simpa using e
          have HE2 : Hid (∀ j, j < k + 1 → A.getD j 0 = B.getD j 0) := fun j hj => by
            by_cases ej : j = k
            · subst ej; rw [← HX.out, ← HY.out]; exact e
            · exact HE.out j (by omega)
          clear e
          go_wp2
          go_quiet (fail)
          go_wp2
          go_roundw
          case rel => exact ⟨k + 1, by omega, by go_num, HE2, below_drewN BO.out _⟩
          case measure => simp [intOf]; omega
        · have t1 : (x == y) = false := by simpa using e
          have t2 : (x != y) = true := by simpa using e
          have HD : Hid (decide (A = B) = false) := decide_eq_false fun h => e (by rw [HX.out, HY.out, h])
          clear e
          go_wp2
          go_quiet (fail)
          go_wp2
          go_ret
          exact ⟨ret_bool HD.out.symm, below_drewN BO.out _⟩
      · have HD : Hid (decide (A = B) = true) := decide_eq_true (ext_getD (by rw [← HM.out, ← HQ.out]) fun j hj => HE.out j (by rw [← HM.out] at hj; omega))
        have BO := Lib.hid bo; clear bo
        go_wp2
        go_ret
        exact ⟨ret_bool HD.out.symm, BO.out⟩
  · have HD : Hid (decide (A = B) = false) := decide_eq_false fun h => hne (by rw [HM.out, HQ.out, h])
    have t1 : (m == q) = false := by simpa using hne
    have t2 : (m != q) = true := by simpa using hne
    have t3 : ((m : Int) == q) = false := by simp; omega
    have t4 : ((m : Int) != q) = true := by simp; omega
    clear hne
    go_enter Try.func78, Try.ntmps78
    go_wp2
    go_ret
    exact ⟨ret_bool HD.out.symm, Below.refl _ _⟩

set_option maxHeartbeats 2000000 in
theorem riseUnder_any (k kt r cl wy : Int) (b : Bool) (la : Option Addr) (m lcap : Nat) (L : List Int) (w : World) (hr : r = 1 ∨ r = -1) (hm : m = L.length) (hm' : m ≤ 1048576) (hc : b = true → 0 ≤ cl ∧ cl < m) (hl : IntsAt w la L) :
    Calls Try.prog 47 #[.agg #[.int .i64 k, .int .i64 kt, .int .i64 r, .bool b, .int .i64 cl, .int .i64 wy], .slice la m lcap] w fun e w' => e = .returned (.int .i64 (if b && (L.getD cl.toNat 0 == wy) then -3 * r else r)) ∧ Below w.heap.size w w' := by
  have HR := Lib.hid hr; clear hr
  have HM := Lib.hid hm; clear hm
  have p1 := heap_new w (.cells #[.int .i64 k, .int .i64 kt, .int .i64 r, .bool b, .int .i64 cl, .int .i64 wy] 54)
  obtain ⟨c0, c1, c2, c3, c4, c5⟩ := cells6 p1
  have B1 := Lib.hid (below1 w (.cells #[.int .i64 k, .int .i64 kt, .int .i64 r, .bool b, .int .i64 cl, .int .i64 wy] 54))
  cases b
  · rw [Bool.false_and, if_neg (by simp)]
    clear hc hl
    go_enter Try.func47, Try.ntmps47
    go_wp2_with fail
    go_big_quiet (fail)
    go_wp2
    go_ret
    exact ⟨rfl, below_drewN B1.out _⟩
  · obtain ⟨h0, h1⟩ := hc rfl
    obtain ⟨q, hq⟩ := Int.eq_ofNat_of_zero_le h0
    subst hq
    have hqm : q < m := by omega
    obtain ⟨lb, lo, rfl, hx0⟩ := hl q (by rw [← HM.out]; exact hqm)
    have hx := cell_later B1.out hx0
    rw [Bool.true_and, Int.toNat_natCast]
    obtain ⟨v, hv⟩ : ∃ v, v = L.getD q 0 := ⟨_, rfl⟩
    rw [← hv] at hx ⊢
    clear hv hl hx0
    by_cases e : v = wy
    · subst e
      rw [beq_self_eq_true, if_pos rfl]
      clear hc
      go_enter Try.func47, Try.ntmps47
      go_wp2_with fail
      go_big_quiet (fail)
      go_wp2_with fail
      refine (jumpOf_any _ _ _ _ _ _ _ HR.out).mono ?_; rintro e w2 ⟨rfl, hb2⟩
      go_wp2
      go_ret
      exact ⟨rfl, below_seq (below_drewN B1.out _) hb2⟩
    · have t1 : (v == wy) = false := by simpa using e
      rw [t1, if_neg (by simp)]
      clear hc e
      go_enter Try.func47, Try.ntmps47
      go_wp2_with fail
      go_big_quiet (fail)
      go_wp2
      go_ret
      exact ⟨rfl, below_drewN B1.out _⟩

set_option maxHeartbeats 1000000 in
theorem hts1_any (k kt r cl wy : Int) (b : Bool) (bl : Nat) (la : Option Addr) (m lcap : Nat) (L : List Int) (w : World) (hr : r = 1 ∨ r = -1) (hm : m = L.length) (hm' : m ≤ 1048576) (hc : b = true → 0 ≤ cl ∧ cl < m) (hl : IntsAt w la L) (hb : w.heap[bl]? = some (.cells #[.slice la m lcap] 25 (0, 0))) :
    Calls Try.prog 46 #[.agg #[.int .i64 k, .int .i64 kt, .int .i64 r, .bool b, .int .i64 cl, .int .i64 wy], .pointer (some ⟨bl, 0, none⟩)] w fun e w' => e = .returned (.tuple #[.int .i64 (if b && (L.getD cl.toNat 0 == wy) then -3 * r else r), .int .i64 (if b && (L.getD cl.toNat 0 == wy) then -3 * r else r)]) ∧ Below w.heap.size w w' := by
  have HR := Lib.hid hr; clear hr
  have HM := Lib.hid hm; clear hm
  have HC := Lib.hid hc; clear hc
  have HL := Lib.hid hl; clear hl
  have p1 := heap_new w (.cells #[.int .i64 k, .int .i64 kt, .int .i64 r, .bool b, .int .i64 cl, .int .i64 wy] 54)
  have B1 := Lib.hid (below1 w (.cells #[.int .i64 k, .int .i64 kt, .int .i64 r, .bool b, .int .i64 cl, .int .i64 wy] 54))
  obtain ⟨c0, c1, c2, c3, c4, c5⟩ := cells6 p1
  have hb1 := heap_later hb B1.out
  have l1 := heap_lt hb
  have hx : (w.alloc (.cells #[.int .i64 k, .int .i64 kt, .int .i64 r, .bool b, .int .i64 cl, .int .i64 wy] 54)).cell? ⟨bl, 0, none⟩ = some (.slice la m lcap) := by
    simp [World.cell?, hb1]
  clear hb
  obtain ⟨z, hz⟩ : ∃ z, z = (if b && (L.getD cl.toNat 0 == wy) then -3 * r else r) := ⟨_, rfl⟩
  rw [← hz]
  have HZ := Lib.hid hz; clear hz
  go_enter Try.func46, Try.ntmps46
  go_wp2_with fail
  refine (riseUnder_any k kt r cl wy b la m lcap L _ HR.out HM.out hm' HC.out (HL.out.below B1.out)).mono ?_; rintro e w2 ⟨rfl, hb2⟩
  rw [← HZ.out]
  go_wp2
  go_ret2
  exact ⟨rfl, below_seq B1.out hb2⟩
end Go.Proofs.Ytgfeemghpdeblaa
