/- Contracts of the laws' comparisons: lists that may differ; lists of lists; the order of lists. -/
import Derived.Test.YtlnnoeojgdeagaaProm
import Derived.Test.YtlnnoeojgdeagaaSSL
import Derived.Test.YtlnnoeojgdeagaaAllP
namespace Go.Proofs.Ytlnnoeojgdeagaa
open Go.RowKit
set_option linter.unusedVariables false
set_option maxRecDepth 100000
set_option linter.unusedSimpArgs false

set_option maxHeartbeats 1000000 in
theorem sameInts_any (a b : Option Addr) (n cap cap' : Nat) (xs ys : List Int) (w : World) (hn : n = xs.length) (hm : n = ys.length) (hn' : n ≤ 1048576) (ha : IntsAt w a xs) (hb : IntsAt w b ys) :
    Calls Try.prog 36 #[.slice a n cap, .slice b n cap'] w fun e w' => e = .returned (.bool (decide (xs = ys))) ∧ Below w.heap.size w w' := by
  have HN := Lib.hid hn; clear hn
  have HM := Lib.hid hm; clear hm
  have HA := Lib.hid ha; clear ha
  have HB := Lib.hid hb; clear hb
  obtain ⟨d, hd⟩ : ∃ d, decide (xs = ys) = d := ⟨_, rfl⟩
  rw [hd]
  have HD := Lib.hid hd; clear hd
  go_enter Try.func36, Try.ntmps36
  go_wp2
  go_loopw [5] (fun i wr => ∃ k : Nat, k ≤ n ∧ i = .int .i64 k ∧ (∀ j, j < k → xs.getD j 0 = ys.getD j 0) ∧ ∃ q, wr = w.drewN q) (fun i _ => n - (intOf i).toNat)
  case atStart => exact ⟨0, Nat.zero_le _, rfl, fun j h => absurd h (Nat.not_lt_zero j), 0, rfl⟩
  case round =>
    obtain ⟨k, hk, rfl, hall, q, rfl⟩ := hrel
    have HALL := Lib.hid hall; clear hall
    by_cases hlt : k < n
    · obtain ⟨b1, o1, rfl, hc1⟩ := HA.out k (by rw [← HN.out]; exact hlt)
      obtain ⟨b2, o2, rfl, hc2⟩ := HB.out k (by rw [← HM.out]; exact hlt)
      obtain ⟨x, hx⟩ : ∃ x, x = xs.getD k 0 := ⟨_, rfl⟩
      obtain ⟨y, hy⟩ : ∃ y, y = ys.getD k 0 := ⟨_, rfl⟩
      rw [← hx] at hc1
      rw [← hy] at hc2
      have e1 : (k : Int) < n := by omega
      have e0 : (0 : Int) ≤ k := by omega
      cases hxy : (x != y)
      · have HS : Hid (∀ j, j < k + 1 → xs.getD j 0 = ys.getD j 0) := fun j hj => by
          by_cases e : j = k
          · rw [e, ← hx, ← hy]; simpa using hxy
          · exact HALL.out j (by omega)
        clear hx hy
        go_wp2
        go_big_quiet (fail)
        go_wp2
        go_roundw
        case rel => exact ⟨k + 1, by omega, by go_num, HS.out, _, rfl⟩
        case measure => simp [intOf]; omega
      · have HF : Hid (d = false) := by
          show d = false
          rw [← HD.out]
          simp only [decide_eq_false_iff_not]
          intro e
          rw [e] at hx
          rw [hx, hy] at hxy
          simp at hxy
        clear hx hy
        go_wp2
        go_big_quiet (fail)
        go_wp2
        go_ret
        exact ⟨ret_bool HF.out.symm, below_seq (drewN_below _ _) (drewN_below _ _)⟩
    · obtain rfl : k = n := by omega
      have HT : Hid (d = true) := by
        show d = true
        rw [← HD.out]
        simp only [decide_eq_true_eq]
        exact ext_getD (by rw [← HN.out, ← HM.out]) fun j hj => HALL.out j (by rw [HN.out]; exact hj)
      go_wp2
      go_ret
      exact ⟨ret_bool HT.out.symm, drewN_below _ _⟩

set_option maxHeartbeats 1000000 in
/-- Two lists of lists that read the same are told to be equal. -/
theorem sameLists_same (a b : Option Addr) (n cap cap' : Nat) (rows : List (List Int)) (w : World) (hn : n = rows.length) (hn' : n ≤ 1048576) (hr : ∀ i, i < rows.length → (rows.getD i []).length ≤ 1048576) (ha : RowsAt w a rows) (hb : RowsAt w b rows) :
    Calls Try.prog 50 #[.slice a n cap, .slice b n cap'] w fun e w' => e = .returned (.bool true) ∧ Below w.heap.size w w' := by
  have HN := Lib.hid hn; clear hn
  have HA := Lib.hid ha; clear ha
  have HB := Lib.hid hb; clear hb
  have HR := Lib.hid hr; clear hr
  go_enter Try.func50, Try.ntmps50
  go_wp2
  go_loopw [5] (fun i wr => ∃ k : Nat, k ≤ n ∧ i = .int .i64 k ∧ Below w.heap.size w wr) (fun i _ => n - (intOf i).toNat)
  case atStart => exact ⟨0, Nat.zero_le _, rfl, Below.refl _ _⟩
  case round =>
    rename World => wo
    obtain ⟨k, hk, rfl, bo⟩ := hrel
    have BO := Lib.hid bo; clear bo
    by_cases hlt : k < n
    · have hkr : k < rows.length := by rw [← HN.out]; exact hlt
      obtain ⟨b1, o1, a1, cap1, rfl, hc1, hx1⟩ := (HA.out.below BO.out) k hkr
      obtain ⟨b2, o2, a2, cap2, rfl, hc2, hx2⟩ := (HB.out.below BO.out) k hkr
      obtain ⟨M, hM⟩ : ∃ M, M = rows.getD k [] := ⟨_, rfl⟩
      have hml : M.length ≤ 1048576 := by rw [hM]; exact HR.out k hkr
      rw [← hM] at hc1 hc2 hx1 hx2
      clear hM hkr
      obtain ⟨m, hm⟩ : ∃ m, m = M.length := ⟨_, rfl⟩
      rw [← hm] at hc1 hc2 hml
      have HM := Lib.hid hm; clear hm
      have HX1 := Lib.hid hx1; clear hx1
      have HX2 := Lib.hid hx2; clear hx2
      have e1 : (k : Int) < n := by omega
      have e0 : (0 : Int) ≤ k := by omega
      have l1 := World.block_lt_of_cell? wo _ hc1
      have l2 := World.block_lt_of_cell? wo _ hc2
      simp only at l1 l2
      go_wp2_with fail
      have d1 : wo.drew.cell? ⟨b1, o1 + k, none⟩ = some (.slice a1 m cap1) := hc1
      have d2 : wo.drew.cell? ⟨b2, o2 + k, none⟩ = some (.slice a2 m cap2) := hc2
      go_region_held3 (fun w' => w'.cell? ⟨b1, o1 + k, none⟩ = some (.slice a1 m cap1) ∧ w'.cell? ⟨b2, o2 + k, none⟩ = some (.slice a2 m cap2))
        (go_keep)
        (first
          | (go_at_call 36; refine (sameInts_same _ _ _ _ _ M _ HM.out hml (show IntsAt wo.drew _ _ from HX1.out) (show IntsAt wo.drew _ _ from HX2.out)).mono ?_; rintro e w2 ⟨rfl, hb2⟩; have f1 := cell_later hb2 d1; have f2 := cell_later hb2 d2))
      have B2 := Lib.hid (below_seq BO.out (below_seq (drew_below wo) hb2))
      go_wp2
      go_roundw
      case rel => exact ⟨k + 1, by omega, by go_num, B2.out⟩
      case measure => simp [intOf]; omega
    · go_wp2
      go_ret
      exact ⟨rfl, BO.out⟩
end Go.Proofs.Ytlnnoeojgdeagaa
