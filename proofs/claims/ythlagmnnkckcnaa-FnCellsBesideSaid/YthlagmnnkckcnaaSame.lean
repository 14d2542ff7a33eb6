/- Contracts of the laws' comparisons: lists that may differ; lists of lists; the order of lists. -/
import Derived.Test.YthlagmnnkckcnaaProm
import Derived.Test.YthlagmnnkckcnaaSSL
import Derived.Test.YthlagmnnkckcnaaAllP
namespace Go.Proofs.Ythlagmnnkckcnaa
open Go.RowKit
set_option linter.unusedVariables false
set_option maxRecDepth 100000
set_option linter.unusedSimpArgs false

set_option maxHeartbeats 1000000 in
theorem sameInts_any (a b : Option Addr) (n cap cap' : Nat) (xs ys : List Int) (w : World) (hn : n = xs.length) (hm : n = ys.length) (hn' : n ≤ 1048576) (ha : IntsAt w a xs) (hb : IntsAt w b ys) :
    Calls Try.prog 15 #[.slice a n cap, .slice b n cap'] w fun e w' => e = .returned (.bool (decide (xs = ys))) ∧ Below w.heap.size w w' := by
  have HN := Lib.hid hn; clear hn
  have HM := Lib.hid hm; clear hm
  have HA := Lib.hid ha; clear ha
  have HB := Lib.hid hb; clear hb
  obtain ⟨d, hd⟩ : ∃ d, decide (xs = ys) = d := ⟨_, rfl⟩
  rw [hd]
  have HD := Lib.hid hd; clear hd
  go_enter Try.func15, Try.ntmps15
  go_wp2
  go_loopw [5] (fun i wr => ∃ k : Nat, k ≤ n ∧ i = .int .i64 k ∧ (∀ j, j < k → xs.getD j 0 = ys.getD j 0) ∧ ∃ q, wr = w.drewN q) (fun i _ => n - (intOf i).toNat)
  case atStart => exact ⟨0, Nat.zero_le _, rfl, fun j h => absurd h (Nat.not_lt_zero j), 0, rfl⟩
  case round =>
    obtain ⟨k, hk, rfl, hall, q, rfl⟩ := hrel
    have HALL := Lib.hid hall; clear hall
    by_cases hlt : k < n
    · obtain ⟨b1, o1, rfl, hc1⟩ := HA.out k (by rw [← HN.out]; exact hlt)
      obtain ⟨b2, o2, rfl, hc2⟩ := HB.out k (by rw [← HM.out]; exact hlt)
      obtain ⟨x, hx⟩ : ∃ x, x = xs.getD k 0 := ⟨_, rfl⟩
      obtain ⟨y, hy⟩ : ∃ y, y = ys.getD k 0 := ⟨_, rfl⟩
      rw [← hx] at hc1
      rw [← hy] at hc2
      have e1 : (k : Int) < n := by omega
      have e0 : (0 : Int) ≤ k := by omega
      cases hxy : (x != y)
      · have HS : Hid (∀ j, j < k + 1 → xs.getD j 0 = ys.getD j 0) := fun j hj => by
          by_cases e : j = k
          · rw [e, ← hx, ← hy]; simpa using hxy
          · exact HALL.out j (by omega)
        clear hx hy
        go_wp2
        go_big_quiet (fail)
        go_wp2
        go_roundw
        case rel => exact ⟨k + 1, by omega, by go_num, HS.out, _, rfl⟩
        case measure => simp [intOf]; omega
      · have HF : Hid (d = false) := by
          show d = false
          rw [← HD.out]
          simp only [decide_eq_false_iff_not]
          intro e
          rw [e] at hx
          rw [hx, hy] at hxy
          simp at hxy
        clear hx hy
        go_wp2
        go_big_quiet (fail)
        go_wp2
        go_ret
        exact ⟨ret_bool HF.out.symm, below_seq (drewN_below _ _) (drewN_below _ _)⟩
    · obtain rfl : k = n := by omega
      have HT : Hid (d = true) := by
        show d = true
        rw [← HD.out]
        simp only [decide_eq_true_eq]
        exact ext_getD (by rw [← HN.out, ← HM.out]) fun j hj => HALL.out j (by rw [HN.out]; exact hj)
      go_wp2
      go_ret
      exact ⟨ret_bool HT.out.symm, drewN_below _ _⟩

end Go.Proofs.Ythlagmnnkckcnaa
