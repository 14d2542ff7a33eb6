/- Contracts of laws.before and laws.ascend, where the answer is yes. -/
import Derived.Test.YthlagmnnkckcnaaProm
import Derived.Test.YthlagmnnkckcnaaAllP
namespace Go.Proofs.Ythlagmnnkckcnaa
open Go.RowKit
set_option linter.unusedVariables false
set_option maxRecDepth 100000
set_option linter.unusedSimpArgs false

set_option maxHeartbeats 1000000 in
theorem ascend_yes (a : Option Addr) (n cap : Nat) (xs : List Int) (w : World) (hn : n = xs.length) (hn' : n ≤ 1048576) (ha : IntsAt w a xs) (h : ∀ j, j + 1 < n → xs.getD j 0 < xs.getD (j + 1) 0) :
    Calls Try.prog 22 #[.slice a n cap] w fun e w' => e = .returned (.bool true) ∧ Below w.heap.size w w' := by
  have HA := Lib.hid ha; clear ha
  have HN := Lib.hid hn; clear hn
  have HLT := Lib.hid h; clear h
  go_enter Try.func22, Try.ntmps22
  go_wp2
  go_loopw [3] (fun i wr => ∃ j : Nat, (j + 1 ≤ n ∨ j = 0) ∧ i = .int .i64 (j + 1 : Nat) ∧ ∃ q, wr = w.drewN q) (fun i _ => n + 1 - (intOf i).toNat)
  case atStart => exact ⟨0, Or.inr rfl, rfl, 0, rfl⟩
  case round =>
    obtain ⟨j, hj, rfl, q, rfl⟩ := hrel
    by_cases hlt : j + 1 < n
    · obtain ⟨b1, o1, rfl, hd1⟩ := HA.out j (by rw [← HN.out]; omega)
      have hd2 := HA.out.cellAt (i := j + 1) (by rw [← HN.out]; exact hlt)
      obtain ⟨x, hx⟩ : ∃ x, x = xs.getD j 0 := ⟨_, rfl⟩
      obtain ⟨y, hy⟩ : ∃ y, y = xs.getD (j + 1) 0 := ⟨_, rfl⟩
      have hxy : x < y := by rw [hx, hy]; exact HLT.out j hlt
      rw [← hx] at hd1
      rw [← hy] at hd2
      obtain ⟨i, hi⟩ : ∃ i, i = j + 1 := ⟨_, rfl⟩
      rw [← hi] at hd2 hlt ⊢
      have e1 : (i : Int) < n := by omega
      have e0 : (0 : Int) ≤ i := by omega
      have hge : ¬ (x ≥ y) := by omega
      have hge2 : (decide (x ≥ y)) = false := by simpa using hxy
      have e3 : IntKind.i64.wrap ((i : Int) - 1) = (j : Int) := by rw [IntWalk.i64_in _ (by omega)]; omega
      have e4 : (j : Int) < n := by omega
      have e5 : (0 : Int) ≤ j := by omega
      have HI := Lib.hid hi
      clear hx hy hi
      go_wp2
      go_big_quiet (fail)
      clear e3
      go_wp2
      go_roundw
      case rel => exact ⟨j + 1, Or.inl (by have := HI.out; omega), by have hi := HI.out; subst hi; go_num, _, rfl⟩
      case measure => simp [intOf]; omega
    · go_wp2
      go_ret
      exact ⟨rfl, drewN_below _ _⟩
end Go.Proofs.Ythlagmnnkckcnaa
