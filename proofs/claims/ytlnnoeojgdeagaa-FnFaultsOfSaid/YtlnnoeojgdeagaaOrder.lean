/- Contracts of laws.before and laws.ascend, where the answer is yes. -/
import Derived.Test.YtlnnoeojgdeagaaProm
import Derived.Test.YtlnnoeojgdeagaaAllP
namespace Go.Proofs.Ytlnnoeojgdeagaa
open Go.RowKit
set_option linter.unusedVariables false
set_option maxRecDepth 100000
set_option linter.unusedSimpArgs false

set_option maxHeartbeats 1000000 in
theorem before_yes (a b : Option Addr) (n m cap cap' : Nat) (xs ys : List Int) (w : World) (hn : n = xs.length) (hm : m = ys.length) (hn' : n ≤ 1048576) (hm' : m ≤ 1048576) (ha : IntsAt w a xs) (hb : IntsAt w b ys) (h : Before xs ys) :
    Calls Try.prog 47 #[.slice a n cap, .slice b m cap'] w fun e w' => e = .returned (.bool true) ∧ Below w.heap.size w w' := by
  have HA := Lib.hid ha; clear ha
  have HB := Lib.hid hb; clear hb
  obtain ⟨c, hc1, hc2, heq, hltc⟩ := h
  rw [← hn] at hc1
  rw [← hm] at hc2
  have HN := Lib.hid hn; clear hn
  have HM := Lib.hid hm; clear hm
  have HEQ := Lib.hid heq; clear heq
  have HLT := Lib.hid hltc; clear hltc
  go_enter Try.func47, Try.ntmps47
  go_wp2
  go_loopw [5] (fun i wr => ∃ k : Nat, k ≤ c ∧ i = .int .i64 k ∧ ∃ q, wr = w.drewN q) (fun i _ => c - (intOf i).toNat)
  case atStart => exact ⟨0, Nat.zero_le _, rfl, 0, rfl⟩
  case round =>
    obtain ⟨k, hk, rfl, q, rfl⟩ := hrel
    have h1 : k < n := by omega
    have h2 : k < m := by omega
    obtain ⟨b1, o1, rfl, hd1⟩ := HA.out k (by rw [← HN.out]; exact h1)
    obtain ⟨b2, o2, rfl, hd2⟩ := HB.out k (by rw [← HM.out]; exact h2)
    obtain ⟨x, hx⟩ : ∃ x, x = xs.getD k 0 := ⟨_, rfl⟩
    obtain ⟨y, hy⟩ : ∃ y, y = ys.getD k 0 := ⟨_, rfl⟩
    rw [← hx] at hd1
    rw [← hy] at hd2
    have e1 : (k : Int) < n := by omega
    have e2 : (k : Int) < m := by omega
    have e0 : (0 : Int) ≤ k := by omega
    by_cases hkc : k = c
    · subst hkc
      have hxy : x < y := by rw [hx, hy]; exact HLT.out
      have hne : (x != y) = true := by rw [bne_iff_ne]; omega
      clear hx hy
      go_wp2
      go_big_quiet (fail)
      go_wp2
      go_big_quiet (fail)
      go_wp2
      go_ret
      exact ⟨ret_bool (by simp), below_seq (below_seq (drewN_below _ _) (drewN_below _ _)) (drewN_below _ _)⟩
    · have hxy : x = y := by rw [hx, hy]; exact HEQ.out k (by omega)
      subst hxy
      have hne : (x != x) = false := by simp
      clear hx hy
      go_wp2
      go_big_quiet (fail)
      go_wp2
      go_roundw
      case rel => exact ⟨k + 1, by omega, by go_num, _, rfl⟩
      case measure => simp [intOf]; omega

set_option maxHeartbeats 1000000 in
theorem ascend_yes (a : Option Addr) (n cap : Nat) (xs : List Int) (w : World) (hn : n = xs.length) (hn' : n ≤ 1048576) (ha : IntsAt w a xs) (h : ∀ j, j + 1 < n → xs.getD j 0 < xs.getD (j + 1) 0) :
    Calls Try.prog 62 #[.slice a n cap] w fun e w' => e = .returned (.bool true) ∧ Below w.heap.size w w' := by
  have HA := Lib.hid ha; clear ha
  have HN := Lib.hid hn; clear hn
  have HLT := Lib.hid h; clear h
  go_enter Try.func62, Try.ntmps62
  go_wp2
  go_loopw [3] (fun i wr => ∃ j : Nat, (j + 1 ≤ n ∨ j = 0) ∧ i = .int .i64 (j + 1 : Nat) ∧ ∃ q, wr = w.drewN q) (fun i _ => n + 1 - (intOf i).toNat)
  case atStart => exact ⟨0, Or.inr rfl, rfl, 0, rfl⟩
  case round =>
    obtain ⟨j, hj, rfl, q, rfl⟩ := hrel
    by_cases hlt : j + 1 < n
    · obtain ⟨b1, o1, rfl, hd1⟩ := HA.out j (by rw [← HN.out]; omega)
      have hd2 := HA.out.cellAt (i := j + 1) (by rw [← HN.out]; exact hlt)
      obtain ⟨x, hx⟩ : ∃ x, x = xs.getD j 0 := ⟨_, rfl⟩
      obtain ⟨y, hy⟩ : ∃ y, y = xs.getD (j + 1) 0 := ⟨_, rfl⟩
      have hxy : x < y := by rw [hx, hy]; exact HLT.out j hlt
      rw [← hx] at hd1
      rw [← hy] at hd2
      obtain ⟨i, hi⟩ : ∃ i, i = j + 1 := ⟨_, rfl⟩
      rw [← hi] at hd2 hlt ⊢
      have e1 : (i : Int) < n := by omega
      have e0 : (0 : Int) ≤ i := by omega
      have hge : ¬ (x ≥ y) := by omega
      have hge2 : (decide (x ≥ y)) = false := by simpa using hxy
      have e3 : IntKind.i64.wrap ((i : Int) - 1) = (j : Int) := by rw [IntWalk.i64_in _ (by omega)]; omega
      have e4 : (j : Int) < n := by omega
      have e5 : (0 : Int) ≤ j := by omega
      have HI := Lib.hid hi
      clear hx hy hi
      go_wp2
      go_big_quiet (fail)
      clear e3
      go_wp2
      go_roundw
      case rel => exact ⟨j + 1, Or.inl (by have := HI.out; omega), by have hi := HI.out; subst hi; go_num, _, rfl⟩
      case measure => simp [intOf]; omega
    · go_wp2
      go_ret
      exact ⟨rfl, drewN_below _ _⟩
end Go.Proofs.Ytlnnoeojgdeagaa
