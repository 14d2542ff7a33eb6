/- Contract of laws.before where the answer is no; plain facts on the first completion. -/
import Derived.Test.YtlnnoeojgdeagaaProm
import Derived.Test.YtlnnoeojgdeagaaAllP
import Derived.Test.YtlnnoeojgdeagaaCompI
import Derived.Test.YtlnnoeojgdeagaaFirstS
namespace Go.Proofs.Ytlnnoeojgdeagaa
open Go.RowKit
set_option linter.unusedVariables false
set_option maxRecDepth 100000
set_option linter.unusedSimpArgs false

set_option maxHeartbeats 1000000 in
theorem before_not (a b : Option Addr) (n m cap cap' : Nat) (xs ys : List Int) (w : World) (hn : n = xs.length) (hm : m = ys.length) (hn' : n ≤ 1048576) (hm' : m ≤ 1048576) (ha : IntsAt w a xs) (hb : IntsAt w b ys) (h : xs = ys ∨ Before ys xs) :
    Calls Try.prog 47 #[.slice a n cap, .slice b m cap'] w fun e w' => e = .returned (.bool false) ∧ Below w.heap.size w w' := by
  have HA := Lib.hid ha; clear ha
  have HB := Lib.hid hb; clear hb
  have hno : ∀ k, k < n → k < m → (∀ j, j < k → xs.getD j 0 = ys.getD j 0) → ¬ xs.getD k 0 < ys.getD k 0 := by
    intro k h1 h2 hj
    rcases h with rfl | ⟨c, c1, c2, ce, cl⟩
    · omega
    · rcases Nat.lt_trichotomy k c with e | e | e
      · have := ce k e; omega
      · rw [e]; omega
      · have := hj c e; omega
  have HNO := Lib.hid hno; clear hno h
  have HN := Lib.hid hn; clear hn
  have HM := Lib.hid hm; clear hm
  go_enter Try.func47, Try.ntmps47
  go_wp2
  go_loopw [5] (fun i wr => ∃ k : Nat, k ≤ n ∧ k ≤ m ∧ i = .int .i64 k ∧ (∀ j, j < k → xs.getD j 0 = ys.getD j 0) ∧ ∃ q, wr = w.drewN q) (fun i _ => n - (intOf i).toNat)
  case atStart => exact ⟨0, Nat.zero_le _, Nat.zero_le _, rfl, fun j h => absurd h (Nat.not_lt_zero j), 0, rfl⟩
  case round =>
    obtain ⟨k, hk, hk2, rfl, hall, q, rfl⟩ := hrel
    have HALL := Lib.hid hall; clear hall
    by_cases h1 : k < n
    · by_cases h2 : k < m
      · obtain ⟨b1, o1, rfl, hd1⟩ := HA.out k (by rw [← HN.out]; exact h1)
        obtain ⟨b2, o2, rfl, hd2⟩ := HB.out k (by rw [← HM.out]; exact h2)
        have hlt := HNO.out k h1 h2 HALL.out
        obtain ⟨x, hx⟩ : ∃ x, x = xs.getD k 0 := ⟨_, rfl⟩
        obtain ⟨y, hy⟩ : ∃ y, y = ys.getD k 0 := ⟨_, rfl⟩
        rw [← hx] at hd1 hlt
        rw [← hy] at hd2 hlt
        have e1 : (k : Int) < n := by omega
        have e2 : (k : Int) < m := by omega
        have e0 : (0 : Int) ≤ k := by omega
        cases hxy : (x != y)
        · have HS : Hid (∀ j, j < k + 1 → xs.getD j 0 = ys.getD j 0) := fun j hj => by
            by_cases e : j = k
            · rw [e, ← hx, ← hy]; simpa using hxy
            · exact HALL.out j (by omega)
          clear hx hy hlt
          go_wp2
          go_big_quiet (fail)
          go_wp2
          go_roundw
          case rel => exact ⟨k + 1, by omega, by omega, by go_num, HS.out, _, rfl⟩
          case measure => simp [intOf]; omega
        · have hd : decide (x < y) = false := by simpa using hlt
          clear hx hy
          go_wp2
          go_big_quiet (fail)
          go_wp2
          go_big_quiet (fail)
          go_wp2
          go_ret
          exact ⟨ret_bool (by first | exact hd | simp | rfl), below_seq (below_seq (drewN_below _ _) (drewN_below _ _)) (drewN_below _ _)⟩
      · obtain rfl : k = m := by omega
        have e1 : (k : Int) < n := by omega
        go_wp2
        go_ret
        exact ⟨rfl, drewN_below _ _⟩
    · obtain rfl : k = n := by omega
      go_wp2
      go_ret
      exact ⟨rfl, drewN_below _ _⟩

/-- What the first completion is: none if no tiling has the dominoes of the list; else the first of those. -/
theorem comp_none {W T : Int} {xs : List Bool} {L : List Int} (h : lok W T xs L = true) (h2 : (compF W T xs L).2 = false) : (compF W T xs L).1 = [] ∧ ∀ M, tok W T xs M = true → Has L M → False := by
  unfold compF at h2 ⊢
  rw [if_pos h, compL_head _ _ h] at h2 ⊢
  cases hA : allL W T xs (xs.length + 1) L with
  | nil =>
    refine ⟨rfl, fun M hM hh => ?_⟩
    have := allL_mem (xs.length + 1) L M (by have := freeN_le xs L; omega) h hM hh
    rw [hA] at this
    cases this
  | cons M R => rw [hA] at h2; cases h2
theorem comp_some {W T : Int} {xs : List Bool} {L : List Int} (h : lok W T xs L = true) (h2 : (compF W T xs L).2 = true) : (compF W T xs L).1.length = xs.length ∧ tok W T xs (compF W T xs L).1 = true ∧ Has L (compF W T xs L).1 ∧ ∀ M, tok W T xs M = true → Has L M → M = (compF W T xs L).1 ∨ Before (compF W T xs L).1 M := by
  have hs := allL_sorted (xs.length + 1) L h
  unfold compF at h2 ⊢
  rw [if_pos h, compL_head _ _ h] at h2 ⊢
  cases hA : allL W T xs (xs.length + 1) L with
  | nil => rw [hA] at h2; cases h2
  | cons M R =>
    show M.length = _ ∧ tok W T xs M = true ∧ Has L M ∧ _
    have hm : M ∈ allL W T xs (xs.length + 1) L := by rw [hA]; exact List.mem_cons_self
    obtain ⟨e1, e2⟩ := allL_each (xs.length + 1) L h M hm
    refine ⟨e1, e2, allL_has (xs.length + 1) L M h hm, fun K hK hh => ?_⟩
    have hk := allL_mem (xs.length + 1) L K (by have := freeN_le xs L; omega) h hK hh
    rw [hA] at hk hs
    show K = M ∨ Before M K
    rcases List.mem_cons.1 hk with e | e
    · exact Or.inl e
    · exact Or.inr ((List.pairwise_cons.1 hs).1 K e)
end Go.Proofs.Ytlnnoeojgdeagaa
