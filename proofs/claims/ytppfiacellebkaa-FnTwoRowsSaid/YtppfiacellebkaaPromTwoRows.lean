/- The law FnTwoRows: its walk. -/
import Derived.Test.YtppfiacellebkaaRowsM
import Derived.Test.YtppfiacellebkaaBox
namespace Go.Proofs.Ytppfiacellebkaa
open Go.RowKit
set_option linter.unusedVariables false
set_option maxRecDepth 100000
set_option linter.unusedSimpArgs false

set_option maxHeartbeats 4000000 in
theorem promTwoRows_walk (cb : Option Addr) (n cap : Nat) (zs : List Int) (w : World) (hn : n = zs.length) (hn' : n ≤ maxLen) (hcap : n ≤ cap) (hb : BytesAt w cb zs) :
    Calls Try.prog 3 #[.slice cb n cap] w fun e w' => e = .returned (.bool true) ∧ Below w.heap.size w w' := by
  have HN := Lib.hid hn; clear hn
  have HB := Lib.hid hb; clear hb
  by_cases hbig : 1048576 < n
  · unfold maxLen at hn'
    go_enter Try.func3, Try.ntmps3
    go_wp2
    go_ret
    exact ⟨rfl, Below.refl _ _⟩
  have hsm : n ≤ 1048576 := by omega
  clear hbig hn'
  go_enter Try.func3, Try.ntmps3
  go_wp2_with fail
  refine (drawTwoRows_any _ _ _ zs _ HN.out hsm hcap HB.out).mono ?_; rintro e w1 ⟨x, hx, rfl, b1⟩
  by_cases hneg : x < 2 ∨ 62 < x
  · have hv : twoR ((x : Int) - 2) = -1 := by unfold twoR; rw [if_neg (by omega)]
    go_wp2_with fail
    refine (iTwoRows_any _ _).mono ?_; rintro e w2 ⟨rfl, rfl⟩
    rw [hv]
    go_wp2_with fail
    refine (sTwoRows_any _ _).mono ?_; rintro e w3 ⟨rfl, rfl⟩
    rw [hv]
    clear hv
    go_wp2_with fail
    refine (alive_any1 _).mono ?_; rintro e w4 ⟨rfl, hb4⟩
    go_wp2
    go_ret
    exact ⟨rfl, below_seq b1 hb4⟩
  · obtain ⟨m, rfl⟩ : ∃ m : Nat, x = m + 2 := ⟨x - 2, by omega⟩
    have hm : m ≤ 60 := by omega
    have ec : ((m + 2 : Nat) : Int) - 2 = m := by omega
    rw [ec]
    clear ec hneg hx
    have hvk : ∀ k : Nat, k ≤ 60 → twoR (k : Int) = fibN k := by
      intro k hk
      unfold twoR
      rw [if_pos (by omega), Int.toNat_natCast]
    have HVK := Lib.hid hvk; clear hvk
    obtain ⟨F, hF⟩ : ∃ F : Nat, F = fibN m := ⟨_, rfl⟩
    have hFle : F ≤ 2305843009213693952 := by rw [hF]; exact fibN_small (by omega)
    go_wp2_with fail
    refine (iTwoRows_any _ _).mono ?_; rintro e w2 ⟨rfl, rfl⟩
    rw [HVK.out m hm, ← hF]
    go_wp2_with fail
    refine (sTwoRows_any _ _).mono ?_; rintro e w3 ⟨rfl, rfl⟩
    rw [HVK.out m hm, ← hF]
    have HF := Lib.hid hF; clear hF
    go_wp2_with fail
    go_loop [5] (fun i => ∃ k : Nat, 1 ≤ k ∧ (k ≤ m ∨ k = 1) ∧ i = .int .i64 k) (fun i => m - (intOf i).toNat)
    case atStart => exact ⟨1, Nat.le_refl _, Or.inr rfl, rfl⟩
    case round =>
      obtain ⟨k, hk1, hkm, rfl⟩ := hrel
      by_cases hlt : k < m
      · obtain ⟨A, hA⟩ : ∃ A : Nat, A = fibN k := ⟨_, rfl⟩
        obtain ⟨B, hB⟩ : ∃ B : Nat, B = fibN (m - k) := ⟨_, rfl⟩
        obtain ⟨C, hC⟩ : ∃ C : Nat, C = fibN (k - 1) := ⟨_, rfl⟩
        obtain ⟨D, hD⟩ : ∃ D : Nat, D = fibN (m - k - 1) := ⟨_, rfl⟩
        have hsum : A * B + C * D = F := by
          rw [hA, hB, hC, hD, HF.out]
          have := fib_cut (k - 1) (m - k - 1)
          rw [show k - 1 + 1 = k by omega, show m - k - 1 + 1 = m - k by omega, show k - 1 + (m - k - 1) + 2 = m by omega] at this
          exact this
        obtain ⟨P, hP⟩ : ∃ P : Nat, P = A * B := ⟨_, rfl⟩
        obtain ⟨Q, hQ⟩ : ∃ Q : Nat, Q = C * D := ⟨_, rfl⟩
        rw [← hP, ← hQ] at hsum
        have t1 : twoR (k : Int) = A := by rw [hA]; exact HVK.out k (by omega)
        have t2 : twoR ((m : Int) - k) = B := by rw [hB, ← HVK.out (m - k) (by omega)]; congr 1; omega
        have t3 : twoR ((k : Int) - 1) = C := by rw [hC, ← HVK.out (k - 1) (by omega)]; congr 1; omega
        have t4 : twoR ((m : Int) - k - 1) = D := by rw [hD, ← HVK.out (m - k - 1) (by omega)]; congr 1; omega
        have pi : (A : Int) * (B : Int) = (P : Int) := by rw [hP, Int.natCast_mul]
        have qi : (C : Int) * (D : Int) = (Q : Int) := by rw [hQ, Int.natCast_mul]
        have zs0 : (((P : Int) + (Q : Int)) != (F : Int)) = false := by
          have : (P : Int) + (Q : Int) = (F : Int) := by omega
          rw [this]; simp
        have hpB : P ≤ 2305843009213693952 := by omega
        have hqB : Q ≤ 2305843009213693952 := by omega
        have T1 := Lib.hid t1; have T2 := Lib.hid t2; have T3 := Lib.hid t3; have T4 := Lib.hid t4
        clear t1 t2 t3 t4 hA hB hC hD hP hQ hsum
        go_wp2_with fail
        refine (iTwoRows_any _ _).mono ?_; rintro e w4 ⟨rfl, rfl⟩
        rw [T1.out]
        go_wp2_with fail
        refine (iTwoRows_any _ _).mono ?_; rintro e w4 ⟨rfl, rfl⟩
        rw [T2.out]
        go_wp2_with fail
        refine (iTwoRows_any _ _).mono ?_; rintro e w4 ⟨rfl, rfl⟩
        rw [T3.out]
        go_wp2_with fail
        refine (iTwoRows_any _ _).mono ?_; rintro e w4 ⟨rfl, rfl⟩
        rw [T4.out]
        go_wp2
        go_round
        case rel => exact ⟨k + 1, by omega, by omega, by go_num⟩
        case measure => simp [intOf]; omega
      · by_cases h6 : 1 ≤ m ∧ m ≤ 6
        · obtain ⟨h1, h2⟩ := h6
          obtain ⟨hbx, htl⟩ := til_two h1 h2
          rw [HVK.out m hm, ← HF.out] at htl
          have HTL := Lib.hid htl; clear htl
          go_wp2_with fail
          refine (iRegionBox_yes (m : Int) 2 (2 * m) _ hbx (by omega)).mono ?_; rintro e w4 ⟨g, rfl, ho4, hb4⟩
          have b4 := below_seq b1 hb4
          go_wp2_with fail
          refine (iTilingsMany_any _ _ _ _ _ (List.replicate (2 * m) true) _ (by simp) (by omega) (OwnsB.at ho4)).mono ?_; rintro e w5 ⟨rfl, hb5⟩
          rw [HTL.out]
          go_wp2
          go_ret
          exact ⟨rfl, below_seq b4 hb5⟩
        · have h7 : m < 1 ∨ 6 < m := by omega
          rcases h7 with h7 | h7
          · go_wp2
            go_ret
            exact ⟨rfl, b1⟩
          · go_wp2
            go_ret
            exact ⟨rfl, b1⟩

end Go.Proofs.Ytppfiacellebkaa
