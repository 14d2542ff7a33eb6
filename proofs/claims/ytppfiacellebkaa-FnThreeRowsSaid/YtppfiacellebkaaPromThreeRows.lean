/- The law FnThreeRows: its walk. -/
import Derived.Test.YtppfiacellebkaaRowsM
import Derived.Test.YtppfiacellebkaaBox
namespace Go.Proofs.Ytppfiacellebkaa
open Go.RowKit
set_option linter.unusedVariables false
set_option maxRecDepth 100000
set_option linter.unusedSimpArgs false

set_option maxHeartbeats 4000000 in
theorem promThreeRows_walk (cb : Option Addr) (n cap : Nat) (zs : List Int) (w : World) (hn : n = zs.length) (hn' : n ≤ maxLen) (hcap : n ≤ cap) (hb : BytesAt w cb zs) :
    Calls Try.prog 4 #[.slice cb n cap] w fun e w' => e = .returned (.bool true) ∧ Below w.heap.size w w' := by
  have HN := Lib.hid hn; clear hn
  have HB := Lib.hid hb; clear hb
  by_cases hbig : 1048576 < n
  · unfold maxLen at hn'
    go_enter Try.func4, Try.ntmps4
    go_wp2
    go_ret
    exact ⟨rfl, Below.refl _ _⟩
  have hsm : n ≤ 1048576 := by omega
  clear hbig hn'
  go_enter Try.func4, Try.ntmps4
  go_wp2_with fail
  refine (drawThreeRows_any _ _ _ zs _ HN.out hsm hcap HB.out).mono ?_; rintro e w1 ⟨x, hx, rfl, b1⟩
  by_cases hneg : x < 2 ∨ 42 < x
  · have hv : threeR ((x : Int) - 2) = -1 := by unfold threeR; rw [if_neg (by omega)]
    go_wp2_with fail
    refine (iThreeRows_any _ _).mono ?_; rintro e w2 ⟨rfl, rfl⟩
    rw [hv]
    go_wp2_with fail
    refine (sThreeRows_any _ _).mono ?_; rintro e w3 ⟨rfl, rfl⟩
    rw [hv]
    clear hv
    go_wp2_with fail
    refine (alive_any1 _).mono ?_; rintro e w4 ⟨rfl, hb4⟩
    go_wp2
    go_ret
    exact ⟨rfl, below_seq b1 hb4⟩
  · obtain ⟨m, rfl⟩ : ∃ m : Nat, x = m + 2 := ⟨x - 2, by omega⟩
    have hm : m ≤ 40 := by omega
    have ec : ((m + 2 : Nat) : Int) - 2 = m := by omega
    rw [ec]
    clear ec hneg hx
    obtain ⟨F, hF⟩ : ∃ F : Int, F = threeR m := ⟨_, rfl⟩
    have hF0 : (m % 2 = 1 ∧ F = 0) ∨ (m % 2 = 0 ∧ 1 ≤ F ∧ F ≤ 4398046511104) := by
      rw [hF]
      unfold threeR
      rw [if_pos (by omega), Int.toNat_natCast]
      by_cases h2 : m % 2 = 0
      · right
        rw [if_pos (by omega)]
        have h3 := thrN_small (n := m / 2) (by omega)
        have h4 := thrN_pos (m / 2)
        exact ⟨h2, h4, h3.2⟩
      · left
        rw [if_neg (by omega)]
        exact ⟨by omega, rfl⟩
    have t0 : (m : Int).tmod 2 = (m : Int) % 2 := Int.tmod_eq_emod_of_nonneg (by omega)
    have hFb : -1 < F := by rcases hF0 with ⟨_, h⟩ | ⟨_, h, _⟩ <;> omega
    have hz : ∃ pb : Bool, (F == 0) = pb ∧ ((m : Int) % 2 == 1) = pb := by
      rcases hF0 with ⟨h1, h2⟩ | ⟨h1, h2, _⟩
      · exact ⟨true, by rw [h2]; rfl, by simp; omega⟩
      · exact ⟨false, by simp; omega, by simp; omega⟩
    obtain ⟨pb, z1, z2⟩ := hz
    clear hF0
    have HF := Lib.hid hF; clear hF
    go_wp2_with fail
    refine (iThreeRows_any _ _).mono ?_; rintro e w2 ⟨rfl, rfl⟩
    rw [← HF.out]
    go_wp2_with fail
    refine (sThreeRows_any _ _).mono ?_; rintro e w3 ⟨rfl, rfl⟩
    rw [← HF.out]
    by_cases h6 : 1 ≤ m ∧ m ≤ 6
    · obtain ⟨h1, h2⟩ := h6
      obtain ⟨hbx, htl⟩ := til_three h1 h2
      rw [← HF.out] at htl
      have HTL := Lib.hid htl; clear htl
      go_wp2_with fail
      refine (iRegionBox_yes (m : Int) 3 (3 * m) _ hbx (by omega)).mono ?_; rintro e w4 ⟨g, rfl, ho4, hb4⟩
      have b4 := below_seq b1 hb4
      go_wp2_with fail
      refine (iTilingsMany_any _ _ _ _ _ (List.replicate (3 * m) true) _ (by simp) (by omega) (OwnsB.at ho4)).mono ?_; rintro e w5 ⟨rfl, hb5⟩
      rw [HTL.out]
      go_wp2
      go_ret
      exact ⟨rfl, below_seq b4 hb5⟩
    · have h7 : m < 1 ∨ 6 < m := by omega
      rcases h7 with h7 | h7
      · go_wp2
        go_ret
        exact ⟨rfl, b1⟩
      · go_wp2
        go_ret
        exact ⟨rfl, b1⟩

end Go.Proofs.Ytppfiacellebkaa
