/- The law FnPairOf: its walk. -/
import Derived.Test.YthjocjiiihebbaaPuz
import Derived.Test.YthjocjiiihebbaaPick
import Derived.Test.YthjocjiiihebbaaOpen1
namespace Go.Proofs.Ythjocjiiihebbaa
open Go.RowKit
set_option linter.unusedVariables false
set_option maxRecDepth 100000
set_option linter.unusedSimpArgs false

theorem drawPairOf_any (cb : Option Addr) (n cap : Nat) (zs : List Int) (w : World) (hn : n = zs.length) (hn' : n ≤ 1048576) (hcap : n ≤ cap) (hb : BytesAt w cb zs) :
    Calls Try.prog 15 #[.slice cb n cap] w fun e w' => ∃ A B : Int, e = .returned (.tuple #[.int .i64 A, .int .i64 B]) ∧ Below w.heap.size w w' := by
  have HN := Lib.hid hn; clear hn
  have HB := Lib.hid hb; clear hb
  go_enter Try.func15, Try.ntmps15
  go_wp2_with fail
  refine (l20Open_any1 _ _ _ zs _ HN.out hn' hcap HB.out).mono ?_; rintro e w1 ⟨rfl, r1, b1⟩
  go_wp2_with fail
  refine (pick_any w.heap.size 0 7 _ (by omega) (by omega) (by omega) r1).mono ?_; rintro e w2 ⟨x1, h1, rfl, r2, g2⟩
  go_wp2_with fail
  refine (pick_any w.heap.size (0 + 1) 20 _ (by omega) (by omega) (by omega) r2).mono ?_; rintro e w3 ⟨x2, h2, rfl, r3, g3⟩
  go_wp2_with fail
  refine (pick_any w.heap.size (0 + 1 + 1) 7 _ (by omega) (by omega) (by omega) r3).mono ?_; rintro e w4 ⟨x3, h3, rfl, r4, g4⟩
  go_wp2_with fail
  refine (pick_any w.heap.size (0 + 1 + 1 + 1) 20 _ (by omega) (by omega) (by omega) r4).mono ?_; rintro e w5 ⟨x4, h4, rfl, r5, g5⟩
  have G := Lib.hid (grownBy_trans (grownBy_trans (grownBy_trans g2 g3) g4) g5)
  have b2 := Lib.hid (below_grown b1 G.out (Nat.le_refl _) (by intro k hk; have := Option.some.inj hk; omega))
  clear g2 g3 g4 g5 G r1 r2 r3 r4 r5 b1
  obtain ⟨x, hx⟩ : ∃ x, x = (x1 : Int) + (x2 : Int) / 19 * 7 := ⟨_, rfl⟩
  obtain ⟨y, hy⟩ : ∃ y, y = (x3 : Int) - (x4 : Int) / 19 * 7 := ⟨_, rfl⟩
  go_wp2
  exact bodyPost_ret (v := .tuple #[.int .i64 x, .int .i64 y]) (by rw [hx, hy]; simp [results, Try.results15, go_sem]) rfl ⟨x, y, rfl, b2.out⟩
theorem pairI_comm (a b : Int) : pairI b a = pairI a b := by
  unfold pairI; rw [Bool.and_comm, show min b a = min a b by omega, show max b a = max a b by omega]

set_option maxHeartbeats 4000000 in
theorem promPairOf_walk (cb : Option Addr) (n cap : Nat) (zs : List Int) (w : World) (hn : n = zs.length) (hn' : n ≤ maxLen) (hcap : n ≤ cap) (hb : BytesAt w cb zs) :
    Calls Try.prog 4 #[.slice cb n cap] w fun e w' => e = .returned (.bool true) ∧ Below w.heap.size w w' := by
  have HN := Lib.hid hn; clear hn
  have HB := Lib.hid hb; clear hb
  by_cases hbig : 1048576 < n
  · unfold maxLen at hn'
    go_enter Try.func4, Try.ntmps4
    go_wp2
    go_ret
    exact ⟨rfl, Below.refl _ _⟩
  have hsm : n ≤ 1048576 := by omega
  clear hbig hn'
  go_enter Try.func4, Try.ntmps4
  go_wp2_with fail
  refine (drawPairOf_any _ _ _ zs _ HN.out hsm hcap HB.out).mono ?_; rintro e w1 ⟨A, B, rfl, b1⟩
  have b1h := Lib.hid b1; clear b1
  by_cases hd : (digB A && digB B) = true
  · have h2 : digB A = true ∧ digB B = true := by simpa using hd
    obtain ⟨a0, a1⟩ := dig_bd h2.1
    obtain ⟨b0, b1⟩ := dig_bd h2.2
    have hp : pairI A B = 7 * min A B + max A B := by unfold pairI; rw [hd, if_pos rfl]
    obtain ⟨p, hpp⟩ : ∃ p, p = pairI A B := ⟨_, rfl⟩
    rw [← hpp] at hp
    have HC : Hid (pairI B A = p) := by show _ = _; rw [pairI_comm]; exact hpp.symm
    have HPP := Lib.hid hpp; clear hpp hd h2
    have p0 : 0 ≤ p := by omega
    have p1 : p ≤ 100 := by omega
    have q0 : p / 7 = min A B := by omega
    have q1 : p % 7 = max A B := by omega
    have q2 : p.tdiv 7 = min A B := by rw [Int.tdiv_eq_ediv_of_nonneg p0]; exact q0
    have q3 : p.tmod 7 = max A B := by rw [Int.tmod_eq_emod_of_nonneg p0]; exact q1
    clear hp
    go_wp2_with fail
    refine (iPairOf_any _ _ _).mono ?_; rintro e w2 ⟨rfl, rfl⟩
    rw [← HPP.out]
    go_wp2_with fail
    refine (sPairOf_any _ _ _).mono ?_; rintro e w3 ⟨rfl, rfl⟩
    rw [← HPP.out]
    go_wp2_with fail
    refine (iPairOf_any _ _ _).mono ?_; rintro e w4 ⟨rfl, rfl⟩
    rw [HC.out]
    rcases Int.lt_trichotomy A B with hab | hab | hab
    · have mn : min A B = A := by omega
      have mx : max A B = B := by omega
      rw [mn] at q0 q2
      rw [mx] at q1 q3
      go_wp2
      go_ret
      exact ⟨rfl, b1h.out⟩
    · subst hab
      have mn : min A A = A := by omega
      have mx : max A A = A := by omega
      rw [mn] at q0 q2
      rw [mx] at q1 q3
      go_wp2
      go_ret
      exact ⟨rfl, b1h.out⟩
    · have mn : min A B = B := by omega
      have mx : max A B = A := by omega
      rw [mn] at q0 q2
      rw [mx] at q1 q3
      go_wp2
      go_ret
      exact ⟨rfl, b1h.out⟩
  · have hp : pairI A B = -1 := by unfold pairI; rw [if_neg hd]
    have HP := Lib.hid hp; clear hp hd
    go_wp2_with fail
    refine (iPairOf_any _ _ _).mono ?_; rintro e w2 ⟨rfl, rfl⟩
    rw [HP.out]
    go_wp2_with fail
    refine (sPairOf_any _ _ _).mono ?_; rintro e w3 ⟨rfl, rfl⟩
    rw [HP.out]
    go_wp2_with fail
    refine (alive_any1 _).mono ?_; rintro e w4 ⟨rfl, hb4⟩
    go_wp2
    go_ret
    exact ⟨rfl, below_seq b1h.out hb4⟩

end Go.Proofs.Ythjocjiiihebbaa
