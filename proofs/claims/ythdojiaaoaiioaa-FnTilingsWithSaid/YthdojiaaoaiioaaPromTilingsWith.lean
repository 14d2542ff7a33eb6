/- The law FnTilingsWith: its walk. -/
import Derived.Test.YthdojiaaoaiioaaDrawL
import Derived.Test.YthdojiaaoaiioaaDpY
import Derived.Test.YthdojiaaoaiioaaWithS
import Derived.Test.YthdojiaaoaiioaaDpC
import Derived.Test.YthdojiaaoaiioaaRank
namespace Go.Proofs.Ythdojiaaoaiioaa
open Go.RowKit
set_option linter.unusedVariables false
set_option maxRecDepth 100000
set_option linter.unusedSimpArgs false
theorem with_back {W T : Int} {xs : List Bool} {k way : Int} {o : Int} (h : rv W T xs = true) (hc : cellB W T xs.length k way = o) (h0 : 0 ≤ o) : withN W T xs o (backI way) = withN W T xs k way ∧ 1 ≤ way ∧ way ≤ 4 := by
  obtain ⟨v1, v2, v3, v4, v5, _⟩ := rv_true h
  obtain ⟨k0, k1, o1, ok, hway⟩ := cellB_bd (W := W) (T := T) (n := xs.length) (k := k) (way := way) v1 v5 (by rw [hc]; exact h0)
  rw [hc] at o1 ok
  simp only [okOf, decide_eq_true_eq] at hway
  obtain ⟨kn, rfl⟩ := Int.eq_ofNat_of_zero_le k0
  obtain ⟨on, rfl⟩ := Int.eq_ofNat_of_zero_le h0
  have hs : stepI W T kn way = on := by
    have : cellB W T xs.length kn way = stepI W T kn way := by unfold cellB; rw [if_pos ⟨k0, k1⟩]
    rw [← this]; exact hc
  have hb := rk_back (W := W) (T := T) (k := (kn : Int)) (way := way) v1 v2 (by omega) (by rw [← v5]; omega) (by omega) (by rw [hs]; omega)
  rw [hs] at hb
  have hcb : cellB W T xs.length on (backI way) = kn := by unfold cellB; rw [if_pos ⟨by omega, by omega⟩]; exact hb
  refine ⟨?_, by omega, by omega⟩
  by_cases hx : xs.getD kn false = true ∧ xs.getD on false = true
  · obtain ⟨x1, x2⟩ := hx
    rw [(can_of (W := W) (T := T) (by omega) hs x1 x2).2, (can_of (W := W) (T := T) (by omega) hb x2 x1).2]
    congr 1
    refine lessB_eq rfl fun i => ?_
    rw [lessB_two, lessB_two, Bool.or_comm]
  · have c1 : canTake W T xs kn way = false := by
      unfold canTake; rw [hc]
      simp only [Int.toNat_natCast]
      cases e1 : xs.getD kn false <;> cases e2 : xs.getD on false <;> simp_all
    have c2 : canTake W T xs on (backI way) = false := by
      unfold canTake; rw [hcb]
      simp only [Int.toNat_natCast]
      cases e1 : xs.getD kn false <;> cases e2 : xs.getD on false <;> simp_all
    unfold withN
    rw [c1, c2]
    simp
theorem with_none {W T : Int} {xs : List Bool} {k way : Int} (h : cellB W T xs.length k way < 0) : withN W T xs k way = 0 := by
  unfold withN canTake
  rw [show decide (0 ≤ cellB W T xs.length k way) = false by simpa using h]
  rfl

set_option maxHeartbeats 8000000 in
theorem promTilingsWith_walk (cb : Option Addr) (n cap : Nat) (zs : List Int) (w : World) (hn : n = zs.length) (hn' : n ≤ maxLen) (hcap : n ≤ cap) (hb : BytesAt w cb zs) :
    Calls Try.prog 4 #[.slice cb n cap] w fun e w' => e = .returned (.bool true) ∧ Below w.heap.size w w' := by
  have HN := Lib.hid hn; clear hn
  have HB := Lib.hid hb; clear hb
  by_cases hbig : 1048576 < n
  · unfold maxLen at hn'
    go_enter Try.func4, Try.ntmps4
    go_wp2
    go_ret
    exact ⟨rfl, Below.refl _ _⟩
  have hsm : n ≤ 1048576 := by omega
  clear hbig hn'
  go_enter Try.func4, Try.ntmps4
  go_wp2_with fail
  refine (drawTilingsWith_any _ _ _ zs _ HN.out hsm hcap HB.out).mono ?_; rintro e w1 ⟨W0, T0, a, m, c, xs, k0, way, rfl, hm, h36, hs, hkw, ho, b1⟩
  have HM := Lib.hid hm; clear hm
  have AX := Lib.hid (OwnsB.at ho); clear ho
  obtain ⟨s0, s1, s2, s3⟩ := hs
  obtain ⟨y0, y1, y2, y3⟩ := hkw
  obtain ⟨N, hN⟩ : ∃ N, withT W0 T0 xs k0 way = N := ⟨_, rfl⟩
  go_wp2_with fail
  refine (iTilingsWith_any _ _ _ _ _ xs _ _ _ HM.out (by omega) (AX.out.one _)).mono ?_; rintro e w2 ⟨rfl, hb2⟩
  have b2 := below_seq (below_seq b1 (below1 _ _)) hb2
  have p2 := heap_later (heap_new w1 _) hb2
  have A2 := Lib.hid ((AX.out.one (.cells #[.int .i64 W0, .int .i64 T0, .slice a m c] 25)).below hb2)
  rw [hN]
  obtain ⟨c0, c1, c2⟩ := cells3 p2
  go_wp2_with fail
  refine (sTilingsWith_any _ _ _ _ _ xs _ _ _ HM.out (by omega) A2.out).mono ?_; rintro e w3 ⟨rfl, hb3⟩
  have b3 := below_seq b2 hb3
  have p3 := heap_later p2 hb3
  have A3 := Lib.hid (A2.out.below hb3)
  rw [hN]
  clear c0 c1 c2
  obtain ⟨c0, c1, c2⟩ := cells3 p3
  have hNN : (N != N) = false := by simp
  cases h : rv W0 T0 xs
  · have e : N = -1 := by rw [← hN]; unfold withT; rw [h]; rfl
    subst e
    clear hN h
    go_wp2_with fail
    refine (alive_any _).mono ?_; rintro e w6 ⟨rfl, hb6⟩
    go_wp2
    go_ret
    exact ⟨rfl, below_seq b3 hb6⟩
  · obtain ⟨Z, hZ⟩ : ∃ Z : Nat, withN W0 T0 xs k0 way = Z := ⟨_, rfl⟩
    have e : N = Z := by rw [← hN, ← hZ]; unfold withT; rw [h]; rfl
    subst e
    obtain ⟨v1, v2, v3, v4, v5, _⟩ := rv_true h
    obtain ⟨D, hD⟩ : ∃ D : Nat, dpT W0 T0 xs = D := ⟨_, rfl⟩
    have hle : Z ≤ D := by rw [← hZ, ← hD]; exact with_le v1 v2 (cnt xs) xs k0 way (Nat.le_refl _) v5 (by have := HM.out; omega)
    have HTM : Hid (tilT W0 T0 xs = D) := by show _ = _; unfold tilT; rw [if_pos h, hD]
    obtain ⟨o, ho⟩ : ∃ o, cellB W0 T0 xs.length k0 way = o := ⟨_, rfl⟩
    have HST : Hid (stepTo W0 T0 xs k0 way = o) := by show _ = _; unfold stepTo; rw [if_pos h]; exact ho
    have hz0 : (0 : Int) ≤ Z := by omega
    have hzn : ¬ (Z : Int) < 0 := by omega
    go_wp2_with fail
    refine (iStepTo_any _ _ _ _ _ xs _ _ _ HM.out (by omega) A3.out).mono ?_; rintro e w4 ⟨rfl, hb4⟩
    rw [HST.out]
    have b4 := below_seq b3 hb4
    have p4 := heap_later p3 hb4
    have A4 := Lib.hid (A3.out.below hb4)
    clear c0 c1 c2
    obtain ⟨c0, c1, c2⟩ := cells3 p4
    by_cases ho0 : o < 0
    · have hZ0 : Z = 0 := by rw [← hZ]; exact with_none (by rw [ho]; exact ho0)
      subst hZ0
      clear hN hZ ho hle
      go_wp2
      go_ret
      exact ⟨rfl, b4⟩
    · obtain ⟨hbk, w1', w4'⟩ := with_back h ho (by omega)
      have HBK : Hid (withT W0 T0 xs o (backI way) = Z) := by show _ = _; unfold withT; rw [if_pos h, hbk, hZ]
      have hcw : way = 1 ∨ way = 2 ∨ way = 3 ∨ way = 4 := by omega
      have hleI : (Z : Int) ≤ D := by omega
      clear hN hZ ho hle hbk h hD y2 y3 w1' w4' v5
      rcases hcw with rfl | rfl | rfl | rfl
      · have HB2 : Hid (withT W0 T0 xs o 3 = Z) := HBK.out
        go_wp2_with fail
        refine (iTilingsWith_any _ _ _ _ _ xs _ _ _ HM.out (by omega) A4.out).mono ?_; rintro e w5 ⟨rfl, hb5⟩
        rw [HB2.out]
        have p5 := heap_later p4 hb5
        clear c0 c1 c2
        obtain ⟨c0, c1, c2⟩ := cells3 p5
        go_wp2_with fail
        refine (iTilingsMany_any _ _ _ _ _ xs _ HM.out (by omega) (A4.out.below hb5)).mono ?_; rintro e w6 ⟨rfl, hb6⟩
        rw [HTM.out]
        go_wp2
        go_ret
        exact ⟨rfl, below_seq b4 (below_seq hb5 hb6)⟩
      · have HB2 : Hid (withT W0 T0 xs o 4 = Z) := HBK.out
        go_wp2_with fail
        refine (iTilingsWith_any _ _ _ _ _ xs _ _ _ HM.out (by omega) A4.out).mono ?_; rintro e w5 ⟨rfl, hb5⟩
        rw [HB2.out]
        have p5 := heap_later p4 hb5
        clear c0 c1 c2
        obtain ⟨c0, c1, c2⟩ := cells3 p5
        go_wp2_with fail
        refine (iTilingsMany_any _ _ _ _ _ xs _ HM.out (by omega) (A4.out.below hb5)).mono ?_; rintro e w6 ⟨rfl, hb6⟩
        rw [HTM.out]
        go_wp2
        go_ret
        exact ⟨rfl, below_seq b4 (below_seq hb5 hb6)⟩
      · have HB2 : Hid (withT W0 T0 xs o 1 = Z) := HBK.out
        go_wp2_with fail
        refine (iTilingsWith_any _ _ _ _ _ xs _ _ _ HM.out (by omega) A4.out).mono ?_; rintro e w5 ⟨rfl, hb5⟩
        rw [HB2.out]
        have p5 := heap_later p4 hb5
        clear c0 c1 c2
        obtain ⟨c0, c1, c2⟩ := cells3 p5
        go_wp2_with fail
        refine (iTilingsMany_any _ _ _ _ _ xs _ HM.out (by omega) (A4.out.below hb5)).mono ?_; rintro e w6 ⟨rfl, hb6⟩
        rw [HTM.out]
        go_wp2
        go_ret
        exact ⟨rfl, below_seq b4 (below_seq hb5 hb6)⟩
      · have HB2 : Hid (withT W0 T0 xs o 2 = Z) := HBK.out
        go_wp2_with fail
        refine (iTilingsWith_any _ _ _ _ _ xs _ _ _ HM.out (by omega) A4.out).mono ?_; rintro e w5 ⟨rfl, hb5⟩
        rw [HB2.out]
        have p5 := heap_later p4 hb5
        clear c0 c1 c2
        obtain ⟨c0, c1, c2⟩ := cells3 p5
        go_wp2_with fail
        refine (iTilingsMany_any _ _ _ _ _ xs _ HM.out (by omega) (A4.out.below hb5)).mono ?_; rintro e w6 ⟨rfl, hb6⟩
        rw [HTM.out]
        go_wp2
        go_ret
        exact ⟨rfl, below_seq b4 (below_seq hb5 hb6)⟩

end Go.Proofs.Ythdojiaaoaiioaa
