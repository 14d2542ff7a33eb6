/- Contract of impl.LaidOk. -/
import Derived.Test.YtnpmnjmjbpfipaaLaid
namespace Go.Proofs.Ytnpmnjmjbpfipaa
open Go.RowKit
set_option linter.unusedVariables false
set_option maxRecDepth 100000
set_option linter.unusedSimpArgs false

theorem good_zero {W T : Int} {xs : List Bool} {L : List Int} {k : Nat} (h : L.getD k 0 = 0) : goodB W T xs L k = true := by unfold goodB; rw [h]; rfl
theorem good_both {W T : Int} {xs : List Bool} {L : List Int} {k : Nat} (h : L.getD k 0 ≠ 0) : goodB W T xs L k = bothB W T xs L k := by
  unfold goodB; rw [show (L.getD k 0 == 0) = false by simpa using h]; rfl
theorem lok_no {W T : Int} {xs : List Bool} {L : List Int} {k : Nat} (hk : k < L.length) (h : goodB W T xs L k = false) : lok W T xs L = false := by
  unfold lok; rw [goodN_false hk h]; simp
theorem lok_yes {W T : Int} {xs : List Bool} {L : List Int} (h : rv W T xs = true) (hl : L.length = xs.length) (hg : goodN W T xs L L.length = true) : lok W T xs L = true := by
  unfold lok; rw [h, hg, hl]; simp

set_option maxHeartbeats 2000000 in
theorem iLaidOk_any (W T : Int) (a : Option Addr) (n cap : Nat) (xs : List Bool) (la : Option Addr) (m lcap : Nat) (L : List Int) (w : World) (hn : n = xs.length) (hn' : n ≤ 1048576) (hm : m = L.length) (hm' : m ≤ 1048576) (ha : BoolsAt w a xs) (hl : IntsAt w la L) :
    Calls Try.prog 97 #[.agg #[.int .i64 W, .int .i64 T, .slice a n cap], .slice la m lcap] w fun e w' => e = .returned (.bool (lok W T xs L)) ∧ Below w.heap.size w w' := by
  have HN := Lib.hid hn; clear hn
  have HM := Lib.hid hm; clear hm
  have HA := Lib.hid ha; clear ha
  have HL := Lib.hid hl; clear hl
  by_cases h : rv W T xs = true
  · by_cases hnm : m = n
    · subst hnm
      obtain ⟨v1, v2, v3, v4, v5, _⟩ := rv_true h
      have HV := Lib.hid v5; clear v5
      go_enter Try.func97, Try.ntmps97
      go_wp2_with fail
      refine (iRegionValid_any _ _ _ _ _ xs _ HN.out hn' (HA.out.one _)).mono ?_; rintro e w1 ⟨rfl, hb1⟩
      have p1 := heap_later (heap_new w _) hb1
      have b1 := below_seq (below1 w _) hb1
      clear hb1
      obtain ⟨c0, c1, c2⟩ := cells3 p1
      go_wp2
      go_loopw [5, 6, 20] (fun _ _ i wr => ∃ k : Nat, k ≤ m ∧ i = .int .i64 k ∧ goodN W T xs L k = true ∧ wr.heap[w.heap.size]? = some (.cells #[.int .i64 W, .int .i64 T, .slice a m cap] 35 (0, 0)) ∧ Below w.heap.size w wr) (fun _ _ i _ => m - (intOf i).toNat)
      case atStart => exact ⟨0, Nat.zero_le _, rfl, rfl, p1, b1⟩
      case round =>
        clear c0 c1 c2
        obtain ⟨k, hk, rfl, hg, hp, hbel⟩ := hrel
        by_cases hlt : k < m
        · have IL := HL.out.below hbel
          obtain ⟨lb, lo, rfl, hc⟩ := IL k (by rw [← HM.out]; exact hlt)
          have IL' := Lib.hid IL; clear IL
          have AL' := Lib.hid (HA.out.below hbel)
          have BEL := Lib.hid hbel; clear hbel
          have HG := Lib.hid hg; clear hg
          have hs := Lib.hid (goodN_succ W T xs L k)
          have e1 : (k : Int) < m := by omega
          have e0 : (0 : Int) ≤ k := by omega
          obtain ⟨c0, c1, c2⟩ := cells3 hp
          have lp := heap_lt hp
          by_cases hz : L.getD k 0 = 0
          · have HGZ := Lib.hid (good_zero (W := W) (T := T) (xs := xs) hz)
            rw [hz] at hc
            have HZ := Lib.hid hz; clear hz
            go_wp2
            go_roundw
            case rel => exact ⟨k + 1, by omega, by go_num, by rw [hs.out, HG.out, HGZ.out]; rfl, hp, BEL.out⟩
            case measure => simp [intOf]; omega
          · have HGB := Lib.hid (good_both (W := W) (T := T) (xs := xs) hz)
            obtain ⟨wy, hwy⟩ : ∃ wy, wy = L.getD k 0 := ⟨_, rfl⟩
            rw [← hwy] at hc hz
            have HWY := Lib.hid hwy; clear hwy
            have z1 : (wy != 0) = true := by simpa using hz
            have z2 : (wy == 0) = false := by simpa using hz
            cases hbo : bothB W T xs L k
            · have HF := Lib.hid (lok_no (k := k) (by rw [← HM.out]; exact hlt) (HGB.out.trans hbo))
              have HBO := Lib.hid hbo; clear hbo
              go_wp2_with fail
              refine (laidBothWays_any _ _ _ _ _ xs _ _ L k _ HN.out HM.out v1 v2 v3 v4 (by rw [HN.out]; exact HV.out) hlt AL'.out IL'.out).mono ?_; rintro e w6 ⟨rfl, hb6⟩
              rw [HBO.out]
              go_wp2
              go_ret
              exact ⟨ret_bool HF.out.symm, below_seq BEL.out hb6⟩
            · have HGT := Lib.hid (HGB.out.trans hbo)
              have HBO := Lib.hid hbo; clear hbo
              go_wp2_with fail
              refine (laidBothWays_any _ _ _ _ _ xs _ _ L k _ HN.out HM.out v1 v2 v3 v4 (by rw [HN.out]; exact HV.out) hlt AL'.out IL'.out).mono ?_; rintro e w6 ⟨rfl, hb6⟩
              rw [HBO.out]
              have p6 := heap_later hp hb6
              go_wp2
              go_roundw
              case rel => exact ⟨k + 1, by omega, by go_num, by rw [hs.out, HG.out, HGT.out]; rfl, p6, below_seq BEL.out hb6⟩
              case measure => simp [intOf]; omega
        · obtain rfl : k = m := by omega
          have HT := Lib.hid (lok_yes h (by rw [← HM.out, ← HN.out]) (by rw [← HM.out]; exact hg))
          clear hg
          go_wp2
          go_ret
          exact ⟨ret_bool HT.out.symm, hbel⟩
    · have HF : Hid (lok W T xs L = false) := by
        show lok W T xs L = false
        unfold lok
        rw [show (L.length == xs.length) = false by rw [← HM.out, ← HN.out]; simpa using hnm]; simp
      have n1 : ((m : Int) != n) = true := by simp; omega
      have n2 : ((m : Int) == n) = false := by simp; omega
      have n3 : (m == n) = false := by simpa using hnm
      have n4 : (m != n) = true := by simpa using hnm
      go_enter Try.func97, Try.ntmps97
      go_wp2_with fail
      refine (iRegionValid_any _ _ _ _ _ xs _ HN.out hn' (HA.out.one _)).mono ?_; rintro e w1 ⟨rfl, hb1⟩
      have p1 := heap_later (heap_new w _) hb1
      obtain ⟨c0, c1, c2⟩ := cells3 p1
      go_wp2
      go_ret
      exact ⟨ret_bool HF.out.symm, below_seq (below1 _ _) hb1⟩
  · rw [Bool.not_eq_true] at h
    have HF : Hid (lok W T xs L = false) := by show lok W T xs L = false; unfold lok; rw [h]; rfl
    go_enter Try.func97, Try.ntmps97
    go_wp2_with fail
    refine (iRegionValid_any _ _ _ _ _ xs _ HN.out hn' (HA.out.one _)).mono ?_; rintro e w1 ⟨rfl, hb1⟩
    go_wp2
    go_ret
    exact ⟨ret_bool HF.out.symm, below_seq (below1 _ _) hb1⟩

end Go.Proofs.Ytnpmnjmjbpfipaa
