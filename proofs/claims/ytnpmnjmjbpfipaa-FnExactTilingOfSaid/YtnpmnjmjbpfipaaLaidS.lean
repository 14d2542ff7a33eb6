/- Contract of spec.LaidOk. -/
import Derived.Test.YtnpmnjmjbpfipaaLaidI
namespace Go.Proofs.Ytnpmnjmjbpfipaa
open Go.RowKit
set_option linter.unusedVariables false
set_option maxRecDepth 100000
set_option linter.unusedSimpArgs false

theorem inB_way (wy : Int) : inB wy 1 4 = okOf wy := rfl
theorem both_no {W T : Int} {xs : List Bool} {L : List Int} {k : Nat} (h : okOf (L.getD k 0) = false) : bothB W T xs L k = false := by
  unfold bothB; rw [step_bad h]; rfl
theorem both_off {W T : Int} {xs : List Bool} {L : List Int} {k : Nat} (h : xs.getD k false = false) : bothB W T xs L k = false := by
  unfold bothB; rw [h]; simp
theorem l2Step_is (W T : Int) (a : Option Addr) (n cap : Nat) (k way : Int) (w : World) {v : Int} (hW0 : 1 ≤ W) (hW1 : W ≤ 6) (hT0 : 1 ≤ T) (hT1 : T ≤ 6) (h0 : 0 ≤ k) (h1 : k < W * T) (h : stepI W T k way = v) :
    Calls Try.prog 60 #[.agg #[.int .i64 W, .int .i64 T, .slice a n cap], .int .i64 k, .int .i64 way] w fun e w' => e = .returned (.int .i64 v) ∧ Below w.heap.size w w' := by
  subst h; exact l2Step_any W T a n cap k way w hW0 hW1 hT0 hT1 h0 h1

set_option maxHeartbeats 4000000 in
theorem sLaidOk_any (W T : Int) (a : Option Addr) (n cap : Nat) (xs : List Bool) (la : Option Addr) (m lcap : Nat) (L : List Int) (w : World) (hn : n = xs.length) (hn' : n ≤ 1048576) (hm : m = L.length) (hm' : m ≤ 1048576) (ha : BoolsAt w a xs) (hl : IntsAt w la L) :
    Calls Try.prog 95 #[.agg #[.int .i64 W, .int .i64 T, .slice a n cap], .slice la m lcap] w fun e w' => e = .returned (.bool (lok W T xs L)) ∧ Below w.heap.size w w' := by
  have HN := Lib.hid hn; clear hn
  have HM := Lib.hid hm; clear hm
  have HA := Lib.hid ha; clear ha
  have HL := Lib.hid hl; clear hl
  by_cases h : rv W T xs = true
  · by_cases hnm : m = n
    · subst hnm
      obtain ⟨v1, v2, v3, v4, v5, _⟩ := rv_true h
      have HV : Hid ((m : Int) = W * T) := by show (m : Int) = W * T; rw [HN.out]; exact v5
      clear v5
      go_enter Try.func95, Try.ntmps95
      go_wp2_with fail
      refine (sRegionValid_any _ _ _ _ _ xs _ HN.out hn' (HA.out.one _)).mono ?_; rintro e w1 ⟨rfl, hb1⟩
      have p1 := heap_later (heap_new w _) hb1
      have b1 := below_seq (below1 w _) hb1
      clear hb1
      obtain ⟨c0, c1, c2⟩ := cells3 p1
      go_wp2
      go_loopw [5, 6] (fun i _ wr => ∃ k : Nat, k ≤ m ∧ i = .int .i64 k ∧ goodN W T xs L k = true ∧ wr.heap[w.heap.size]? = some (.cells #[.int .i64 W, .int .i64 T, .slice a m cap] 35 (0, 0)) ∧ Below w.heap.size w wr) (fun i _ _ => m - (intOf i).toNat)
      case atStart => exact ⟨0, Nat.zero_le _, rfl, rfl, p1, b1⟩
      case round =>
        clear c0 c1 c2
        obtain ⟨k, hk, rfl, hg, hp, hbel⟩ := hrel
        by_cases hlt : k < m
        · have IL := HL.out.below hbel
          obtain ⟨lb, lo, rfl, hc⟩ := IL k (by rw [← HM.out]; exact hlt)
          have IL' := Lib.hid IL; clear IL
          have AL := HA.out.below hbel
          obtain ⟨b, off, rfl, hx⟩ := AL k (by rw [← HN.out]; exact hlt)
          have AL' := Lib.hid AL; clear AL
          have BEL := Lib.hid hbel; clear hbel
          have HG := Lib.hid hg; clear hg
          have hs := Lib.hid (goodN_succ W T xs L k)
          have e1 : (k : Int) < m := by omega
          have e0 : (0 : Int) ≤ k := by omega
          obtain ⟨c0, c1, c2⟩ := cells3 hp
          have lp := heap_lt hp
          by_cases hz : L.getD k 0 = 0
          · have HGZ := Lib.hid (good_zero (W := W) (T := T) (xs := xs) hz)
            rw [hz] at hc
            have HZ := Lib.hid hz; clear hz
            go_wp2
            go_roundw
            case rel => exact ⟨k + 1, by omega, by go_num, by rw [hs.out, HG.out, HGZ.out]; rfl, hp, BEL.out⟩
            case measure => simp [intOf]; omega
          · have HGB := Lib.hid (good_both (W := W) (T := T) (xs := xs) hz)
            obtain ⟨wy, hwy⟩ : ∃ wy, wy = L.getD k 0 := ⟨_, rfl⟩
            rw [← hwy] at hc hz
            have HWY := Lib.hid hwy; clear hwy
            have z1 : (wy != 0) = true := by simpa using hz
            have z2 : (wy == 0) = false := by simpa using hz
            cases hok : okOf wy
            · have HF := Lib.hid (lok_no (W := W) (T := T) (xs := xs) (k := k) (by rw [← HM.out]; exact hlt) (HGB.out.trans (both_no (by rw [← HWY.out]; exact hok))))
              have HOK : inB wy 1 4 = false := hok
              clear hok
              go_wp2_with (go_at_call 52; refine (l1In_any _ _ _ _).mono ?_; rintro e w6 ⟨rfl, rfl⟩; rw [HOK])
              go_ret
              exact ⟨ret_bool HF.out.symm, BEL.out⟩
            · have HOK : inB wy 1 4 = true := hok
              have hw0 : 0 ≤ wy ∧ wy ≤ 1000 := by simp only [okOf, decide_eq_true_eq] at hok; omega
              obtain ⟨hw0, hw1⟩ := hw0
              clear hok
              cases hxk : xs.getD k false
              · have HF := Lib.hid (lok_no (W := W) (T := T) (xs := xs) (k := k) (by rw [← HM.out]; exact hlt) (HGB.out.trans (both_off hxk)))
                rw [hxk] at hx
                have HXK := Lib.hid hxk; clear hxk
                go_wp2_with (go_at_call 52; refine (l1In_any _ _ _ _).mono ?_; rintro e w6 ⟨rfl, rfl⟩; rw [HOK])
                go_ret
                exact ⟨ret_bool HF.out.symm, BEL.out⟩
              · rw [hxk] at hx
                obtain ⟨o, ho⟩ : ∃ o, o = stepI W T k wy := ⟨_, rfl⟩
                have hobd := step_bd (W := W) (T := T) (k := k) (way := wy) v1 (by omega) (by rw [← HV.out]; omega)
                rw [← ho, ← HV.out] at hobd
                have hbo : bothB W T xs L k = (decide (0 ≤ o) && xs.getD o.toNat false && (L.getD o.toNat 0 == backI wy)) := by
                  unfold bothB; rw [← HWY.out, ← ho, hxk]; simp
                have HBO := Lib.hid (HGB.out.trans hbo); clear hbo
                have HXK := Lib.hid hxk; clear hxk
                have HO := Lib.hid ho.symm; clear ho
                go_wp2_with (go_at_call 52; refine (l1In_any _ _ _ _).mono ?_; rintro e w6 ⟨rfl, rfl⟩; rw [HOK])
                have P : wr.drew.heap[w.heap.size]? = some _ := hp
                go_region_held3 (fun w' => w'.cell? ⟨w.heap.size, 0, none⟩ = some (.int .i64 W) ∧ w'.cell? ⟨w.heap.size, 1, none⟩ = some (.int .i64 T) ∧ w'.cell? ⟨w.heap.size, 2, none⟩ = some (.slice (some ⟨b, off, none⟩) m cap) ∧ w'.cell? ⟨lb, lo + k, none⟩ = some (.int .i64 wy))
                  (go_keep)
                  (first
                    | (go_at_call 60; refine (l2Step_is _ _ _ _ _ _ _ _ v1 v2 v3 v4 (by omega) (by rw [← HV.out]; omega) HO.out).mono ?_; rintro e w6 ⟨rfl, hb6⟩; have p6 := heap_later P hb6; obtain ⟨c60, c61, c62⟩ := cells3 p6; have k6 := cell_later hb6 (show (World.drew wr).cell? _ = some _ from hc)))
                have b6 := Lib.hid (below_seq BEL.out (below_seq (drew_below _) hb6))
                have A6 := (show BoolsAt wr.drew _ xs from AL'.out).below hb6
                have I6 := (show IntsAt wr.drew _ L from IL'.out).below hb6
                clear c0 c1 c2 hc hx
                by_cases h0 : 0 ≤ o
                · have h1 : o < m := by omega
                  have h0d : decide (o < 0) = false := by simpa using h0
                  have xo6 := A6.cellAt (i := o.toNat) (by rw [← HN.out]; omega)
                  have lo6 := I6.cellAt (i := o.toNat) (by rw [← HM.out]; omega)
                  have A6' := Lib.hid A6; clear A6
                  have I6' := Lib.hid I6; clear I6
                  clear hobd
                  cases hy : xs.getD o.toNat false
                  · rw [hy] at xo6
                    have HF := Lib.hid (lok_no (W := W) (T := T) (xs := xs) (k := k) (by rw [← HM.out]; exact hlt) (HBO.out.trans (by rw [hy]; simp)))
                    have HY := Lib.hid hy; clear hy
                    go_wp2
                    go_big_quiet (fail)
                    go_wp2
                    go_ret
                    exact ⟨ret_bool HF.out.symm, below_seq b6.out (drewN_below _ _)⟩
                  · rw [hy] at xo6
                    cases hq : (L.getD o.toNat 0 == backI wy)
                    · have HF := Lib.hid (lok_no (W := W) (T := T) (xs := xs) (k := k) (by rw [← HM.out]; exact hlt) (HBO.out.trans (by rw [hq]; simp)))
                      obtain ⟨lw, hlw⟩ : ∃ lw, lw = L.getD o.toNat 0 := ⟨_, rfl⟩
                      rw [← hlw] at lo6 hq
                      have q2 : (lw != backI wy) = true := by simpa using hq
                      have HY := Lib.hid hy; clear hy
                      clear hlw
                      go_wp2
                      go_big_quiet ((go_at_call 96; exact Calls.quiet_of_same (l2Back_same _ _ hw0 hw1)))
                      go_wp2
                      go_ret
                      exact ⟨ret_bool HF.out.symm, below_seq b6.out (drewN_below _ _)⟩
                    · have HGT := Lib.hid (HBO.out.trans (by rw [hq, hy]; simpa using h0 : _ = true))
                      obtain ⟨lw, hlw⟩ : ∃ lw, lw = L.getD o.toNat 0 := ⟨_, rfl⟩
                      rw [← hlw] at lo6 hq
                      have q2 : (lw != backI wy) = false := by simpa using hq
                      have HY := Lib.hid hy; clear hy
                      clear hlw
                      go_wp2
                      go_big_quiet ((go_at_call 96; exact Calls.quiet_of_same (l2Back_same _ _ hw0 hw1)))
                      go_wp2
                      go_roundw
                      case rel => exact ⟨k + 1, by omega, by go_num, by rw [hs.out, HG.out, HGT.out]; rfl, p6, below_seq b6.out (drewN_below _ _)⟩
                      case measure => simp [intOf]; omega
                · have hd : decide (0 ≤ o) = false := by simpa using h0
                  have HF := Lib.hid (lok_no (W := W) (T := T) (xs := xs) (k := k) (by rw [← HM.out]; exact hlt) (HBO.out.trans (by rw [hd]; simp)))
                  have A6' := Lib.hid A6; clear A6
                  have I6' := Lib.hid I6; clear I6
                  have h0n : o < 0 := by omega
                  have h0d : decide (o < 0) = true := by simpa using h0n
                  clear hobd hd
                  go_wp2
                  go_big_quiet (fail)
                  go_wp2
                  go_ret
                  exact ⟨ret_bool HF.out.symm, below_seq b6.out (drewN_below _ _)⟩
        · obtain rfl : k = m := by omega
          have HT := Lib.hid (lok_yes h (by rw [← HM.out, ← HN.out]) (by rw [← HM.out]; exact hg))
          clear hg
          go_wp2
          go_ret
          exact ⟨ret_bool HT.out.symm, hbel⟩
    · have HF : Hid (lok W T xs L = false) := by
        show lok W T xs L = false
        unfold lok
        rw [show (L.length == xs.length) = false by rw [← HM.out, ← HN.out]; simpa using hnm]; simp
      have n1 : ((m : Int) != n) = true := by simp; omega
      have n2 : ((m : Int) == n) = false := by simp; omega
      have n3 : (m == n) = false := by simpa using hnm
      have n4 : (m != n) = true := by simpa using hnm
      go_enter Try.func95, Try.ntmps95
      go_wp2_with fail
      refine (sRegionValid_any _ _ _ _ _ xs _ HN.out hn' (HA.out.one _)).mono ?_; rintro e w1 ⟨rfl, hb1⟩
      have p1 := heap_later (heap_new w _) hb1
      obtain ⟨c0, c1, c2⟩ := cells3 p1
      go_wp2
      go_ret
      exact ⟨ret_bool HF.out.symm, below_seq (below1 _ _) hb1⟩
  · rw [Bool.not_eq_true] at h
    have HF : Hid (lok W T xs L = false) := by show lok W T xs L = false; unfold lok; rw [h]; rfl
    go_enter Try.func95, Try.ntmps95
    go_wp2_with fail
    refine (sRegionValid_any _ _ _ _ _ xs _ HN.out hn' (HA.out.one _)).mono ?_; rintro e w1 ⟨rfl, hb1⟩
    go_wp2
    go_ret
    exact ⟨ret_bool HF.out.symm, below_seq (below1 _ _) hb1⟩

end Go.Proofs.Ytnpmnjmjbpfipaa
