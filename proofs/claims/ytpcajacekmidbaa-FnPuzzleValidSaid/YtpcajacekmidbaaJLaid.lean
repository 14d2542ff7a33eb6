/- Plain facts on lists that lay dominoes. Merged of: LaidM, Laid, LaidI, LaidS, Free, TilingS, First, StepT. -/
import Derived.Test.YtpcajacekmidbaaJInts
namespace Go.Proofs.Ytpcajacekmidbaa
open Go.RowKit
set_option linter.unusedVariables false
set_option maxRecDepth 100000
set_option linter.unusedSimpArgs false

/-- Whether the k-th cell has a direction to a cell of the region that has the opposite one. -/
def bothB (W T : Int) (xs : List Bool) (L : List Int) (k : Nat) : Bool :=
  decide (0 ≤ stepI W T k (L.getD k 0)) && xs.getD k false && xs.getD (stepI W T k (L.getD k 0)).toNat false && (L.getD (stepI W T k (L.getD k 0)).toNat 0 == backI (L.getD k 0))
def goodB (W T : Int) (xs : List Bool) (L : List Int) (k : Nat) : Bool := (L.getD k 0 == 0) || bothB W T xs L k
def goodN (W T : Int) (xs : List Bool) (L : List Int) (k : Nat) : Bool := (List.range k).all (goodB W T xs L)
def lok (W T : Int) (xs : List Bool) (L : List Int) : Bool := rv W T xs && (L.length == xs.length) && goodN W T xs L L.length
theorem goodN_succ (W T : Int) (xs : List Bool) (L : List Int) (k : Nat) : goodN W T xs L (k + 1) = (goodN W T xs L k && goodB W T xs L k) := by
  unfold goodN; rw [List.range_succ, List.all_append]; simp
theorem goodN_false {W T : Int} {xs : List Bool} {L : List Int} {k n : Nat} (hk : k < n) (h : goodB W T xs L k = false) : goodN W T xs L n = false := by
  unfold goodN
  rw [List.all_eq_false]
  exact ⟨k, List.mem_range.2 hk, by simp [h]⟩
theorem goodN_at {W T : Int} {xs : List Bool} {L : List Int} {k n : Nat} (hk : k < n) (h : goodN W T xs L n = true) : goodB W T xs L k = true := by
  unfold goodN at h
  exact List.all_eq_true.1 h k (List.mem_range.2 hk)
theorem lok_rv {W T : Int} {xs : List Bool} {L : List Int} (h : lok W T xs L = true) : rv W T xs = true ∧ L.length = xs.length ∧ ∀ k, k < L.length → goodB W T xs L k = true := by
  simp only [lok, Bool.and_eq_true, beq_iff_eq] at h
  exact ⟨h.1.1, h.1.2, fun k hk => goodN_at hk h.2⟩
theorem lok_len' {W T : Int} {xs : List Bool} {L : List Int} (h : lok W T xs L = true) : L.length = xs.length := (lok_rv h).2.1
/-- In a list that is right, a cell has no domino or one of the four directions. -/
theorem lok_way {W T : Int} {xs : List Bool} {L : List Int} (h : lok W T xs L = true) {k : Nat} (hk : k < L.length) : 0 ≤ L.getD k 0 ∧ L.getD k 0 ≤ 4 := by
  have := (lok_rv h).2.2 k hk
  simp only [goodB, bothB, Bool.or_eq_true, beq_iff_eq, Bool.and_eq_true, decide_eq_true_eq] at this
  rcases this with h0 | ⟨⟨⟨h1, _⟩, _⟩, _⟩
  · omega
  · unfold stepI at h1
    split at h1
    · omega
    · split at h1
      · omega
      · split at h1
        · omega
        · split at h1 <;> omega
theorem lok_both {W T : Int} {xs : List Bool} {L : List Int} (h : lok W T xs L = true) {k : Nat} (hk : k < L.length) (h0 : L.getD k 0 ≠ 0) : bothB W T xs L k = true := by
  have := (lok_rv h).2.2 k hk
  simp only [goodB, Bool.or_eq_true, beq_iff_eq] at this
  rcases this with h1 | h1
  · exact absurd h1 h0
  · exact h1

/-- A cell of the region without a domino. -/
def freeB (xs : List Bool) (L : List Int) (k : Nat) : Bool := xs.getD k false && (L.getD k 0 == 0)
/-- The first cell of the region without a domino, from a cell on; -1 if there is none. -/
def firstI (xs : List Bool) (L : List Int) (s n : Nat) : Int :=
  match (List.range' s (n - s)).find? (freeB xs L) with
  | some k => k
  | none => -1
theorem first_none {xs : List Bool} {L : List Int} {s n : Nat} (h : ∀ j, s ≤ j → j < n → freeB xs L j = false) : firstI xs L s n = -1 := by
  unfold firstI
  have : (List.range' s (n - s)).find? (freeB xs L) = none := by
    rw [List.find?_eq_none]
    intro x hx
    rw [List.mem_range'_1] at hx
    simp [h x hx.1 (by omega)]
  rw [this]
theorem first_some {xs : List Bool} {L : List Int} {s n k : Nat} (hs : s ≤ k) (hk : k < n) (h : ∀ j, s ≤ j → j < k → freeB xs L j = false) (hf : freeB xs L k = true) : firstI xs L s n = k := by
  unfold firstI
  have : (List.range' s (n - s)).find? (freeB xs L) = some k := by
    have e : List.range' s (n - s) = List.range' s (k - s) ++ (k :: List.range' (k + 1) (n - k - 1)) := by
      rw [show n - s = (k - s) + (1 + (n - k - 1)) by omega, ← List.range'_append_1, show s + (k - s) = k by omega, ← List.range'_append_1]
      rfl
    rw [e, List.find?_append]
    have : (List.range' s (k - s)).find? (freeB xs L) = none := by
      rw [List.find?_eq_none]
      intro x hx
      rw [List.mem_range'_1] at hx
      simp [h x hx.1 (by omega)]
    rw [this]
    simp [hf]
  rw [this]
theorem first_cases (xs : List Bool) (L : List Int) (s n : Nat) :
    (firstI xs L s n = -1 ∧ ∀ j, s ≤ j → j < n → freeB xs L j = false) ∨ ∃ k, s ≤ k ∧ k < n ∧ firstI xs L s n = k ∧ freeB xs L k = true ∧ ∀ j, s ≤ j → j < k → freeB xs L j = false := by
  by_cases h : ∀ j, s ≤ j → j < n → freeB xs L j = false
  · exact Or.inl ⟨first_none h, h⟩
  · right
    have : ∃ k, s ≤ k ∧ k < n ∧ freeB xs L k = true := by
      apply Classical.byContradiction; intro hc
      exact h fun j h1 h2 => by
        cases hb : freeB xs L j
        · rfl
        · exact absurd ⟨j, h1, h2, hb⟩ hc
    -- the least such one
    have hmin : ∀ m, ∀ k, k ≤ m → s ≤ k → k < n → freeB xs L k = true → ∃ k', s ≤ k' ∧ k' < n ∧ freeB xs L k' = true ∧ ∀ j, s ≤ j → j < k' → freeB xs L j = false := by
      intro m
      induction m with
      | zero => intro k h0 h1 h2 h3; exact ⟨k, h1, h2, h3, fun j _ hj => by omega⟩
      | succ m ih =>
        intro k h0 h1 h2 h3
        by_cases hx : ∃ j, s ≤ j ∧ j < k ∧ freeB xs L j = true
        · obtain ⟨j, j1, j2, j3⟩ := hx
          exact ih j (by omega) j1 (by omega) j3
        · exact ⟨k, h1, h2, h3, fun j j1 j2 => by
            cases hb : freeB xs L j
            · rfl
            · exact absurd ⟨j, j1, j2, hb⟩ hx⟩
    obtain ⟨k, h1, h2, h3⟩ := this
    obtain ⟨k', a, b, c, d⟩ := hmin k k (Nat.le_refl _) h1 h2 h3
    exact ⟨k', a, b, first_some a b d c, c, d⟩

def tok (W T : Int) (xs : List Bool) (L : List Int) : Bool := lok W T xs L && decide (firstI xs L 0 L.length < 0)
end Go.Proofs.Ytpcajacekmidbaa

namespace Go.Proofs.Ytpcajacekmidbaa
open Go.RowKit
set_option linter.unusedVariables false
set_option maxRecDepth 100000
set_option linter.unusedSimpArgs false

theorem BoolsAt.cellAt {w : World} {b off : Nat} {xs : List Bool} (h : BoolsAt w (some ⟨b, off, none⟩) xs) {i : Nat} (hi : i < xs.length) : w.cell? ⟨b, off + i, none⟩ = some (.bool (xs.getD i false)) := by
  obtain ⟨b', off', e, hc⟩ := h i hi
  simp only [Option.some.injEq, Addr.mk.injEq, and_true] at e
  obtain ⟨rfl, rfl⟩ := e
  exact hc
theorem IntsAt.cellAt {w : World} {b off : Nat} {xs : List Int} (h : IntsAt w (some ⟨b, off, none⟩) xs) {i : Nat} (hi : i < xs.length) : w.cell? ⟨b, off + i, none⟩ = some (.int .i64 (xs.getD i 0)) := by
  obtain ⟨b', off', e, hc⟩ := h i hi
  simp only [Option.some.injEq, Addr.mk.injEq, and_true] at e
  obtain ⟨rfl, rfl⟩ := e
  exact hc

theorem l2Back_same (way : Int) (w : World) (h0 : 0 ≤ way) (h1 : way ≤ 1000) :
    Calls Try.prog 61 #[.int .i64 way] w fun e w' => e = .returned (.int .i64 (backI way)) ∧ w' = w :=
  (l2Back_any way w h0 h1).mono fun _ _ ⟨a, b⟩ => ⟨a, b.symm⟩
end Go.Proofs.Ytpcajacekmidbaa

namespace Go.Proofs.Ytpcajacekmidbaa
open Go.RowKit
set_option linter.unusedVariables false
set_option maxRecDepth 100000
set_option linter.unusedSimpArgs false

theorem good_zero {W T : Int} {xs : List Bool} {L : List Int} {k : Nat} (h : L.getD k 0 = 0) : goodB W T xs L k = true := by unfold goodB; rw [h]; rfl
theorem good_both {W T : Int} {xs : List Bool} {L : List Int} {k : Nat} (h : L.getD k 0 ≠ 0) : goodB W T xs L k = bothB W T xs L k := by
  unfold goodB; rw [show (L.getD k 0 == 0) = false by simpa using h]; rfl
theorem lok_no {W T : Int} {xs : List Bool} {L : List Int} {k : Nat} (hk : k < L.length) (h : goodB W T xs L k = false) : lok W T xs L = false := by
  unfold lok; rw [goodN_false hk h]; simp
theorem lok_yes {W T : Int} {xs : List Bool} {L : List Int} (h : rv W T xs = true) (hl : L.length = xs.length) (hg : goodN W T xs L L.length = true) : lok W T xs L = true := by
  unfold lok; rw [h, hg, hl]; simp

end Go.Proofs.Ytpcajacekmidbaa

namespace Go.Proofs.Ytpcajacekmidbaa
open Go.RowKit
set_option linter.unusedVariables false
set_option maxRecDepth 100000
set_option linter.unusedSimpArgs false

theorem both_no {W T : Int} {xs : List Bool} {L : List Int} {k : Nat} (h : okOf (L.getD k 0) = false) : bothB W T xs L k = false := by
  unfold bothB; rw [step_bad h]; rfl
theorem both_off {W T : Int} {xs : List Bool} {L : List Int} {k : Nat} (h : xs.getD k false = false) : bothB W T xs L k = false := by
  unfold bothB; rw [h]; simp
theorem l2Step_is (W T : Int) (a : Option Addr) (n cap : Nat) (k way : Int) (w : World) {v : Int} (hW0 : 1 ≤ W) (hW1 : W ≤ 6) (hT0 : 1 ≤ T) (hT1 : T ≤ 6) (h0 : 0 ≤ k) (h1 : k < W * T) (h : stepI W T k way = v) :
    Calls Try.prog 60 #[.agg #[.int .i64 W, .int .i64 T, .slice a n cap], .int .i64 k, .int .i64 way] w fun e w' => e = .returned (.int .i64 v) ∧ Below w.heap.size w w' := by
  subst h; exact l2Step_any W T a n cap k way w hW0 hW1 hT0 hT1 h0 h1

set_option maxHeartbeats 4000000 in
theorem sLaidOk_any (W T : Int) (a : Option Addr) (n cap : Nat) (xs : List Bool) (la : Option Addr) (m lcap : Nat) (L : List Int) (w : World) (hn : n = xs.length) (hn' : n ≤ 1048576) (hm : m = L.length) (hm' : m ≤ 1048576) (ha : BoolsAt w a xs) (hl : IntsAt w la L) :
    Calls Try.prog 18 #[.agg #[.int .i64 W, .int .i64 T, .slice a n cap], .slice la m lcap] w fun e w' => e = .returned (.bool (lok W T xs L)) ∧ Below w.heap.size w w' := by
  have HN := Lib.hid hn; clear hn
  have HM := Lib.hid hm; clear hm
  have HA := Lib.hid ha; clear ha
  have HL := Lib.hid hl; clear hl
  by_cases h : rv W T xs = true
  · by_cases hnm : m = n
    · subst hnm
      obtain ⟨v1, v2, v3, v4, v5, _⟩ := rv_true h
      have HV : Hid ((m : Int) = W * T) := by show (m : Int) = W * T; rw [HN.out]; exact v5
      clear v5
      go_enter Try.func18, Try.ntmps18
      go_wp2_with fail
      refine (sRegionValid_any _ _ _ _ _ xs _ HN.out hn' (HA.out.one _)).mono ?_; rintro e w1 ⟨rfl, hb1⟩
      have p1 := heap_later (heap_new w _) hb1
      have b1 := below_seq (below1 w _) hb1
      clear hb1
      obtain ⟨c0, c1, c2⟩ := cells3 p1
      go_wp2
      go_loopw [5, 6] (fun i _ wr => ∃ k : Nat, k ≤ m ∧ i = .int .i64 k ∧ goodN W T xs L k = true ∧ wr.heap[w.heap.size]? = some (.cells #[.int .i64 W, .int .i64 T, .slice a m cap] 25 (0, 0)) ∧ Below w.heap.size w wr) (fun i _ _ => m - (intOf i).toNat)
      case atStart => exact ⟨0, Nat.zero_le _, rfl, rfl, p1, b1⟩
      case round =>
        clear c0 c1 c2
        obtain ⟨k, hk, rfl, hg, hp, hbel⟩ := hrel
        by_cases hlt : k < m
        · have IL := HL.out.below hbel
          obtain ⟨lb, lo, rfl, hc⟩ := IL k (by rw [← HM.out]; exact hlt)
          have IL' := Lib.hid IL; clear IL
          have AL := HA.out.below hbel
          obtain ⟨b, off, rfl, hx⟩ := AL k (by rw [← HN.out]; exact hlt)
          have AL' := Lib.hid AL; clear AL
          have BEL := Lib.hid hbel; clear hbel
          have HG := Lib.hid hg; clear hg
          have hs := Lib.hid (goodN_succ W T xs L k)
          have e1 : (k : Int) < m := by omega
          have e0 : (0 : Int) ≤ k := by omega
          obtain ⟨c0, c1, c2⟩ := cells3 hp
          have lp := heap_lt hp
          by_cases hz : L.getD k 0 = 0
          · have HGZ := Lib.hid (good_zero (W := W) (T := T) (xs := xs) hz)
            rw [hz] at hc
            have HZ := Lib.hid hz; clear hz
            go_wp2
            go_roundw
            case rel => exact ⟨k + 1, by omega, by go_num, by rw [hs.out, HG.out, HGZ.out]; rfl, hp, BEL.out⟩
            case measure => simp [intOf]; omega
          · have HGB := Lib.hid (good_both (W := W) (T := T) (xs := xs) hz)
            obtain ⟨wy, hwy⟩ : ∃ wy, wy = L.getD k 0 := ⟨_, rfl⟩
            rw [← hwy] at hc hz
            have HWY := Lib.hid hwy; clear hwy
            have z1 : (wy != 0) = true := by simpa using hz
            have z2 : (wy == 0) = false := by simpa using hz
            cases hok : okOf wy
            · have HF := Lib.hid (lok_no (W := W) (T := T) (xs := xs) (k := k) (by rw [← HM.out]; exact hlt) (HGB.out.trans (both_no (by rw [← HWY.out]; exact hok))))
              have HOK : inB wy 1 4 = false := hok
              clear hok
              go_wp2_with (go_at_call 51; refine (l1In_any _ _ _ _).mono ?_; rintro e w6 ⟨rfl, rfl⟩; rw [HOK])
              go_ret
              exact ⟨ret_bool HF.out.symm, BEL.out⟩
            · have HOK : inB wy 1 4 = true := hok
              have hw0 : 0 ≤ wy ∧ wy ≤ 1000 := by simp only [okOf, decide_eq_true_eq] at hok; omega
              obtain ⟨hw0, hw1⟩ := hw0
              clear hok
              cases hxk : xs.getD k false
              · have HF := Lib.hid (lok_no (W := W) (T := T) (xs := xs) (k := k) (by rw [← HM.out]; exact hlt) (HGB.out.trans (both_off hxk)))
                rw [hxk] at hx
                have HXK := Lib.hid hxk; clear hxk
                go_wp2_with (go_at_call 51; refine (l1In_any _ _ _ _).mono ?_; rintro e w6 ⟨rfl, rfl⟩; rw [HOK])
                go_ret
                exact ⟨ret_bool HF.out.symm, BEL.out⟩
              · rw [hxk] at hx
                obtain ⟨o, ho⟩ : ∃ o, o = stepI W T k wy := ⟨_, rfl⟩
                have hobd := step_bd (W := W) (T := T) (k := k) (way := wy) v1 (by omega) (by rw [← HV.out]; omega)
                rw [← ho, ← HV.out] at hobd
                have hbo : bothB W T xs L k = (decide (0 ≤ o) && xs.getD o.toNat false && (L.getD o.toNat 0 == backI wy)) := by
                  unfold bothB; rw [← HWY.out, ← ho, hxk]; simp
                have HBO := Lib.hid (HGB.out.trans hbo); clear hbo
                have HXK := Lib.hid hxk; clear hxk
                have HO := Lib.hid ho.symm; clear ho
                go_wp2_with (go_at_call 51; refine (l1In_any _ _ _ _).mono ?_; rintro e w6 ⟨rfl, rfl⟩; rw [HOK])
                have P : wr.drew.heap[w.heap.size]? = some _ := hp
                go_region_held3 (fun w' => w'.cell? ⟨w.heap.size, 0, none⟩ = some (.int .i64 W) ∧ w'.cell? ⟨w.heap.size, 1, none⟩ = some (.int .i64 T) ∧ w'.cell? ⟨w.heap.size, 2, none⟩ = some (.slice (some ⟨b, off, none⟩) m cap) ∧ w'.cell? ⟨lb, lo + k, none⟩ = some (.int .i64 wy))
                  (go_keep)
                  (first
                    | (go_at_call 60; refine (l2Step_is _ _ _ _ _ _ _ _ v1 v2 v3 v4 (by omega) (by rw [← HV.out]; omega) HO.out).mono ?_; rintro e w6 ⟨rfl, hb6⟩; have p6 := heap_later P hb6; obtain ⟨c60, c61, c62⟩ := cells3 p6; have k6 := cell_later hb6 (show (World.drew wr).cell? _ = some _ from hc)))
                have b6 := Lib.hid (below_seq BEL.out (below_seq (drew_below _) hb6))
                have A6 := (show BoolsAt wr.drew _ xs from AL'.out).below hb6
                have I6 := (show IntsAt wr.drew _ L from IL'.out).below hb6
                clear c0 c1 c2 hc hx
                by_cases h0 : 0 ≤ o
                · have h1 : o < m := by omega
                  have h0d : decide (o < 0) = false := by simpa using h0
                  have xo6 := A6.cellAt (i := o.toNat) (by rw [← HN.out]; omega)
                  have lo6 := I6.cellAt (i := o.toNat) (by rw [← HM.out]; omega)
                  have A6' := Lib.hid A6; clear A6
                  have I6' := Lib.hid I6; clear I6
                  clear hobd
                  cases hy : xs.getD o.toNat false
                  · rw [hy] at xo6
                    have HF := Lib.hid (lok_no (W := W) (T := T) (xs := xs) (k := k) (by rw [← HM.out]; exact hlt) (HBO.out.trans (by rw [hy]; simp)))
                    have HY := Lib.hid hy; clear hy
                    go_wp2
                    go_big_quiet (fail)
                    go_wp2
                    go_ret
                    exact ⟨ret_bool HF.out.symm, below_seq b6.out (drewN_below _ _)⟩
                  · rw [hy] at xo6
                    cases hq : (L.getD o.toNat 0 == backI wy)
                    · have HF := Lib.hid (lok_no (W := W) (T := T) (xs := xs) (k := k) (by rw [← HM.out]; exact hlt) (HBO.out.trans (by rw [hq]; simp)))
                      obtain ⟨lw, hlw⟩ : ∃ lw, lw = L.getD o.toNat 0 := ⟨_, rfl⟩
                      rw [← hlw] at lo6 hq
                      have q2 : (lw != backI wy) = true := by simpa using hq
                      have HY := Lib.hid hy; clear hy
                      clear hlw
                      go_wp2
                      go_big_quiet ((go_at_call 61; exact Calls.quiet_of_same (l2Back_same _ _ hw0 hw1)))
                      go_wp2
                      go_ret
                      exact ⟨ret_bool HF.out.symm, below_seq b6.out (drewN_below _ _)⟩
                    · have HGT := Lib.hid (HBO.out.trans (by rw [hq, hy]; simpa using h0 : _ = true))
                      obtain ⟨lw, hlw⟩ : ∃ lw, lw = L.getD o.toNat 0 := ⟨_, rfl⟩
                      rw [← hlw] at lo6 hq
                      have q2 : (lw != backI wy) = false := by simpa using hq
                      have HY := Lib.hid hy; clear hy
                      clear hlw
                      go_wp2
                      go_big_quiet ((go_at_call 61; exact Calls.quiet_of_same (l2Back_same _ _ hw0 hw1)))
                      go_wp2
                      go_roundw
                      case rel => exact ⟨k + 1, by omega, by go_num, by rw [hs.out, HG.out, HGT.out]; rfl, p6, below_seq b6.out (drewN_below _ _)⟩
                      case measure => simp [intOf]; omega
                · have hd : decide (0 ≤ o) = false := by simpa using h0
                  have HF := Lib.hid (lok_no (W := W) (T := T) (xs := xs) (k := k) (by rw [← HM.out]; exact hlt) (HBO.out.trans (by rw [hd]; simp)))
                  have A6' := Lib.hid A6; clear A6
                  have I6' := Lib.hid I6; clear I6
                  have h0n : o < 0 := by omega
                  have h0d : decide (o < 0) = true := by simpa using h0n
                  clear hobd hd
                  go_wp2
                  go_big_quiet (fail)
                  go_wp2
                  go_ret
                  exact ⟨ret_bool HF.out.symm, below_seq b6.out (drewN_below _ _)⟩
        · obtain rfl : k = m := by omega
          have HT := Lib.hid (lok_yes h (by rw [← HM.out, ← HN.out]) (by rw [← HM.out]; exact hg))
          clear hg
          go_wp2
          go_ret
          exact ⟨ret_bool HT.out.symm, hbel⟩
    · have HF : Hid (lok W T xs L = false) := by
        show lok W T xs L = false
        unfold lok
        rw [show (L.length == xs.length) = false by rw [← HM.out, ← HN.out]; simpa using hnm]; simp
      have n1 : ((m : Int) != n) = true := by simp; omega
      have n2 : ((m : Int) == n) = false := by simp; omega
      have n3 : (m == n) = false := by simpa using hnm
      have n4 : (m != n) = true := by simpa using hnm
      go_enter Try.func18, Try.ntmps18
      go_wp2_with fail
      refine (sRegionValid_any _ _ _ _ _ xs _ HN.out hn' (HA.out.one _)).mono ?_; rintro e w1 ⟨rfl, hb1⟩
      have p1 := heap_later (heap_new w _) hb1
      obtain ⟨c0, c1, c2⟩ := cells3 p1
      go_wp2
      go_ret
      exact ⟨ret_bool HF.out.symm, below_seq (below1 _ _) hb1⟩
  · rw [Bool.not_eq_true] at h
    have HF : Hid (lok W T xs L = false) := by show lok W T xs L = false; unfold lok; rw [h]; rfl
    go_enter Try.func18, Try.ntmps18
    go_wp2_with fail
    refine (sRegionValid_any _ _ _ _ _ xs _ HN.out hn' (HA.out.one _)).mono ?_; rintro e w1 ⟨rfl, hb1⟩
    go_wp2
    go_ret
    exact ⟨ret_bool HF.out.symm, below_seq (below1 _ _) hb1⟩

end Go.Proofs.Ytpcajacekmidbaa

namespace Go.Proofs.Ytpcajacekmidbaa
open Go.RowKit
set_option linter.unusedVariables false
set_option maxRecDepth 100000
set_option linter.unusedSimpArgs false

/-- No cell from s to k is free. -/
def NoFree (xs : List Bool) (L : List Int) (s k : Nat) : Prop := ∀ j, s ≤ j → j < k → freeB xs L j = false
theorem NoFree.step {xs : List Bool} {L : List Int} {s k : Nat} (h : NoFree xs L s k) (hk : freeB xs L k = false) : NoFree xs L s (k + 1) := fun j h1 h2 => by
  by_cases e : j = k
  · rw [e]; exact hk
  · exact h j h1 (by omega)

end Go.Proofs.Ytpcajacekmidbaa

namespace Go.Proofs.Ytpcajacekmidbaa
open Go.RowKit
set_option linter.unusedVariables false
set_option maxRecDepth 100000
set_option linter.unusedSimpArgs false

theorem tok_lok {W T : Int} {xs : List Bool} {L : List Int} (h : lok W T xs L = false) : tok W T xs L = false := by unfold tok; rw [h]; rfl
theorem tok_hit {W T : Int} {xs : List Bool} {L : List Int} {k : Nat} (hk : k < L.length) (hn : NoFree xs L 0 k) (hf : freeB xs L k = true) : tok W T xs L = false := by
  unfold tok; rw [first_some (Nat.zero_le _) hk hn hf]; simp
theorem tok_all {W T : Int} {xs : List Bool} {L : List Int} (h : lok W T xs L = true) (hn : NoFree xs L 0 L.length) : tok W T xs L = true := by
  unfold tok; rw [first_none hn, h]; rfl
theorem free_off {xs : List Bool} {L : List Int} {k : Nat} (h : xs.getD k false = false) : freeB xs L k = false := by unfold freeB; rw [h]; rfl
theorem free_on {xs : List Bool} {L : List Int} {k : Nat} (h : xs.getD k false = true) {v : Int} (hv : v = L.getD k 0) : freeB xs L k = (v == 0) := by unfold freeB; rw [h, ← hv]; rfl

set_option maxHeartbeats 1000000 in
theorem sTilingOk_any (W T : Int) (a : Option Addr) (n cap : Nat) (xs : List Bool) (la : Option Addr) (m lcap : Nat) (L : List Int) (w : World) (hn : n = xs.length) (hn' : n ≤ 1048576) (hm : m = L.length) (hm' : m ≤ 1048576) (ha : BoolsAt w a xs) (hl : IntsAt w la L) :
    Calls Try.prog 70 #[.agg #[.int .i64 W, .int .i64 T, .slice a n cap], .slice la m lcap] w fun e w' => e = .returned (.bool (tok W T xs L)) ∧ Below w.heap.size w w' := by
  have HN := Lib.hid hn; clear hn
  have HM := Lib.hid hm; clear hm
  have HA := Lib.hid ha; clear ha
  have HL := Lib.hid hl; clear hl
  cases h : lok W T xs L
  · have H := Lib.hid h; clear h
    go_enter Try.func70, Try.ntmps70
    go_wp2_with fail
    refine (sLaidOk_any _ _ _ _ _ xs _ _ _ L _ HN.out hn' HM.out hm' (HA.out.one _) (HL.out.one _)).mono ?_; rintro e w1 ⟨rfl, hb1⟩
    rw [H.out]
    go_wp2
    go_ret
    exact ⟨ret_bool (tok_lok H.out).symm, below_seq (below1 _ _) hb1⟩
  · obtain ⟨h1, h2, h3⟩ := lok_rv h
    have hle : m = n := by rw [HM.out, HN.out]; exact h2
    subst hle
    clear h2 h3
    have H := Lib.hid h; clear h h1
    go_enter Try.func70, Try.ntmps70
    go_wp2_with fail
    refine (sLaidOk_any _ _ _ _ _ xs _ _ _ L _ HN.out hn' HM.out hm' (HA.out.one _) (HL.out.one _)).mono ?_; rintro e w1 ⟨rfl, hb1⟩
    have p1 := heap_later (heap_new w _) hb1
    have b1 := below_seq (below1 w _) hb1
    clear hb1
    rw [H.out]
    obtain ⟨c0, c1, c2⟩ := cells3 p1
    go_wp2
    go_loopw [5] (fun i wr => ∃ k : Nat, k ≤ m ∧ i = .int .i64 k ∧ NoFree xs L 0 k ∧ wr.heap[w.heap.size]? = some (.cells #[.int .i64 W, .int .i64 T, .slice a m cap] 25 (0, 0)) ∧ Below w.heap.size w wr) (fun i _ => m - (intOf i).toNat)
    case atStart => exact ⟨0, Nat.zero_le _, rfl, fun j h1 h2 => by omega, p1, b1⟩
    case round =>
      clear c0 c1 c2
      obtain ⟨k, hk, rfl, hno, hp, hbel⟩ := hrel
      have HNO := Lib.hid hno; clear hno
      by_cases hlt : k < m
      · have AL := HA.out.below hbel
        obtain ⟨b, off, rfl, hx⟩ := AL k (by rw [← HN.out]; exact hlt)
        have IL := HL.out.below hbel
        obtain ⟨lb, lo, rfl, hv⟩ := IL k (by rw [← HM.out]; exact hlt)
        clear AL IL
        have BEL := Lib.hid hbel; clear hbel
        obtain ⟨c0, c1, c2⟩ := cells3 hp
        have e1 : (k : Int) < m := by omega
        have e0 : (0 : Int) ≤ k := by omega
        obtain ⟨lk, hlk⟩ : ∃ lk, lk = L.getD k 0 := ⟨_, rfl⟩
        rw [← hlk] at hv
        cases hxk : xs.getD k false
        · have HF := Lib.hid (free_off (L := L) hxk)
          rw [hxk] at hx
          have HXK := Lib.hid hxk; clear hxk
          have HLK := Lib.hid hlk; clear hlk
          go_wp2
          go_roundw
          case rel => exact ⟨k + 1, by omega, by go_num, HNO.out.step HF.out, hp, BEL.out⟩
          case measure => simp [intOf]; omega
        · have HF := Lib.hid (free_on hxk hlk)
          rw [hxk] at hx
          have HXK := Lib.hid hxk; clear hxk
          have HLK := Lib.hid hlk; clear hlk
          cases hz : (lk == 0)
          · have HZ := Lib.hid (HF.out.trans hz)
            go_wp2
            go_roundw
            case rel => exact ⟨k + 1, by omega, by go_num, HNO.out.step HZ.out, hp, BEL.out⟩
            case measure => simp [intOf]; omega
          · have HZ := Lib.hid (tok_hit (W := W) (T := T) (by rw [← HM.out]; exact hlt) HNO.out (HF.out.trans hz))
            go_wp2
            go_ret
            exact ⟨ret_bool HZ.out.symm, BEL.out⟩
      · obtain rfl : k = m := by omega
        have HZ := Lib.hid (tok_all H.out (by rw [← HM.out]; exact HNO.out))
        go_wp2
        go_ret
        exact ⟨ret_bool HZ.out.symm, hbel⟩

end Go.Proofs.Ytpcajacekmidbaa

namespace Go.Proofs.Ytpcajacekmidbaa
open Go.RowKit
set_option linter.unusedVariables false
set_option maxRecDepth 100000
set_option linter.unusedSimpArgs false

set_option maxHeartbeats 1000000 in
theorem l2First_any (W T : Int) (a : Option Addr) (n cap : Nat) (xs : List Bool) (la : Option Addr) (lcap : Nat) (L : List Int) (w : World) (hn : n = xs.length) (hm : n = L.length) (hn' : n ≤ 1048576) (ha : BoolsAt w a xs) (hl : IntsAt w la L) :
    Calls Try.prog 147 #[.agg #[.int .i64 W, .int .i64 T, .slice a n cap], .slice la n lcap] w fun e w' => e = .returned (.int .i64 (firstI xs L 0 n)) ∧ Below w.heap.size w w' := by
  have HN := Lib.hid hn; clear hn
  have HM := Lib.hid hm; clear hm
  have HA := Lib.hid ha; clear ha
  have HL := Lib.hid hl; clear hl
  go_enter Try.func147, Try.ntmps147
  go_wp2
  go_loop [5] (fun i => ∃ k : Nat, k ≤ n ∧ i = .int .i64 k ∧ NoFree xs L 0 k) (fun i => n - (intOf i).toNat)
  case atStart => exact ⟨0, Nat.zero_le _, rfl, fun j h1 h2 => absurd h2 (Nat.not_lt_zero _)⟩
  case round =>
    obtain ⟨k, hk, rfl, hno⟩ := hrel
    have HNO := Lib.hid hno; clear hno
    by_cases hlt : k < n
    · have e1 : (k : Int) < n := by omega
      obtain ⟨b, o, rfl, hx⟩ := HA.out k (by rw [← HN.out]; exact hlt)
      obtain ⟨lb, lo, rfl, hy⟩ := HL.out k (by rw [← HM.out]; exact hlt)
      have hlx := World.block_lt_of_cell? w _ hx
      have hly := World.block_lt_of_cell? w _ hy
      simp only at hlx hly
      obtain ⟨xk, hxk⟩ : ∃ xk, xk = xs.getD k false := ⟨_, rfl⟩
      obtain ⟨v, hv⟩ : ∃ v, v = L.getD k 0 := ⟨_, rfl⟩
      rw [← hxk] at hx
      rw [← hv] at hy
      have HF : Hid (freeB xs L k = (xk && (v == 0))) := by show _ = _; unfold freeB; rw [hxk, hv]
      clear hxk hv
      cases xk
      · go_wp2
        go_round
        case rel => exact ⟨k + 1, by omega, by go_num, HNO.out.step (by rw [HF.out]; rfl)⟩
        case measure => simp [intOf]; omega
      · by_cases hv0 : v = 0
        · subst hv0
          have HV : Hid (firstI xs L 0 n = k) := first_some (Nat.zero_le _) hlt HNO.out (by rw [HF.out]; rfl)
          go_wp2
          go_ret
          exact ⟨ret_int HV.out.symm, below1 _ _⟩
        · have zv : (v == 0) = false := by simpa using hv0
          go_wp2
          go_round
          case rel => exact ⟨k + 1, by omega, by go_num, HNO.out.step (by rw [HF.out, zv]; rfl)⟩
          case measure => simp [intOf]; omega
    · obtain rfl : k = n := by omega
      have HV : Hid (firstI xs L 0 k = -1) := first_none HNO.out
      go_wp2
      go_ret
      exact ⟨ret_int HV.out.symm, below1 _ _⟩
end Go.Proofs.Ytpcajacekmidbaa

namespace Go.Proofs.Ytpcajacekmidbaa
open Go.RowKit
set_option linter.unusedVariables false
set_option maxRecDepth 100000
set_option linter.unusedSimpArgs false

set_option maxHeartbeats 2000000 in
theorem sStepTo_any (W T : Int) (k way : Int) (a : Option Addr) (n cap : Nat) (xs : List Bool) (w : World) (hn : n = xs.length) (hn' : n ≤ 1048576) (ha : BoolsAt w a xs) :
    Calls Try.prog 150 #[.agg #[.int .i64 W, .int .i64 T, .slice a n cap], .int .i64 k, .int .i64 way] w fun e w' => e = .returned (.int .i64 (stepTo W T xs k way)) ∧ Below w.heap.size w w' := by
  have HN := Lib.hid hn; clear hn
  have HA := Lib.hid ha; clear ha
  by_cases h : rv W T xs = true
  · obtain ⟨v1, v2, v3, v4, v5, _⟩ := rv_true h
    have HV := Lib.hid v5; clear v5
    have H := Lib.hid h; clear h
    cases hk : inB k 0 ((n : Int) - 1)
    · have HR : Hid (stepTo W T xs k way = -1) := by
        show _ = _; unfold stepTo cellB; rw [if_pos H.out, if_neg]; rw [← HN.out]; simp only [inB, decide_eq_false_iff_not] at hk; omega
      have HK := Lib.hid hk; clear hk
      go_enter Try.func150, Try.ntmps150
      go_wp2_with fail
      refine (sRegionValid_any _ _ _ _ _ xs _ HN.out hn' (HA.out.one _)).mono ?_; rintro e w1 ⟨rfl, hb1⟩
      have p1 := heap_later (heap_new w _) hb1
      have b1 := below_seq (below1 _ _) hb1
      rw [H.out]
      obtain ⟨c0, c1, c2⟩ := cells3 p1
      go_wp2_with (go_at_call 51; refine (l1In_any _ _ _ _).mono ?_; rintro e w6 ⟨rfl, rfl⟩; rw [HK.out])
      go_ret
      exact ⟨ret_int HR.out.symm, b1⟩
    · have hk2 : 0 ≤ k ∧ k < n := by simp only [inB, decide_eq_true_eq] at hk; omega
      obtain ⟨k0, k1⟩ := hk2
      have HK := Lib.hid hk; clear hk
      have HR : Hid (stepTo W T xs k way = stepI W T k way) := by
        show _ = _; unfold stepTo cellB; rw [if_pos H.out, if_pos (by rw [← HN.out]; exact ⟨k0, k1⟩)]
      cases ho : okOf way
      · have HR2 := Lib.hid (HR.out.trans (step_bad ho))
        have HO : Hid (inB way 1 4 = false) := ho
        clear ho
        go_enter Try.func150, Try.ntmps150
        go_wp2_with fail
        refine (sRegionValid_any _ _ _ _ _ xs _ HN.out hn' (HA.out.one _)).mono ?_; rintro e w1 ⟨rfl, hb1⟩
        have p1 := heap_later (heap_new w _) hb1
        have b1 := below_seq (below1 _ _) hb1
        rw [H.out]
        obtain ⟨c0, c1, c2⟩ := cells3 p1
        go_wp2_with fail
        refine (l1In_any _ _ _ _).mono ?_; rintro e w6 ⟨rfl, rfl⟩; rw [HK.out]
        go_wp2_with fail
        refine (l1In_any _ _ _ _).mono ?_; rintro e w6 ⟨rfl, rfl⟩; rw [HO.out]
        go_wp2
        go_ret
        exact ⟨ret_int HR2.out.symm, b1⟩
      · have HO : Hid (inB way 1 4 = true) := ho
        clear ho
        go_enter Try.func150, Try.ntmps150
        go_wp2_with fail
        refine (sRegionValid_any _ _ _ _ _ xs _ HN.out hn' (HA.out.one _)).mono ?_; rintro e w1 ⟨rfl, hb1⟩
        have p1 := heap_later (heap_new w _) hb1
        have b1 := below_seq (below1 _ _) hb1
        rw [H.out]
        obtain ⟨c0, c1, c2⟩ := cells3 p1
        go_wp2_with fail
        refine (l1In_any _ _ _ _).mono ?_; rintro e w6 ⟨rfl, rfl⟩; rw [HK.out]
        go_wp2_with fail
        refine (l1In_any _ _ _ _).mono ?_; rintro e w6 ⟨rfl, rfl⟩; rw [HO.out]
        go_wp2_with fail
        refine (l2Step_any _ _ _ _ _ _ _ _ v1 v2 v3 v4 k0 (by rw [← HV.out, ← HN.out]; exact k1)).mono ?_; rintro e w7 ⟨rfl, hb7⟩
        go_wp2
        go_ret
        exact ⟨ret_int HR.out.symm, below_seq b1 hb7⟩
  · rw [Bool.not_eq_true] at h
    go_enter Try.func150, Try.ntmps150
    go_wp2_with fail
    refine (sRegionValid_any _ _ _ _ _ xs _ HN.out hn' (HA.out.one _)).mono ?_; rintro e w1 ⟨rfl, hb1⟩
    go_wp2
    go_ret
    exact ⟨ret_int (by unfold stepTo; rw [h]; rfl), below_seq (below1 _ _) hb1⟩

end Go.Proofs.Ytpcajacekmidbaa
