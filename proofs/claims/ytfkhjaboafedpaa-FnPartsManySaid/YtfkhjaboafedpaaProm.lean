/- What the promises' laws share: a fixed answer, lists and regions compared, a region drawn. -/
import Derived.Test.YtfkhjaboafedpaaDrawR
import Derived.Test.YtfkhjaboafedpaaBox
import Derived.Test.YtfkhjaboafedpaaDark
import Derived.Test.YtfkhjaboafedpaaInts
namespace Go.Proofs.Ytfkhjaboafedpaa
open Go.RowKit
set_option linter.unusedVariables false
set_option maxRecDepth 100000
set_option linter.unusedSimpArgs false

theorem alive_any (w : World) : Calls Try.prog 15 #[] w fun e w' => e = .returned (.bool true) ∧ Below w.heap.size w w' := by
  go_enter Try.func15, Try.ntmps15
  go_wp2_with fail
  refine (iRegionBox_yes 2 3 6 _ (by decide) (by decide)).mono ?_; rintro e w1 ⟨g, rfl, ho, hb⟩
  have HM : Hid (many 2 3 (List.replicate 6 true) = 6) := by show _ = _; rfl
  go_wp2_with fail
  refine (iCellsMany_any _ _ _ _ _ (List.replicate 6 true) _ rfl (by simp) (OwnsB.at ho)).mono ?_; rintro e w2 ⟨rfl, hb2⟩
  rw [HM.out]
  go_wp2
  go_ret
  exact ⟨rfl, below_seq hb hb2⟩

/-- Two lists that hold the same are told to be equal. -/
theorem sameBools_same (a b : Option Addr) (n cap cap' : Nat) (xs : List Bool) (w : World) (hn : n = xs.length) (hn' : n ≤ 1048576) (ha : BoolsAt w a xs) (hb : BoolsAt w b xs) :
    Calls Try.prog 38 #[.slice a n cap, .slice b n cap'] w fun e w' => e = .returned (.bool true) ∧ Below w.heap.size w w' := by
  have HN := Lib.hid hn; clear hn
  have HA := Lib.hid ha; clear ha
  have HB := Lib.hid hb; clear hb
  go_enter Try.func38, Try.ntmps38
  go_wp2
  go_loopw [5] (fun i wr => ∃ k : Nat, k ≤ n ∧ i = .int .i64 k ∧ ∃ q, wr = w.drewN q) (fun i _ => n - (intOf i).toNat)
  case atStart => exact ⟨0, Nat.zero_le _, rfl, 0, rfl⟩
  case round =>
    obtain ⟨k, hk, rfl, q, rfl⟩ := hrel
    by_cases hlt : k < n
    · obtain ⟨b1, o1, rfl, hc1⟩ := HA.out k (by rw [← HN.out]; exact hlt)
      obtain ⟨b2, o2, rfl, hc2⟩ := HB.out k (by rw [← HN.out]; exact hlt)
      have e1 : (k : Int) < n := by omega
      have e0 : (0 : Int) ≤ k := by omega
      go_wp2
      go_big_quiet (fail)
      go_wp2
      go_roundw
      case rel => exact ⟨k + 1, by omega, by go_num, _, rfl⟩
      case measure => simp [intOf]; omega
    · go_wp2
      go_ret
      exact ⟨rfl, drewN_below _ _⟩
theorem sameRegion_same (W T : Int) (a b : Option Addr) (n cap cap' : Nat) (xs : List Bool) (w : World) (hn : n = xs.length) (hn' : n ≤ 1048576) (ha : BoolsAt w a xs) (hb : BoolsAt w b xs) :
    Calls Try.prog 13 #[.agg #[.int .i64 W, .int .i64 T, .slice a n cap], .agg #[.int .i64 W, .int .i64 T, .slice b n cap']] w fun e w' => e = .returned (.bool true) ∧ Below w.heap.size w w' := by
  have HN := Lib.hid hn; clear hn
  have HA := Lib.hid ha; clear ha
  have HB := Lib.hid hb; clear hb
  go_enter Try.func13, Try.ntmps13
  go_wp2_with fail
  refine (sameBools_same _ _ _ _ _ xs _ HN.out hn' (HA.out.two _ _) (HB.out.two _ _)).mono ?_; rintro e w1 ⟨rfl, hb1⟩
  go_wp2
  go_ret
  exact ⟨rfl, below_seq (below2 _ _ _) hb1⟩

/-- A region was drawn of a code. -/
def DrawnX (w : World) (e : Ending) (w' : World) : Prop :=
  ∃ (W T : Int) (a : Option Addr) (n cap : Nat) (xs : List Bool), e = .returned (.agg #[.int .i64 W, .int .i64 T, .slice a n cap]) ∧ n = xs.length ∧ n ≤ 36 ∧ (0 ≤ W ∧ W ≤ 6 ∧ 0 ≤ T ∧ T ≤ 6) ∧ OwnsB w' (w.heap.size + 1) (.slice a n cap) xs ∧ Below w.heap.size w w'

theorem drawPartsMany_any (cb : Option Addr) (n cap : Nat) (zs : List Int) (w : World) (hn : n = zs.length) (hn' : n ≤ 1048576) (hcap : n ≤ cap) (hb : BytesAt w cb zs) :
    Calls Try.prog 21 #[.slice cb n cap] w (DrawnX w) := by
  have HN := Lib.hid hn; clear hn
  have HB := Lib.hid hb; clear hb
  go_enter Try.func21, Try.ntmps21
  go_wp2_with fail
  refine (l20Open_any _ _ _ zs _ HN.out hn' hcap (HB.out.below (below1 _ _))).mono ?_; rintro e w1 ⟨rfl, r1, b1⟩
  have q1 := heap_later (heap_new w (.cells #[.int .i64 0, .int .i64 0, .slice none 0 0] 27)) b1
  have B1 := Lib.hid (below_seq (below1 w _) b1)
  have R1 : Hid (RD w1 (w.heap.size + 1) 0) := by show RD _ _ _; simpa using r1
  have l1 := heap_lt q1
  have l2 := R1.out.lt
  clear r1 b1
  go_wp2_with fail
  refine (l20Region_any (w.heap.size + 1) 0 9 _ (by omega) (by omega) (by omega) R1.out).mono ?_; rintro e w2 ⟨W, T, a, m, c, xs, rfl, hm, h36, hs, o2, r2, g2⟩
  have q2 := heap_grown q1 g2 (by simp)
  have B2 := Lib.hid (below_grown B1.out g2 (Nat.le_refl _) (fun k e => by cases e; omega))
  have O2 := Lib.hid o2
  have HM := Lib.hid hm
  clear o2 r2 g2 hm
  obtain ⟨d0, d1, d2⟩ := cells3 q2
  have f0 := free3 q2 0
  have f1 := free3 q2 1
  have f2 := free3 q2 2
  go_wp2
  refine bodyPost_ret (v := .agg #[.int .i64 W, .int .i64 T, .slice a m c]) (by simp [results, Try.results21, go_sem, d0, d1, d2]) rfl ⟨W, T, a, m, c, xs, rfl, HM.out, h36, hs, ?_, below_set3 B2.out (Nat.le_refl _) _ _ _⟩
  exact (O2.out.set3 (by omega) _ _ _).lower (by omega)

end Go.Proofs.Ytfkhjaboafedpaa
