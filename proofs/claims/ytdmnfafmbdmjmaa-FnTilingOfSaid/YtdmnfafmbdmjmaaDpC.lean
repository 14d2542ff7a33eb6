/- Contract of impl.TilingsMany. -/
import Derived.Test.YtdmnfafmbdmjmaaDpS
namespace Go.Proofs.Ytdmnfafmbdmjmaa
open Go.RowKit
set_option linter.unusedVariables false
set_option maxRecDepth 100000
set_option linter.unusedSimpArgs false

set_option maxHeartbeats 1000000 in
theorem iTilingsMany_any (W T : Int) (a : Option Addr) (n cap : Nat) (xs : List Bool) (w : World) (hn : n = xs.length) (hn' : n ≤ 1048576) (ha : BoolsAt w a xs) :
    Calls Try.prog 8 #[.agg #[.int .i64 W, .int .i64 T, .slice a n cap]] w fun e w' => e = .returned (.int .i64 (tilT W T xs)) ∧ Below w.heap.size w w' := by
  have HN := Lib.hid hn; clear hn
  have HA := Lib.hid ha; clear ha
  by_cases h : rv W T xs = true
  · obtain ⟨hW0, hW1, hT0, hT1, v5, _⟩ := rv_true h
    have HWT : Hid ((n : Int) = W * T) := by show _ = _; rw [HN.out]; exact v5
    clear v5
    have hres : tilT W T xs = (dpT W T xs : Int) := by unfold tilT; rw [if_pos h]
    rw [hres]
    clear hres
    have H := Lib.hid h; clear h
    go_enter Try.func8, Try.ntmps8
    go_wp2_with fail
    refine (iRegionValid_any _ _ _ _ _ xs _ HN.out hn' (HA.out.one _)).mono ?_; rintro e w1 ⟨rfl, hb1⟩
    have p1 := heap_later (heap_new w _) hb1
    have b1 := below_seq (below1 _ _) hb1
    obtain ⟨c0, c1, c2⟩ := cells3 p1
    rw [H.out]
    go_wp2_with fail
    refine (tilingsIn_any _ _ _ _ _ xs _ HN.out hW0 hW1 hT0 hT1 HWT.out (HA.out.below b1)).mono ?_; rintro e w2 ⟨rfl, hb2⟩
    go_wp2
    go_ret
    exact ⟨rfl, below_seq b1 hb2⟩
  · have hres : tilT W T xs = -1 := by unfold tilT; rw [if_neg h]
    rw [hres]
    rw [Bool.not_eq_true] at h
    clear hres
    go_enter Try.func8, Try.ntmps8
    go_wp2_with fail
    refine (iRegionValid_any _ _ _ _ _ xs _ HN.out hn' (HA.out.one _)).mono ?_; rintro e w1 ⟨rfl, hb1⟩
    rw [h]
    go_wp2
    go_ret
    exact ⟨rfl, below_seq (below1 _ _) hb1⟩

end Go.Proofs.Ytdmnfafmbdmjmaa
