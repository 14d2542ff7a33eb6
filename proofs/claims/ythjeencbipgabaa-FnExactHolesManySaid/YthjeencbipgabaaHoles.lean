/- Contract of spec.HolesMany, at every region. -/
import Derived.Test.YthjeencbipgabaaHolesS
namespace Go.Proofs.Ythjeencbipgabaa
open Go.RowKit
set_option linter.unusedVariables false
set_option maxRecDepth 100000
set_option linter.unusedSimpArgs false

theorem sHolesMany_any (W T : Int) (a : Option Addr) (n cap : Nat) (xs : List Bool) (w : World) (hn : n = xs.length) (hn' : n ≤ 1048576) (ha : BoolsAt w a xs) :
    Calls Try.prog 20 #[.agg #[.int .i64 W, .int .i64 T, .slice a n cap]] w fun e w' => e = .returned (.int .i64 (holesN W T xs)) ∧ Below w.heap.size w w' := by
  cases h : rv W T xs
  · have e : holesN W T xs = -1 := by unfold holesN; rw [h]; rfl
    rw [e]
    have HN := Lib.hid hn; clear hn
    have HA := Lib.hid ha; clear ha
    have H := Lib.hid h; clear h e
    go_enter Try.func20, Try.ntmps20
    go_wp2_with fail
    refine (sRegionValid_any _ _ _ _ _ xs _ HN.out hn' (HA.out.one _)).mono ?_; rintro e w1 ⟨rfl, hb1⟩
    rw [H.out]
    go_wp2
    go_ret
    exact ⟨rfl, below_seq (below1 _ _) hb1⟩
  · obtain ⟨v1, v2, v3, v4, _, _⟩ := rv_true h
    have hb := rim_bd v1 v2 v3 v4
    obtain ⟨N, hN⟩ := Int.eq_ofNat_of_zero_le (by omega : 0 ≤ (W + 2) * (T + 2))
    refine (sHolesMany_ok W T a n cap xs N w hn h hN ha).mono ?_
    rintro e w' ⟨⟨M, hm, rfl⟩, hb⟩
    refine ⟨?_, hb⟩
    rw [marksL_eq hm]
    unfold holesN
    rw [h, if_pos rfl, hN]
    simp
end Go.Proofs.Ythjeencbipgabaa
