/- Contract of spec.TilingsWith. -/
import Derived.Test.YthdojiaaoaiioaaWith
import Derived.Test.YthdojiaaoaiioaaLaid
import Derived.Test.YthdojiaaoaiioaaDpS
namespace Go.Proofs.Ythdojiaaoaiioaa
open Go.RowKit
set_option linter.unusedVariables false
set_option maxRecDepth 100000
set_option linter.unusedSimpArgs false

theorem own_two_lit (w : World) {B : Nat} (x y : Int) (hB : B ≤ w.heap.size) : OwnsI (w.alloc (.cells #[.int .i64 x, .int .i64 y] 3 (0, 0))) B (.slice (some ⟨w.heap.size, 0, none⟩) 2 2) [x, y] :=
  ⟨by simp, .inr ⟨w.heap.size, 2, #[.int .i64 x, .int .i64 y], rfl, hB, heap_alloc_new w _, Nat.le_refl _, by decide, by simp, by simp⟩⟩

set_option maxHeartbeats 2000000 in
theorem sTilingsWith_any (W T : Int) (a : Option Addr) (n cap : Nat) (xs : List Bool) (k way : Int) (w : World) (hn : n = xs.length) (hn' : n ≤ 1048576) (ha : BoolsAt w a xs) :
    Calls Try.prog 22 #[.agg #[.int .i64 W, .int .i64 T, .slice a n cap], .int .i64 k, .int .i64 way] w fun e w' => e = .returned (.int .i64 (withT W T xs k way)) ∧ Below w.heap.size w w' := by
  have HN := Lib.hid hn; clear hn
  have HA := Lib.hid ha; clear ha
  by_cases h : rv W T xs = true
  · obtain ⟨hW0, hW1, hT0, hT1, v5, _⟩ := rv_true h
    have HWT : Hid ((n : Int) = W * T) := by show _ = _; rw [HN.out]; exact v5
    clear v5
    have hp : 0 < n := by
      have h1 : 1 * 1 ≤ W * T := Int.mul_le_mul hW0 hT0 (by omega) (by omega)
      have := HWT.out
      omega
    have hres : withT W T xs k way = (withN W T xs k way : Int) := by unfold withT; rw [if_pos h]
    rw [hres]
    clear hres
    obtain ⟨o, hoo⟩ : ∃ o, o = cellB W T n k way := ⟨_, rfl⟩
    have hst : stepTo W T xs k way = o := by unfold stepTo; rw [if_pos h, ← HN.out, hoo]
    have HST := Lib.hid hst; clear hst
    have H := Lib.hid h; clear h
    by_cases hneg : o < 0
    · have hcan : canTake W T xs k way = false := by
        unfold canTake
        rw [← HN.out, ← hoo, decide_eq_false (by omega)]
        rfl
      have hr : withN W T xs k way = 0 := by unfold withN; rw [hcan]; rfl
      rw [hr]
      clear hr hcan hoo
      go_enter Try.func22, Try.ntmps22
      go_wp2_with fail
      refine (sRegionValid_any _ _ _ _ _ xs _ HN.out hn' (HA.out.one _)).mono ?_; rintro e w1 ⟨rfl, hb1⟩
      have p1 := heap_later (heap_new w _) hb1
      have b1 := below_seq (below1 _ _) hb1
      obtain ⟨c0, c1, c2⟩ := cells3 p1
      rw [H.out]
      go_wp2_with fail
      refine (sStepTo_any _ _ _ _ _ _ _ xs _ HN.out hn' (HA.out.below b1)).mono ?_; rintro e w2 ⟨rfl, hb2⟩
      rw [HST.out]
      have b2 := below_seq b1 hb2
      go_wp2
      go_ret
      exact ⟨rfl, b2⟩
    · obtain ⟨on, hon⟩ : ∃ on : Nat, o = on := ⟨o.toNat, by omega⟩
      subst hon
      have hbd := cellB_bd (W := W) (T := T) (n := n) (k := k) (way := way) hW0 HWT.out (by rw [← hoo]; omega)
      obtain ⟨kn, hkn⟩ : ∃ kn : Nat, k = kn := ⟨k.toNat, by omega⟩
      subst hkn
      have hk : kn < n := by omega
      have hon : on < n := by omega
      have hcan : canTake W T xs kn way = (xs.getD kn false && xs.getD on false) := by
        unfold canTake
        rw [← HN.out, ← hoo, decide_eq_true (by omega)]
        simp
      have hwn : withN W T xs kn way = if (xs.getD kn false && xs.getD on false) then dpT W T (lessB xs [kn, on]) else 0 := by
        unfold withN
        rw [hcan, ← HN.out, ← hoo]
        simp
      rw [hwn]
      clear hwn hcan hoo hbd
      have e1 : (kn : Int) < n := by omega
      have e2 : (on : Int) < n := by omega
      obtain ⟨b, off, rfl, hck⟩ := HA.out kn (by rw [← HN.out]; exact hk)
      obtain ⟨b', off', hbb, hco⟩ := HA.out on (by rw [← HN.out]; exact hon)
      cases hbb
      have hbl := World.block_lt_of_cell? w _ hck
      simp only at hbl
      obtain ⟨xk, hxk⟩ : ∃ xk, xk = xs.getD kn false := ⟨_, rfl⟩
      obtain ⟨xo, hxo⟩ : ∃ xo, xo = xs.getD on false := ⟨_, rfl⟩
      rw [← hxk] at hck
      rw [← hxo] at hco
      simp only [← hxk, ← hxo]
      clear hxk hxo
      go_enter Try.func22, Try.ntmps22
      go_wp2_with fail
      refine (sRegionValid_any _ _ _ _ _ xs _ HN.out hn' (HA.out.one _)).mono ?_; rintro e w1 ⟨rfl, hb1⟩
      have p1 := heap_later (heap_new w _) hb1
      have b1 := below_seq (below1 _ _) hb1
      obtain ⟨c0, c1, c2⟩ := cells3 p1
      rw [H.out]
      go_wp2_with fail
      refine (sStepTo_any _ _ _ _ _ _ _ xs _ HN.out hn' (HA.out.below b1)).mono ?_; rintro e w2 ⟨rfl, hb2⟩
      rw [HST.out]
      have b2 := below_seq b1 hb2
      have p2 := heap_later p1 hb2
      clear c0 c1 c2 p1 hb1 hb2
      obtain ⟨c0, c1, c2⟩ := cells3 p2
      have k2 : w2.cell? ⟨b, off + kn, none⟩ = _ := (b2.cell (p := ⟨b, off + kn, none⟩) hbl).trans hck
      have o2 : w2.cell? ⟨b, off + on, none⟩ = _ := (b2.cell (p := ⟨b, off + on, none⟩) hbl).trans hco
      clear hck hco
      cases xk
      · go_wp2
        go_ret
        exact ⟨rfl, b2⟩
      · cases xo
        · go_wp2
          go_ret
          exact ⟨rfl, b2⟩
        · have O2 := Lib.hid (OwnsI.at (own_two_lit w2 (B := 0) (kn : Int) (on : Int) (Nat.zero_le _)))
          have A3 := Lib.hid ((HA.out.below b2).one (.cells #[.int .i64 (kn : Int), .int .i64 (on : Int)] 3 (0, 0)))
          go_wp2_with fail
          have hq2 : ∀ q, q < 2 → ([kn, on] : List Nat).getD q 0 < n := by
            intro q hq
            have : q = 0 ∨ q = 1 := by omega
            rcases this with rfl | rfl
            · exact hk
            · exact hon
          refine (l3Less_any W T _ n cap xs _ 2 2 [kn, on] _ HN.out hn' hp rfl (by decide) hq2 A3.out O2.out).mono ?_; rintro e w3 ⟨g, cg, rfl, ho3, hb3⟩
          have b3 := below_seq (below_seq b2 (below1 _ _)) hb3
          have O3 := Lib.hid ho3; clear ho3
          go_wp2_with fail
          refine (sTilingsMany_any W T _ n cg (lessB xs [kn, on]) _ (by rw [lessB_len]; exact HN.out) hn' (OwnsB.at O3.out)).mono ?_; rintro e w4 ⟨rfl, hb4⟩
          go_wp2
          go_ret
          exact ⟨ret_int (by unfold tilT; rw [if_pos (rv_less H.out)]), below_seq b3 hb4⟩
  · have hres : withT W T xs k way = -1 := by unfold withT; rw [if_neg h]
    rw [hres]
    rw [Bool.not_eq_true] at h
    clear hres
    go_enter Try.func22, Try.ntmps22
    go_wp2_with fail
    refine (sRegionValid_any _ _ _ _ _ xs _ HN.out hn' (HA.out.one _)).mono ?_; rintro e w1 ⟨rfl, hb1⟩
    rw [h]
    go_wp2
    go_ret
    exact ⟨rfl, below_seq (below1 _ _) hb1⟩

theorem sTilingsWith_ord (W T : Int) (k way : Int) (a : Option Addr) (n cap : Nat) (xs : List Bool) (w : World) (hn : n = xs.length) (hn' : n ≤ 1048576) (ha : BoolsAt w a xs) :
    Calls Try.prog 22 #[.agg #[.int .i64 W, .int .i64 T, .slice a n cap], .int .i64 k, .int .i64 way] w fun e w' => e = .returned (.int .i64 (withT W T xs k way)) ∧ Below w.heap.size w w' := sTilingsWith_any W T a n cap xs k way w hn hn' ha
theorem iTilingsWith_ord (W T : Int) (k way : Int) (a : Option Addr) (n cap : Nat) (xs : List Bool) (w : World) (hn : n = xs.length) (hn' : n ≤ 1048576) (ha : BoolsAt w a xs) :
    Calls Try.prog 21 #[.agg #[.int .i64 W, .int .i64 T, .slice a n cap], .int .i64 k, .int .i64 way] w fun e w' => e = .returned (.int .i64 (withT W T xs k way)) ∧ Below w.heap.size w w' := iTilingsWith_any W T a n cap xs k way w hn hn' ha

end Go.Proofs.Ythdojiaaoaiioaa
