/- Contract of impl.RankOf. -/
import Derived.Test.YtnpmnjmjbpfipaaRank
namespace Go.Proofs.Ytnpmnjmjbpfipaa
open Go.RowKit
set_option linter.unusedVariables false
set_option maxRecDepth 100000
set_option linter.unusedSimpArgs false

set_option maxHeartbeats 4000000 in
theorem iRankOf_any (W T : Int) (a : Option Addr) (n cap : Nat) (xs : List Bool) (la : Option Addr) (m lcap : Nat) (L : List Int) (w : World) (hn : n = xs.length) (hn' : n ≤ 1048576) (hm : m = L.length) (hm' : m ≤ 1048576) (ha : BoolsAt w a xs) (hl : IntsAt w la L) :
    Calls Try.prog 45 #[.agg #[.int .i64 W, .int .i64 T, .slice a n cap], .slice la m lcap] w fun e w' => e = .returned (.int .i64 (rankF W T xs L)) ∧ Below w.heap.size w w' := by
  have HN := Lib.hid hn; clear hn
  have HM := Lib.hid hm; clear hm
  have HA := Lib.hid ha; clear ha
  have HL := Lib.hid hl; clear hl
  cases ht : tok W T xs L
  · have e : rankF W T xs L = -1 := by unfold rankF; rw [ht]; rfl
    rw [e]
    go_enter Try.func45, Try.ntmps45
    go_wp2_with fail
    refine (iTilingOk_any _ _ _ _ _ xs _ _ _ L _ HN.out hn' HM.out hm' (HA.out.one _) (HL.out.one _)).mono ?_; rintro e w1 ⟨rfl, hb1⟩
    rw [ht]
    go_wp2
    go_ret
    exact ⟨rfl, below_seq (below1 _ _) hb1⟩
  · have e : rankF W T xs L = (rankN W T xs L xs.length : Int) := by unfold rankF; rw [ht]; rfl
    rw [e]
    have hlk : lok W T xs L = true := by unfold tok at ht; rw [Bool.and_eq_true] at ht; exact ht.1
    obtain ⟨hr, hlen, _⟩ := lok_rv hlk
    obtain ⟨hW0, hW1, hT0, hT1, v5, _⟩ := rv_true hr
    have hmn : m = n := by rw [HM.out, HN.out]; exact hlen
    subst hmn
    have hWT : (m : Int) = W * T := by rw [HN.out]; exact v5
    have n36 : m ≤ 36 := by
      have h1 : W * T ≤ 6 * 6 := Int.mul_le_mul hW1 hT1 (by omega) (by omega)
      omega
    have hp : 0 < m := by
      have h1 : 1 * 1 ≤ W * T := Int.mul_le_mul hW0 hT0 (by omega) (by omega)
      omega
    have HWT := Lib.hid hWT; clear hWT v5 e hlen hlk hr
    have HT := Lib.hid ht; clear ht
    go_enter Try.func45, Try.ntmps45
    go_wp2_with fail
    refine (iTilingOk_any _ _ _ _ _ xs _ _ _ L _ HN.out hn' HM.out hm' (HA.out.one _) (HL.out.one _)).mono ?_; rintro e w1 ⟨rfl, hb1⟩
    rw [HT.out]
    have p1 := heap_later (heap_new w _) hb1
    have b1 := below_seq (below1 _ _) hb1
    obtain ⟨c0, c1, c2⟩ := cells3 p1
    go_wp2_with fail
    refine (copyField_any _ _ _ _ _ xs _ HN.out (by omega) (by omega) (by omega) (by omega) HWT.out hp (HA.out.below b1)).mono ?_; rintro e w2 ⟨g, rfl, ho2, hb2⟩
    have b2 := below_seq b1 hb2
    have hgl := World.ownsRow.lt ho2 g rfl
    have zl : w.heap.size + 1 ≤ w1.heap.size := heap_lt p1
    have O2 := Lib.hid ((ho2.lower (show w.heap.size + 1 ≤ _ by omega)).alloc (.cells #[.int .i64 W, .int .i64 T, .slice (some ⟨g, 0, none⟩) m m] 35))
    have pB := heap_new w2 (.cells #[.int .i64 W, .int .i64 T, .slice (some ⟨g, 0, none⟩) m m] 35)
    obtain ⟨wB, hwB⟩ : ∃ wB, wB = w2.alloc (.cells #[.int .i64 W, .int .i64 T, .slice (some ⟨g, 0, none⟩) m m] 35) := ⟨_, rfl⟩
    have bB : Below w.heap.size w wB := by rw [hwB]; exact below_seq b2 (below1 _ _)
    rw [← hwB] at pB O2
    have hg2 : g ≠ w2.heap.size := by omega
    have hg1 : w.heap.size < g := by omega
    clear c0 c1 c2 p1 b1 hb1 hb2 ho2 b2
    go_wp2_with fail
    rw [← hwB]
    clear hwB
    go_loopw [5, 17] (fun r i wr => ∃ k : Nat, k ≤ m ∧ i = .int .i64 k ∧ r = .int .i64 (rankN W T xs L k) ∧ OwnsB wr (w.heap.size + 1) (.slice (some ⟨g, 0, none⟩) m m) (restN W T xs L k) ∧ wr.heap[w2.heap.size]? = some (.cells #[.int .i64 W, .int .i64 T, .slice (some ⟨g, 0, none⟩) m m] 35 (0, 0)) ∧ Below w.heap.size w wr) (fun _ i _ => m - (intOf i).toNat)
    case atStart => exact ⟨0, Nat.zero_le _, rfl, rfl, O2.out, pB, bB⟩
    case round =>
      rename World => wo
      clear O2 pB bB
      obtain ⟨k, hk, rfl, rfl, ho, pr, hbel⟩ := hrel
      have HO := Lib.hid ho; clear ho
      have BEL := Lib.hid hbel; clear hbel
      by_cases hlt : k < m
      · obtain ⟨c0, c1, c2⟩ := cells3 pr
        have l1 := heap_lt pr
        have e1 : (k : Int) < m := by omega
        obtain ⟨lb, lo, rfl, hy⟩ := (HL.out.below BEL.out) k (by rw [← HM.out]; exact hlt)
        have hly := World.block_lt_of_cell? wo _ hy
        simp only at hly
        obtain ⟨v, hv⟩ : ∃ v, v = L.getD k 0 := ⟨_, rfl⟩
        rw [← hv] at hy
        obtain ⟨ys, hys⟩ : ∃ ys, ys = restN W T xs L k := ⟨_, rfl⟩
        have hyl : m = ys.length := by rw [hys, restN_len]; exact HN.out
        have hrk := rankN_le W T xs L (by rw [← HN.out]; exact n36) k (by omega)
        have hwl := withN_le' (W := W) (T := T) (xs := ys) (by rw [← hyl]; exact n36) k 1
        rw [← hys] at HO
        have hcell : wo.cell? ⟨g, k, none⟩ = some (.bool (ys.getD k false)) := by
          have h := (RowB.of HO.out hyl).cell hlt
          exact h
        obtain ⟨yk, hyk⟩ : ∃ yk, yk = ys.getD k false := ⟨_, rfl⟩
        rw [← hyk] at hcell
        have HYL := Lib.hid hyl; clear hyl
        obtain ⟨R, hR⟩ : ∃ R, R = rankN W T xs L k := ⟨_, rfl⟩
        rw [← hR] at hrk ⊢
        cases yk
        · have es : restN W T xs L (k + 1) = ys ∧ rankN W T xs L (k + 1) = R := by
            have e1 : restN W T xs L (k + 1) = if (restN W T xs L k).getD k false = true then takeB W T (restN W T xs L k) k (L.getD k 0) else restN W T xs L k := rfl
            have e2 : rankN W T xs L (k + 1) = rankN W T xs L k + (if (restN W T xs L k).getD k false = true ∧ L.getD k 0 = 2 then withN W T (restN W T xs L k) k 1 else 0) := rfl
            rw [e1, e2, ← hys, ← hyk, ← hR]
            exact ⟨by simp, by simp⟩
          have ES := Lib.hid es; clear es hv hyk hys hR
          go_wp2_with fail
          exact ⟨⟨k + 1, by omega, by go_num, by rw [ES.out.2], by rw [ES.out.1]; exact HO.out, pr, BEL.out⟩, by simp [intOf]; omega⟩
        · obtain ⟨es1, es2⟩ := rest_step hys hyk.symm
          rw [← hR, ← hv] at es2
          rw [← hv] at es1
          have ES1 := Lib.hid es1; clear es1 hyk hys hR
          by_cases hv2 : v = 2
          · subst hv2
            rw [if_pos rfl] at es2
            have ES2 := Lib.hid es2; clear es2 hv
            obtain ⟨Q, hQ⟩ : ∃ Q, Q = withN W T ys k 1 := ⟨_, rfl⟩
            rw [← hQ] at hwl ES2
            go_wp2_with fail
            refine (countWith_any _ _ _ _ _ ys _ _ _ HYL.out hW0 hW1 hT0 hT1 HWT.out (OwnsB.at HO.out)).mono ?_; rintro e w4 ⟨rfl, hb4⟩
            rw [← hQ]
            have p4 := heap_later pr hb4
            have B4 := Lib.hid (below_seq BEL.out hb4)
            have O4 := Lib.hid (HO.out.below hb4)
            clear c0 c1 c2 pr hQ hcell hb4
            obtain ⟨c0, c1, c2⟩ := cells3 p4
            have l4 := heap_lt p4
            go_wp2_with fail
            refine (takeOut_any _ _ _ _ _ _ ys _ _ _ HYL.out hW0 hW1 hT0 hT1 HWT.out O4.out).mono ?_; rintro e w5 ⟨rfl, ho5, g5⟩
            have p5 := heap_grown p4 g5 (by intro h; exact hg2 (Option.some.inj h))
            have B5 : Below w.heap.size w w5 := below_grown B4.out g5 (Nat.le_refl _) (by intro j hj; have := Option.some.inj hj; omega)
            go_wp2_with fail
            exact ⟨⟨k + 1, by omega, by go_num, by rw [ES2.out]; go_num, by rw [← ES1.out]; exact ho5, p5, B5⟩, by simp [intOf]; omega⟩
          · rw [if_neg hv2, Nat.add_zero] at es2
            have ES2 := Lib.hid es2; clear es2 hv
            have zv : (v == 2) = false := by simpa using hv2
            go_wp2_with fail
            refine (takeOut_any _ _ _ _ _ _ ys _ _ _ HYL.out hW0 hW1 hT0 hT1 HWT.out HO.out).mono ?_; rintro e w5 ⟨rfl, ho5, g5⟩
            have p5 := heap_grown pr g5 (by intro h; exact hg2 (Option.some.inj h))
            have B5 : Below w.heap.size w w5 := below_grown BEL.out g5 (Nat.le_refl _) (by intro j hj; have := Option.some.inj hj; omega)
            go_wp2_with fail
            exact ⟨⟨k + 1, by omega, by go_num, by rw [ES2.out]; rfl, by rw [← ES1.out]; exact ho5, p5, B5⟩, by simp [intOf]; omega⟩
      · obtain rfl : k = m := by omega
        go_wp2
        go_ret
        exact ⟨ret_int (by rw [← HN.out]), BEL.out⟩

end Go.Proofs.Ytnpmnjmjbpfipaa
