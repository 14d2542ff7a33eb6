/- Contract of spec.Border. -/
import Derived.Test.YtllcojeimnncoaaBorder
namespace Go.Proofs.Ytllcojeimnncoaa
open Go.RowKit
set_option linter.unusedVariables false
set_option maxRecDepth 100000
set_option linter.unusedSimpArgs false

/-- How many of the first s truths are false. -/
def ff (l : List Bool) (s : Nat) : Nat := (l.take s).countP (!·)
theorem ff_le (l : List Bool) (s : Nat) : ff l s ≤ s := Nat.le_trans List.countP_le_length (List.length_take_le _ _)
theorem ff_succ (l : List Bool) (s : Nat) (h : s < l.length) : ff l (s + 1) = ff l s + if l.getD s false then 0 else 1 := by
  unfold ff
  rw [List.take_succ_eq_append_getElem h, List.countP_append]
  simp only [List.countP_cons, List.countP_nil, List.getD, List.getElem?_eq_getElem h, Option.getD_some]
  cases l[s] <;> simp
theorem four_cell {w : World} {g : Nat} {b0 b1 b2 b3 : Bool} (h : w.heap[g]? = some (.cells #[.bool b0, .bool b1, .bool b2, .bool b3] 4 (0, 0))) (s : Nat) (hs : s < 4) :
    w.cell? ⟨g, s, none⟩ = some (.bool ([b0, b1, b2, b3].getD s false)) := by
  obtain rfl | rfl | rfl | rfl : s = 0 ∨ s = 1 ∨ s = 2 ∨ s = 3 := by omega
  all_goals simp [World.cell?, h]

set_option maxHeartbeats 4000000 in
theorem sBorder_any (W T : Int) (a : Option Addr) (n cap : Nat) (xs : List Bool) (w : World) (hn : n = xs.length) (hn' : n ≤ 1048576) (ha : BoolsAt w a xs) :
    Calls Try.prog 39 #[.agg #[.int .i64 W, .int .i64 T, .slice a n cap]] w fun e w' => e = .returned (.int .i64 (bord W T xs)) ∧ Below w.heap.size w w' := by
  have HN := Lib.hid hn; clear hn
  have HA := Lib.hid ha; clear ha
  by_cases h : rv W T xs = true
  · obtain ⟨v1, v2, v3, v4, v5, _⟩ := rv_true h
    have hnW : Hid ((n : Int) = W * T) := by show (n : Int) = W * T; rw [HN.out]; exact v5
    have n36 : n ≤ 36 := by have := mul_bd v1 v2 v3 v4; have := hnW.out; omega
    clear v5
    go_enter Try.func39, Try.ntmps39
    go_wp2_with fail
    refine (sRegionValid_any _ _ _ _ _ xs _ HN.out hn' (HA.out.one _)).mono ?_; rintro e w1 ⟨rfl, hb1⟩
    have p1 := heap_later (heap_new w _) hb1
    have b1 := below_seq (below1 _ _) hb1
    obtain ⟨c0, c1, c2⟩ := cells3 p1
    go_wp2
    go_loopw [3, 4, 5, 6, 7, 8] (fun c i _ _ _ _ wr => ∃ k : Nat, k ≤ n ∧ i = .int .i64 k ∧ c = .int .i64 (bdN W T xs k) ∧ wr.heap[w.heap.size]? = some (.cells #[.int .i64 W, .int .i64 T, .slice a n cap] 28 (0, 0)) ∧ Below w.heap.size w wr) (fun _ i _ _ _ _ _ => n - (intOf i).toNat)
    case atStart => exact ⟨0, Nat.zero_le _, rfl, rfl, p1, b1⟩
    case round =>
      clear c0 c1 c2
      obtain ⟨k, hk, rfl, rfl, hp, hbel⟩ := hrel
      obtain ⟨c0, c1, c2⟩ := cells3 hp
      have lp := heap_lt hp
      by_cases hlt : k < n
      · have HAt := Lib.hid (HA.out.below hbel)
        have HAt0 : BoolsAt wr a xs := HAt.out
        obtain ⟨b, off, rfl, hc⟩ := HAt0 k (by rw [← HN.out]; exact hlt)
        clear hc HAt0
        have BEL := Lib.hid hbel; clear hbel
        have hs := bdN_succ W T xs k
        have hle := bdN_le W T xs k
        have hle1 := bdAt_le W T xs k
        have HS := Lib.hid hs; clear hs
        have e1 : (k : Int) < n := by omega
        have e0 : (0 : Int) ≤ k := by omega
        obtain ⟨m1, m2, m3, m4⟩ := divmod_bd (W := W) (k := k) v1
        have hWn : W ≠ 0 := by omega
        go_wp2
        obtain ⟨x, hx⟩ : ∃ x, x = (k : Int) % W := ⟨_, rfl⟩
        obtain ⟨y, hy⟩ : ∃ y, y = (k : Int) / W := ⟨_, rfl⟩
        rw [← hx, ← hy]
        rw [← hx] at m1 m2
        rw [← hy] at m3 m4
        have HX := Lib.hid hx; clear hx
        have HY := Lib.hid hy; clear hy
        have P6 : wr.drew.heap[w.heap.size]? = some (.cells #[.int .i64 W, .int .i64 T, .slice (some ⟨b, off, none⟩) n cap] 28 (0, 0)) := hp
        have A6 : Hid (BoolsAt wr.drew (some ⟨b, off, none⟩) xs) := HAt
        have W1 : IntKind.i64.wrap (x + 1) = x + 1 := IntWalk.i64_in _ (by omega)
        have W2 : IntKind.i64.wrap (y + 1) = y + 1 := IntWalk.i64_in _ (by clear W1; omega)
        have W3 : IntKind.i64.wrap (x - 1) = x - 1 := IntWalk.i64_in _ (by clear W1 W2; omega)
        have W4 : IntKind.i64.wrap (y - 1) = y - 1 := IntWalk.i64_in _ (by clear W1 W2 W3; omega)
        have g1 : 0 ≤ W := by clear W1 W2 W3 W4; omega
        have g2 : W ≤ 100 := by clear W1 W2 W3 W4; omega
        have g3 : 0 ≤ T := by clear W1 W2 W3 W4; omega
        have g4 : T ≤ 100 := by clear W1 W2 W3 W4; omega
        have BB : Below wr.heap.size wr wr.drew := drew_below _
        go_region_held3 (fun w' => w'.cell? ⟨w.heap.size, 0, none⟩ = some (.int .i64 W) ∧ w'.cell? ⟨w.heap.size, 1, none⟩ = some (.int .i64 T) ∧ w'.cell? ⟨w.heap.size, 2, none⟩ = some (.slice (some ⟨b, off, none⟩) n cap))
          (go_keep)
          (first
            | (go_at_call 59; refine (l1At_any _ _ _ _ _ _ _ xs _ HN.out g1 g2 g3 g4 hnW.out (Hid.out (by assumption))).mono ?_; rintro e w6 ⟨rfl, hb6⟩; have P7 : w6.heap[w.heap.size]? = some (.cells #[.int .i64 W, .int .i64 T, .slice (some ⟨b, off, none⟩) n cap] 28 (0, 0)) := heap_later (by assumption) hb6; obtain ⟨c60, c61, c62⟩ := cells3 P7; have A7 := Lib.hid (BoolsAt.below (Hid.out (by assumption)) hb6); have BB' := below_seq (by assumption) hb6))
        clear W1 W2 W3 W4
        obtain ⟨b0, hb0⟩ : ∃ b0, b0 = atB W T xs (x + 1) y := ⟨_, rfl⟩
        obtain ⟨b1', hb1'⟩ : ∃ b1, b1 = atB W T xs x (y + 1) := ⟨_, rfl⟩
        obtain ⟨b2', hb2'⟩ : ∃ b2, b2 = atB W T xs (x - 1) y := ⟨_, rfl⟩
        obtain ⟨b3, hb3⟩ : ∃ b3, b3 = atB W T xs x (y - 1) := ⟨_, rfl⟩
        rw [← hb0, ← hb1', ← hb2', ← hb3]
        have hff : (arList W T xs ((k : Int) % W) ((k : Int) / W) false 9).length = 4 - ff [b0, b1', b2', b3] 4 := by
          rw [← HX.out, ← HY.out, ar4, ← hb0, ← hb1', ← hb2', ← hb3]
          cases b0 <;> cases b1' <;> cases b2' <;> cases b3 <;> rfl
        have hf4 := ff_le [b0, b1', b2', b3] 4
        have hbt : xs.getD k false = true → bdAt W T xs k = ff [b0, b1', b2', b3] 4 := by intro hh; unfold bdAt; rw [hh, hff]; simp only [if_true]; omega
        have hbf : xs.getD k false = false → bdAt W T xs k = 0 := by intro hh; unfold bdAt; rw [hh]; rfl
        obtain ⟨L, hL⟩ : ∃ L, L = [b0, b1', b2', b3] := ⟨_, rfl⟩
        rw [← hL] at hbt hf4
        have HBT := Lib.hid hbt; clear hbt hff hb0 hb1' hb2' hb3
        have HBF := Lib.hid hbf; clear hbf
        obtain ⟨wB, hwB⟩ : ∃ wB, wB = w6.alloc (.cells #[.bool b0, .bool b1', .bool b2', .bool b3] 4) := ⟨_, rfl⟩
        have pB : wB.heap[w.heap.size]? = some (.cells #[.int .i64 W, .int .i64 T, .slice (some ⟨b, off, none⟩) n cap] 28 (0, 0)) := by rw [hwB]; exact heap_later P7 (below1 _ _)
        have fB : wB.heap[w6.heap.size]? = some (.cells #[.bool b0, .bool b1', .bool b2', .bool b3] 4 (0, 0)) := by rw [hwB]; exact heap_new _ _
        have bB : Below w.heap.size w wB := by rw [hwB]; exact below_seq (below_seq BEL.out BB') (below1 _ _)
        rw [← hwB]
        have HL := Lib.hid hL; clear hL hwB
        have HAB := Lib.hid (HA.out.below bB)
        clear c0 c1 c2 c60 c61 c62
        obtain ⟨xk, hxk⟩ : ∃ xk, xk = xs.getD k false := ⟨_, rfl⟩
        have HXK := Lib.hid hxk; clear hxk
        go_wp2
        go_loopw [3, 8] (fun c sd wr => ∃ s : Nat, s ≤ 4 ∧ sd = .int .i64 s ∧ Hid (xk = false → s = 0) ∧ c = .int .i64 (bdN W T xs k + ff L s) ∧ wr.heap[w.heap.size]? = some (.cells #[.int .i64 W, .int .i64 T, .slice (some ⟨b, off, none⟩) n cap] 28 (0, 0)) ∧ wr.heap[w6.heap.size]? = some (.cells #[.bool b0, .bool b1', .bool b2', .bool b3] 4 (0, 0)) ∧ Below w.heap.size w wr) (fun _ sd _ => 4 - (intOf sd).toNat)
        case atStart => exact ⟨0, by omega, rfl, fun _ => rfl, by simp [ff], pB, fB, bB⟩
        case round =>
          clear pB fB bB
          obtain ⟨s, hs4, rfl, hs0, rfl, pB, fB, bB⟩ := hrel
          obtain ⟨c0, c1, c2⟩ := cells3 pB
          have lpB := heap_lt pB
          have HAC := Lib.hid (HA.out.below bB)
          obtain ⟨b', off', hbo, hc⟩ := HAC.out k (by rw [← HN.out]; exact hlt)
          simp only [Option.some.injEq, Addr.mk.injEq, and_true] at hbo
          obtain ⟨rfl, rfl⟩ := hbo
          rw [← HXK.out] at hc
          have es0 : (0 : Int) ≤ s := by omega
          have BELB := Lib.hid bB; clear bB
          have hfs := ff_le L s
          cases hxv : xk
          · rw [hxv] at hc hs0
            obtain rfl : s = 0 := hs0.out rfl
            have hb00 := HBF.out (by rw [← HXK.out]; exact hxv)
            have HB0 := Lib.hid hb00; clear hb00
            have HXV := Lib.hid hxv; clear hxv
            go_wp2
            go_roundw
            case rel => exact ⟨k + 1, by omega, by go_num, by rw [HS.out, HB0.out]; simp [ff], pB, BELB.out⟩
            case measure => simp [intOf]; omega
          · rw [hxv] at hc
            have hb00 := HBT.out (by rw [← HXK.out]; exact hxv)
            have HB0 := Lib.hid hb00; clear hb00
            have HXV := Lib.hid hxv; clear hxv
            by_cases hlts : s < 4
            · have hnear := four_cell fB s hlts
              rw [← HL.out] at hnear
              have hst := ff_succ L s (by rw [HL.out]; exact hlts)
              have es1 : (s : Int) < 4 := by omega
              cases hnv : L.getD s false
              all_goals
                rw [hnv] at hnear hst
                have HNV := Lib.hid hnv; clear hnv
                have HST := Lib.hid hst; clear hst
                go_wp2
                go_roundw
                case rel => exact ⟨s + 1, by omega, by go_num, fun hh => (by cases hh), by rw [HST.out]; go_num, pB, fB, BELB.out⟩
                case measure => simp [intOf]; omega
            · obtain rfl : s = 4 := by omega
              have es1 : ¬ ((4 : Nat) : Int) < 4 := by omega
              go_wp2
              go_roundw
              case rel => exact ⟨k + 1, by omega, by go_num, by rw [HS.out, HB0.out]; go_num, pB, BELB.out⟩
              case measure => simp [intOf]; omega
      · obtain rfl : k = n := by omega
        go_wp2
        go_ret
        exact ⟨ret_int (by unfold bord; rw [if_pos h, HN.out]), hbel⟩
  · rw [Bool.not_eq_true] at h
    go_enter Try.func39, Try.ntmps39
    go_wp2_with fail
    refine (sRegionValid_any _ _ _ _ _ xs _ HN.out hn' (HA.out.one _)).mono ?_; rintro e w1 ⟨rfl, hb1⟩
    go_wp2
    go_ret
    exact ⟨ret_int (by unfold bord; rw [h]; rfl), below_seq (below1 _ _) hb1⟩


end Go.Proofs.Ytllcojeimnncoaa
