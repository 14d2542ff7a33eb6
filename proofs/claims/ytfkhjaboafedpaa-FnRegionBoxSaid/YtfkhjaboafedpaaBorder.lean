/- Contracts of the two functions Border. -/
import Derived.Test.YtfkhjaboafedpaaAround
import Derived.Test.YtfkhjaboafedpaaDark
namespace Go.Proofs.Ytfkhjaboafedpaa
open Go.RowKit
set_option linter.unusedVariables false
set_option maxRecDepth 100000
set_option linter.unusedSimpArgs false

def tn (b : Bool) : Nat := if b then 1 else 0
theorem ar4 (W T : Int) (xs : List Bool) (x y : Int) : (arList W T xs x y false 9).length = tn (atB W T xs x (y - 1)) + tn (atB W T xs (x - 1) y) + tn (atB W T xs (x + 1) y) + tn (atB W T xs x (y + 1)) := by
  have h0 : arOk W T xs x y false 0 = false := rfl
  have h1 : arOk W T xs x y false 1 = atB W T xs (x + 0) (y + -1) := rfl
  have h2 : arOk W T xs x y false 2 = false := rfl
  have h3 : arOk W T xs x y false 3 = atB W T xs (x + -1) (y + 0) := rfl
  have h4 : arOk W T xs x y false 4 = false := rfl
  have h5 : arOk W T xs x y false 5 = atB W T xs (x + 1) (y + 0) := rfl
  have h6 : arOk W T xs x y false 6 = false := rfl
  have h7 : arOk W T xs x y false 7 = atB W T xs (x + 0) (y + 1) := rfl
  have h8 : arOk W T xs x y false 8 = false := rfl
  unfold arList
  rw [List.length_map, show List.range 9 = [0, 1, 2, 3, 4, 5, 6, 7, 8] from rfl]
  simp only [List.filter_cons, List.filter_nil, h0, h1, h2, h3, h4, h5, h6, h7, h8, Int.add_zero]
  rw [show y + -1 = y - 1 by omega, show x + -1 = x - 1 by omega]
  cases atB W T xs x (y - 1) <;> cases atB W T xs (x - 1) y <;> cases atB W T xs (x + 1) y <;> cases atB W T xs x (y + 1) <;> rfl

/-- How many sides of the k-th cell are open. -/
def bdAt (W T : Int) (xs : List Bool) (k : Nat) : Nat := if xs.getD k false then 4 - (arList W T xs ((k : Int) % W) ((k : Int) / W) false 9).length else 0
def bdN (W T : Int) (xs : List Bool) (k : Nat) : Nat := ((List.range k).map (bdAt W T xs)).sum
theorem bdN_succ (W T : Int) (xs : List Bool) (k : Nat) : bdN W T xs (k + 1) = bdN W T xs k + bdAt W T xs k := by
  unfold bdN; rw [List.range_succ, List.map_append, List.sum_append]; simp
theorem bdAt_le (W T : Int) (xs : List Bool) (k : Nat) : bdAt W T xs k ≤ 4 := by unfold bdAt; split <;> omega
theorem bdN_le (W T : Int) (xs : List Bool) (k : Nat) : bdN W T xs k ≤ 4 * k := by
  induction k with
  | zero => simp [bdN]
  | succ k ih => rw [bdN_succ]; have := bdAt_le W T xs k; omega
def bord (W T : Int) (xs : List Bool) : Int := if rv W T xs then bdN W T xs xs.length else -1

set_option maxHeartbeats 2000000 in
theorem iBorder_any (W T : Int) (a : Option Addr) (n cap : Nat) (xs : List Bool) (w : World) (hn : n = xs.length) (hn' : n ≤ 1048576) (ha : BoolsAt w a xs) :
    Calls Try.prog 18 #[.agg #[.int .i64 W, .int .i64 T, .slice a n cap]] w fun e w' => e = .returned (.int .i64 (bord W T xs)) ∧ Below w.heap.size w w' := by
  have HN := Lib.hid hn; clear hn
  have HA := Lib.hid ha; clear ha
  by_cases h : rv W T xs = true
  · obtain ⟨v1, v2, v3, v4, v5, _⟩ := rv_true h
    have hnW : Hid ((n : Int) = W * T) := by show (n : Int) = W * T; rw [HN.out]; exact v5
    clear v5
    go_enter Try.func18, Try.ntmps18
    go_wp2_with fail
    refine (iRegionValid_any _ _ _ _ _ xs _ HN.out hn' (HA.out.one _)).mono ?_; rintro e w1 ⟨rfl, hb1⟩
    have p1 := heap_later (heap_new w _) hb1
    have b1 := below_seq (below1 _ _) hb1
    obtain ⟨c0, c1, c2⟩ := cells3 p1
    go_wp2
    go_loopw [3, 4, 5, 12] (fun c _ _ i wr => ∃ k : Nat, k ≤ n ∧ i = .int .i64 k ∧ c = .int .i64 (bdN W T xs k) ∧ wr.heap[w.heap.size]? = some (.cells #[.int .i64 W, .int .i64 T, .slice a n cap] 27 (0, 0)) ∧ Below w.heap.size w wr) (fun _ _ _ i _ => n - (intOf i).toNat)
    case atStart => exact ⟨0, Nat.zero_le _, rfl, rfl, p1, b1⟩
    case round =>
      clear c0 c1 c2
      obtain ⟨k, hk, rfl, rfl, hp, hbel⟩ := hrel
      by_cases hlt : k < n
      · have HAt := Lib.hid (HA.out.below hbel)
        have HAt0 : BoolsAt wr a xs := HAt.out
        obtain ⟨b, off, rfl, hc⟩ := HAt0 k (by rw [← HN.out]; exact hlt)
        have BEL := Lib.hid hbel; clear hbel
        have hs := bdN_succ W T xs k
        have hle := bdN_le W T xs k
        have e1 : (k : Int) < n := by omega
        have e0 : (0 : Int) ≤ k := by omega
        obtain ⟨c0, c1, c2⟩ := cells3 hp
        have lp := heap_lt hp
        cases hx : xs.getD k false
        · rw [hx] at hc
          have hbd : bdAt W T xs k = 0 := by unfold bdAt; rw [hx]; rfl
          rw [hbd] at hs
          have HS := Lib.hid hs; clear hs hbd
          have HX := Lib.hid hx; clear hx
          go_wp2
          go_roundw
          case rel => exact ⟨k + 1, by omega, by go_num, by rw [HS.out]; simp, hp, BEL.out⟩
          case measure => simp [intOf]; omega
        · rw [hx] at hc
          have hbd : bdAt W T xs k = 4 - (arList W T xs ((k : Int) % W) ((k : Int) / W) false 9).length := by unfold bdAt; rw [hx]; rfl
          have hl4 : (arList W T xs ((k : Int) % W) ((k : Int) / W) false 9).length ≤ 4 := by
            rw [ar4]; unfold tn; split <;> split <;> split <;> split <;> omega
          rw [hbd] at hs
          obtain ⟨m, hm⟩ : ∃ m, m = (arList W T xs ((k : Int) % W) ((k : Int) / W) false 9).length := ⟨_, rfl⟩
          rw [← hm] at hs hl4
          have HS := Lib.hid hs; clear hs hbd
          have HM := Lib.hid hm; clear hm
          have HX := Lib.hid hx; clear hx
          go_wp2_with fail
          refine (cellsAround_any _ _ _ _ _ xs k _ _ HN.out (by omega) (by omega) (by omega) (by omega) hnW.out hlt HAt.out).mono ?_; rintro e w6 ⟨v, rfl, ho, hb6⟩
          have p6 := heap_later hp hb6
          have B6 := Lib.hid (below_seq BEL.out hb6)
          obtain ⟨av, cv, rfl⟩ := ho.form2
          rw [← HM.out]
          clear c0 c1 c2 ho
          obtain ⟨c0, c1, c2⟩ := cells3 p6
          go_wp2
          go_roundw
          case rel => exact ⟨k + 1, by omega, by go_num, by rw [HS.out]; go_num, p6, B6.out⟩
          case measure => simp [intOf]; omega
      · obtain rfl : k = n := by omega
        obtain ⟨c0, c1, c2⟩ := cells3 hp
        go_wp2
        go_ret
        exact ⟨ret_int (by unfold bord; rw [if_pos h, HN.out]), hbel⟩
  · rw [Bool.not_eq_true] at h
    go_enter Try.func18, Try.ntmps18
    go_wp2_with fail
    refine (iRegionValid_any _ _ _ _ _ xs _ HN.out hn' (HA.out.one _)).mono ?_; rintro e w1 ⟨rfl, hb1⟩
    go_wp2
    go_ret
    exact ⟨ret_int (by unfold bord; rw [h]; rfl), below_seq (below1 _ _) hb1⟩

end Go.Proofs.Ytfkhjaboafedpaa
