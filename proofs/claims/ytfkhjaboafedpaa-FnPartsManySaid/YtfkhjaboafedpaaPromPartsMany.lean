/- The law FnPartsMany: its walk. -/
import Derived.Test.YtfkhjaboafedpaaProm
import Derived.Test.YtfkhjaboafedpaaPartsN
import Derived.Test.YtfkhjaboafedpaaPartsP
import Derived.Test.YtfkhjaboafedpaaSetRet
import Derived.Test.YtfkhjaboafedpaaSimple
namespace Go.Proofs.Ytfkhjaboafedpaa
open Go.RowKit
set_option linter.unusedVariables false
set_option maxRecDepth 100000
set_option linter.unusedSimpArgs false
theorem cnt_rangeM (xs : List Bool) : cnt xs = (List.range xs.length).countP fun i => xs.getD i false := by
  unfold cnt
  have key : ∀ k, k ≤ xs.length → (xs.take k).countP id = (List.range k).countP fun i => xs.getD i false := by
    intro k
    induction k with
    | zero => intro _; simp
    | succ k ih =>
      intro hk
      rw [List.range_succ, List.countP_append, ← ih (by omega), List.take_succ_eq_append_getElem (by omega), List.countP_append]
      have : k < xs.length := by omega
      simp [List.countP_cons, this]
  have := key xs.length (Nat.le_refl _)
  rwa [List.take_length] at this
theorem partsN_eq {W T : Int} {xs : List Bool} (h : rv W T xs = true) : partsN W T xs = (selfN (marksL xs.length (fun i => xs.getD i false) (adjW W false)) xs.length : Nat) := by
  have ef : partsF W T xs = marksL xs.length (fun i => xs.getD i false) (adjW W false) := by unfold partsF; rw [h, if_pos rfl]
  unfold partsN; rw [h, if_pos rfl, ef, marksL_len]
/-- No more parts than cells. -/
theorem partsN_le {W T : Int} {xs : List Bool} (h : rv W T xs = true) : 0 ≤ partsN W T xs ∧ partsN W T xs ≤ cnt xs := by
  rw [partsN_eq h, cnt_rangeM]
  have := parts_le (marksL_marks xs.length (fun i => xs.getD i false) (adjW W false))
  omega
/-- With a further cell. -/
theorem partsN_set {W T : Int} {xs : List Bool} {k : Nat} (h : rv W T xs = true) (hk : k < xs.length) (h2 : rv W T (setB xs k true) = true) : partsN W T (setB xs k true) ≤ partsN W T xs + 1 ∧ partsN W T xs ≤ partsN W T (setB xs k true) + 3 := by
  obtain ⟨v1, _⟩ := rv_true h
  have hl : (setB xs k true).length = xs.length := by unfold setB; rw [tab_len]
  have hg : ∀ i, i < xs.length → (setB xs k true).getD i false = if i = k then true else xs.getD i false := fun i hi => by unfold setB tab; simp [hi]
  rw [partsN_eq h, partsN_eq h2, hl]
  have hm := marksL_marks xs.length (fun i => xs.getD i false) (adjW W false)
  have hm' := (marksL_marks xs.length (fun i => (setB xs k true).getD i false) (adjW W false)).congr (s' := fun i => if i = k then true else xs.getD i false) hg
  have e' := marksL_eq hm'
  cases hx : xs.getD k false
  · have := parts_more v1 hm hm' hk hx (by simp) (fun i hi => by show (if i = k then true else xs.getD i false) = true; split; rfl; exact hi) (fun i hi hne => by
      have hi' : (if i = k then true else xs.getD i false) = true := hi
      rw [if_neg hne] at hi'; exact hi')
    omega
  · have hm2 := hm'.congr (s' := fun i => xs.getD i false) (fun i hi => by
      show (if i = k then true else xs.getD i false) = xs.getD i false
      by_cases e : i = k
      · rw [if_pos e, e, hx]
      · rw [if_neg e])
    have := marks_unique hm2 hm
    rw [this]; omega

set_option maxHeartbeats 1000000 in
theorem promPartsMany_walk (cb : Option Addr) (n cap : Nat) (zs : List Int) (w : World) (hn : n = zs.length) (hn' : n ≤ maxLen) (hcap : n ≤ cap) (hb : BytesAt w cb zs) :
    Calls Try.prog 5 #[.slice cb n cap] w fun e w' => e = .returned (.bool true) ∧ Below w.heap.size w w' := by
  have HN := Lib.hid hn; clear hn
  have HB := Lib.hid hb; clear hb
  by_cases hbig : 1048576 < n
  · unfold maxLen at hn'
    go_enter Try.func5, Try.ntmps5
    go_wp2
    go_ret
    exact ⟨rfl, Below.refl _ _⟩
  have hsm : n ≤ 1048576 := by omega
  clear hbig hn'
  go_enter Try.func5, Try.ntmps5
  go_wp2_with fail
  refine (drawPartsMany_any _ _ _ zs _ HN.out hsm hcap HB.out).mono ?_; rintro e w1 ⟨W0, T0, a, m, c, xs, rfl, hm, h36, hs, ho, b1⟩
  have HM := Lib.hid hm; clear hm
  have AX := Lib.hid (OwnsB.at ho); clear ho
  obtain ⟨s0, s1, s2, s3⟩ := hs
  go_wp2_with fail
  refine (iPartsMany_any _ _ _ _ _ xs _ HM.out (by omega) (AX.out.one _)).mono ?_; rintro e w2 ⟨rfl, hb2⟩
  have b2 := below_seq (below_seq b1 (below1 _ _)) hb2
  have p2 := heap_later (heap_new w1 _) hb2
  have A2 := Lib.hid ((AX.out.one (.cells #[.int .i64 W0, .int .i64 T0, .slice a m c] 27)).below hb2)
  obtain ⟨c0, c1, c2⟩ := cells3 p2
  obtain ⟨D, hD⟩ : ∃ D, partsN W0 T0 xs = D := ⟨_, rfl⟩
  rw [hD]
  go_wp2_with fail
  refine (sPartsMany_any _ _ _ _ _ xs _ HM.out (by omega) A2.out).mono ?_; rintro e w3 ⟨rfl, hb3⟩
  have b3 := below_seq b2 hb3
  have p3 := heap_later p2 hb3
  have A3 := Lib.hid (A2.out.below hb3)
  clear c0 c1 c2
  obtain ⟨c0, c1, c2⟩ := cells3 p3
  rw [hD]
  have HD := Lib.hid hD; clear hD
  cases h : rv W0 T0 xs
  · have e : D = -1 := by rw [← HD.out]; unfold partsN; rw [h]; rfl
    subst e
    have H := Lib.hid h; clear h HD
    go_wp2_with fail
    refine (alive_any _).mono ?_; rintro e w5 ⟨rfl, hb5⟩
    go_wp2
    go_ret
    exact ⟨rfl, below_seq b3 hb5⟩
  · obtain ⟨_, _, _, _, _, v6⟩ := rv_true h
    have hle := partsN_le h
    have hset : ∀ k : Nat, k < m → (setF W0 T0 xs k true = (0, 0, [], false)) ∨ (∃ ys, setF W0 T0 xs k true = (W0, T0, ys, true) ∧ ys.length = m ∧ partsN W0 T0 ys ≤ D + 1 ∧ D ≤ partsN W0 T0 ys + 3) := by
      intro k hk
      have hkn : k < xs.length := by rw [← HM.out]; exact hk
      by_cases hc : (setIn W0 T0 xs k && rv W0 T0 (setB xs ((k : Int)).toNat true)) = true
      · right
        have hc2 := hc
        rw [Bool.and_eq_true, Int.toNat_natCast] at hc2
        have := partsN_set h hkn hc2.2
        rw [HD.out] at this
        refine ⟨setB xs k true, ?_, by unfold setB; rw [tab_len]; exact HM.out.symm, this.1, this.2⟩
        unfold setF; rw [if_pos hc, Int.toNat_natCast]
      · left
        unfold setF; rw [if_neg hc]
    have hDm : D ≤ (cnt xs : Nat) := by rw [← HD.out]; exact hle.2
    have hD0 : 0 ≤ D := by rw [← HD.out]; exact hle.1
    have hmany : Hid (many W0 T0 xs = (cnt xs : Nat)) := by show _ = _; unfold many; rw [h, if_pos rfl]
    obtain ⟨C, hC⟩ : ∃ C, C = cnt xs := ⟨_, rfl⟩
    rw [← hC] at hDm hmany v6
    have HSET := Lib.hid hset; clear hset
    clear hC hle h HD
    have P3 := Lib.hid p3; clear p3
    go_wp2
    clear c0 c1 c2
    go_loopw [5] (fun i wr => ∃ k : Nat, k ≤ m ∧ i = .int .i64 k ∧ Below w3.heap.size w3 wr) (fun i _ => m - (intOf i).toNat)
    case atStart => exact ⟨0, Nat.zero_le _, rfl, Below.refl _ _⟩
    case round =>
      obtain ⟨k, hk, rfl, hbel⟩ := hrel
      rename World => wr
      have BEL := Lib.hid hbel; clear hbel
      obtain ⟨c0, c1, c2⟩ := cells3 (heap_later P3.out BEL.out)
      have AR := Lib.hid (A3.out.below BEL.out)
      by_cases hlt : k < m
      · have hcon := iRegionSet_ret W0 T0 k true a m c xs wr HM.out (by omega) AR.out
        have e1 : (k : Int) < m := by omega
        rcases HSET.out k hlt with hno | ⟨ys, hyes, hyl, hy1, hy2⟩
        · rw [hno] at hcon
          have HCON : Hid (Calls Try.prog 23 #[.agg #[.int .i64 W0, .int .i64 T0, .slice a m c], .int .i64 (k : Int), .bool true] wr (RetRegT wr 0 0 0 [] false)) := hcon
          clear hcon hno
          go_wp2_with fail
          refine (HCON.out).mono ?_; rintro e w5 ⟨a5, c5, rfl, ho5, hb5⟩
          have b5 := below_seq BEL.out hb5
          have O5 := Lib.hid (OwnsB.at ho5)
          clear ho5 hb5 c0 c1 c2 HCON
          go_wp2_with fail
          refine (iPartsMany_any _ _ _ _ _ [] _ rfl (by simp) (O5.out.one _)).mono ?_; rintro e w6 ⟨rfl, hb6⟩
          have b6 := below_seq (below_seq b5 (below1 _ _)) hb6
          generalize partsN 0 0 [] = pz
          go_wp2
          go_roundw
          case rel => exact ⟨k + 1, by omega, by go_num, b6⟩
          case measure => simp [intOf]; omega
        · rw [hyes] at hcon
          have HCON : Hid (Calls Try.prog 23 #[.agg #[.int .i64 W0, .int .i64 T0, .slice a m c], .int .i64 (k : Int), .bool true] wr (RetRegT wr W0 T0 ys.length ys true)) := hcon
          clear hcon hyes
          rw [hyl] at HCON
          have HYL := Lib.hid hyl.symm
          go_wp2_with fail
          refine (HCON.out).mono ?_; rintro e w5 ⟨a5, c5, rfl, ho5, hb5⟩
          have b5 := below_seq BEL.out hb5
          have O5 := Lib.hid (OwnsB.at ho5)
          clear ho5 hb5 c0 c1 c2 HCON
          go_wp2_with fail
          refine (iPartsMany_any _ _ _ m _ ys _ HYL.out (by omega) (O5.out.one _)).mono ?_; rintro e w6 ⟨rfl, hb6⟩
          have b6 := below_seq (below_seq b5 (below1 _ _)) hb6
          generalize partsN W0 T0 ys = pz at hy1 hy2
          have d1 : decide (D + 1 < pz) = false := decide_eq_false (by omega)
          have d2 : decide (pz < D - 3) = false := decide_eq_false (by omega)
          have d3 : ¬ D + 1 < pz := by omega
          have d4 : ¬ pz < D - 3 := by omega
          go_wp2
          go_roundw
          case rel => exact ⟨k + 1, by omega, by go_num, b6⟩
          case measure => simp [intOf]; omega
      · obtain rfl : k = m := by omega
        go_wp2_with fail
        refine (iCellsMany_any _ _ _ _ _ xs _ HM.out (by omega) AR.out).mono ?_; rintro e w5 ⟨rfl, hb5⟩
        rw [hmany.out]
        have d1 : decide (D ≤ (C : Int)) = true := decide_eq_true hDm
        go_wp2
        go_ret
        exact ⟨rfl, below_seq (below_seq b3 BEL.out) hb5⟩
end Go.Proofs.Ytfkhjaboafedpaa
