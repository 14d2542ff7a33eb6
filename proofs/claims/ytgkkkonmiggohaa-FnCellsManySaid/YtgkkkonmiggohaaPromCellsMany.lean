/- The law FnCellsMany: its walk. -/
import Derived.Test.YtgkkkonmiggohaaProm
import Derived.Test.YtgkkkonmiggohaaFlipM
import Derived.Test.YtgkkkonmiggohaaPartsN
namespace Go.Proofs.Ytgkkkonmiggohaa
open Go.RowKit
set_option linter.unusedVariables false
set_option maxRecDepth 100000
set_option linter.unusedSimpArgs false
/-- How many of the first k numbers are not negative. -/
def posN (L : List Int) (k : Nat) : Nat := (List.range k).countP fun i => decide (0 ≤ L.getD i 0)
theorem posN_succ (L : List Int) (k : Nat) : posN L (k + 1) = posN L k + if 0 ≤ L.getD k 0 then 1 else 0 := by
  unfold posN; rw [List.range_succ, List.countP_append]; simp [List.countP_cons]
theorem posN_le (L : List Int) (k : Nat) : posN L k ≤ k := by
  have := List.countP_le_length (p := fun i => decide (0 ≤ L.getD i 0)) (l := List.range k)
  rwa [List.length_range] at this
theorem cnt_range (xs : List Bool) : cnt xs = (List.range xs.length).countP fun i => xs.getD i false := by
  unfold cnt
  have key : ∀ k, k ≤ xs.length → (xs.take k).countP id = (List.range k).countP fun i => xs.getD i false := by
    intro k
    induction k with
    | zero => intro _; simp
    | succ k ih =>
      intro hk
      rw [List.range_succ, List.countP_append, ← ih (by omega), List.take_succ_eq_append_getElem (by omega), List.countP_append]
      have : k < xs.length := by omega
      simp [List.countP_cons, this]
  have := key xs.length (Nat.le_refl _)
  rwa [List.take_length] at this
/-- As many cells have a part as there are cells. -/
theorem parts_pos {W T : Int} {xs : List Bool} (h : rv W T xs = true) : posN (partsF W T xs) (partsF W T xs).length = cnt xs := by
  have hm := marksL_marks xs.length (fun i => xs.getD i false) (adjW W false)
  have e : partsF W T xs = marksL xs.length (fun i => xs.getD i false) (adjW W false) := by unfold partsF; rw [h, if_pos rfl]
  rw [e, marksL_len, cnt_range]
  unfold posN
  refine List.countP_congr fun i hi => ?_
  have hiN := List.mem_range.1 hi
  rw [decide_eq_true_eq]
  cases hs : xs.getD i false
  · have := (hm.2 i hiN).1 hs
    constructor
    · intro h0; omega
    · intro h0; cases h0
  · obtain ⟨j, hj, _⟩ := (hm.2 i hiN).2 hs
    constructor
    · intro _; rfl
    · intro _; rw [hj]; omega

set_option maxHeartbeats 4000000 in
theorem promCellsMany_walk (cb : Option Addr) (n cap : Nat) (zs : List Int) (w : World) (hn : n = zs.length) (hn' : n ≤ maxLen) (hcap : n ≤ cap) (hb : BytesAt w cb zs) :
    Calls Try.prog 5 #[.slice cb n cap] w fun e w' => e = .returned (.bool true) ∧ Below w.heap.size w w' := by
  have HN := Lib.hid hn; clear hn
  have HB := Lib.hid hb; clear hb
  by_cases hbig : 1048576 < n
  · unfold maxLen at hn'
    go_enter Try.func5, Try.ntmps5
    go_wp2
    go_ret
    exact ⟨rfl, Below.refl _ _⟩
  have hsm : n ≤ 1048576 := by omega
  clear hbig hn'
  go_enter Try.func5, Try.ntmps5
  go_wp2_with fail
  refine (drawCellsMany_any _ _ _ zs _ HN.out hsm hcap HB.out).mono ?_; rintro e w1 ⟨W0, T0, a, m, c, xs, rfl, hm, h36, hs, ho, b1⟩
  have HM := Lib.hid hm; clear hm
  have AX := Lib.hid (OwnsB.at ho); clear ho
  obtain ⟨s0, s1, s2, s3⟩ := hs
  go_wp2_with fail
  refine (iCellsMany_any _ _ _ _ _ xs _ HM.out (by omega) (AX.out.one _)).mono ?_; rintro e w2 ⟨rfl, hb2⟩
  have b2 := below_seq (below_seq b1 (below1 _ _)) hb2
  have p2 := heap_later (heap_new w1 _) hb2
  have A2 := Lib.hid ((AX.out.one (.cells #[.int .i64 W0, .int .i64 T0, .slice a m c] 25)).below hb2)
  obtain ⟨c0, c1, c2⟩ := cells3 p2
  obtain ⟨D, hD⟩ : ∃ D, many W0 T0 xs = D := ⟨_, rfl⟩
  rw [hD]
  go_wp2_with fail
  refine (sCellsMany_any _ _ _ _ _ xs _ HM.out (by omega) A2.out).mono ?_; rintro e w3 ⟨rfl, hb3⟩
  have b3 := below_seq b2 hb3
  have p3 := heap_later p2 hb3
  have A3 := Lib.hid (A2.out.below hb3)
  clear c0 c1 c2
  obtain ⟨c0, c1, c2⟩ := cells3 p3
  rw [hD]
  have HD := Lib.hid hD; clear hD
  cases h : rv W0 T0 xs
  · have e : D = -1 := by rw [← HD.out]; unfold many; rw [h]; rfl
    subst e
    have H := Lib.hid h; clear h HD
    go_wp2_with fail
    refine (iRegionValid_any _ _ _ _ _ xs _ HM.out (by omega) A3.out).mono ?_; rintro e w4 ⟨rfl, hb4⟩
    rw [H.out]
    have b4 := below_seq b3 hb4
    go_wp2_with fail
    refine (alive_any _).mono ?_; rintro e w5 ⟨rfl, hb5⟩
    go_wp2
    go_ret
    exact ⟨rfl, below_seq b4 hb5⟩
  · have hlen := partsF_len W0 T0 xs
    have hpp := parts_pos h
    have e : D = (cnt xs : Nat) := by rw [← HD.out]; unfold many; rw [h, if_pos rfl]
    obtain ⟨_, _, _, _, _, v6⟩ := rv_true h
    obtain ⟨C, hC⟩ : ∃ C, C = cnt xs := ⟨_, rfl⟩
    rw [← hC] at e v6 hpp
    subst e
    clear hC HD h
    rw [← HM.out] at hlen
    have hI : Hid (∀ (w : World), BoolsAt w a xs → Calls Try.prog 13 #[.agg #[.int .i64 W0, .int .i64 T0, .slice a m c]] w (RetL w (partsF W0 T0 xs).length (partsF W0 T0 xs))) := fun w h => iPartsOf_ret W0 T0 a m c xs w HM.out (by omega) h
    generalize partsF W0 T0 xs = L at hI hlen hpp
    obtain ⟨q, hq⟩ : ∃ q, q = L.length := ⟨_, rfl⟩
    rw [← hq] at hlen hI hpp
    have HQ := Lib.hid hq; clear hq
    have HPP := Lib.hid hpp; clear hpp
    go_wp2_with fail
    refine (hI.out _ A3.out).mono ?_; rintro e w4 ⟨la, lcap, rfl, ho4, hb4⟩
    have b4 := below_seq b3 hb4
    have L4 := Lib.hid (OwnsI.at ho4)
    clear ho4 c0 c1 c2 hb4
    go_wp2
    go_loop [6, 7] (fun s i => ∃ k : Nat, k ≤ q ∧ i = .int .i64 k ∧ s = .int .i64 (posN L k : Nat)) (fun _ i => q - (intOf i).toNat)
    case atStart => exact ⟨0, Nat.zero_le _, rfl, rfl⟩
    case round =>
      obtain ⟨k, hk, rfl, rfl⟩ := hrel
      have hs := posN_le L k
      by_cases hlt : k < q
      · obtain ⟨lb, lo, rfl, hcx⟩ := L4.out k (by rw [← HQ.out]; exact hlt)
        have hsu := posN_succ L k
        obtain ⟨mu, hmu⟩ : ∃ mu, mu = L.getD k 0 := ⟨_, rfl⟩
        rw [← hmu] at hcx hsu
        clear hmu
        have e1 : (k : Int) < q := by omega
        have e2 : (0 : Int) ≤ k := by omega
        obtain ⟨u, hu⟩ : ∃ u, u = posN L k := ⟨_, rfl⟩
        obtain ⟨u2, hu2⟩ : ∃ u2, u2 = posN L (k + 1) := ⟨_, rfl⟩
        rw [← hu, ← hu2] at hsu
        rw [← hu]
        have huk : u ≤ k := by rw [hu]; exact hs
        have HU2 := Lib.hid hu2; clear hu2 hu hs
        by_cases he : 0 ≤ mu
        · have hsu2 : u2 = u + 1 := by rw [hsu, if_pos he]
          have HS := Lib.hid hsu2; clear hsu hsu2
          go_wp2
          go_round
          case rel => exact ⟨k + 1, by omega, by go_num, by rw [← HU2.out, HS.out]; go_num⟩
          case measure => simp [intOf]; omega
        · have hsu2 : u2 = u := by rw [hsu, if_neg he]; rfl
          have HS := Lib.hid hsu2; clear hsu hsu2
          go_wp2
          go_round
          case rel => exact ⟨k + 1, by omega, by go_num, by rw [← HU2.out, HS.out]⟩
          case measure => simp [intOf]; omega
      · obtain rfl : k = q := by omega
        rw [HPP.out]
        have e9 : (C : Int) ≤ 24 := by omega
        clear hs
        go_wp2
        go_ret
        exact ⟨rfl, b4⟩
end Go.Proofs.Ytgkkkonmiggohaa
