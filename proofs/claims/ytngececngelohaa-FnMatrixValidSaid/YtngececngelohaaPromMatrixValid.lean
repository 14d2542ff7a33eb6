/- The law FnMatrixValid: its walk. -/
import Derived.Test.YtngececngelohaaProm
import Derived.Test.YtngececngelohaaMatW
import Derived.Test.YtngececngelohaaDrawMx
namespace Go.Proofs.Ytngececngelohaa
open Go.RowKit
set_option linter.unusedVariables false
set_option maxRecDepth 100000
set_option linter.unusedSimpArgs false

/-- Without its last row a valid matrix is none. -/
theorem mat_less {rows : List (List Int)} (h2 : 2 ≤ rows.length) (h : matB rows = true) : matB (rows.take (rows.length - 1)) = false := by
  unfold matB at h ⊢
  rw [Bool.and_eq_true] at h
  have hall := h.2
  unfold rowsOk at hall
  rw [List.all_eq_true] at hall
  have h0 := hall 0 (List.mem_range.2 (by omega))
  unfold rowOk at h0
  rw [Bool.and_eq_true, decide_eq_true_eq] at h0
  have hl : (rows.take (rows.length - 1)).length = rows.length - 1 := by rw [List.length_take]; omega
  have hbad : rowOk (rows.take (rows.length - 1)) 0 = false := by
    unfold rowOk
    have e : (rows.take (rows.length - 1)).getD 0 [] = rows.getD 0 [] := by rw [List.getD_eq_getElem?_getD, List.getD_eq_getElem?_getD, List.getElem?_take, if_pos (by omega)]
    rw [e, hl, decide_eq_false (by omega)]; rfl
  rw [rowsOk_no (k := 0) (by rw [hl]; omega) hbad, Bool.and_false]
theorem RowsAt.take {w : World} {a : Option Addr} {rows : List (List Int)} (h : RowsAt w a rows) (k : Nat) : RowsAt w a (rows.take k) := by
  intro i hi
  rw [List.length_take] at hi
  obtain ⟨b, off, a', cap, rfl, hc, hx⟩ := h i (by omega)
  have e : (rows.take k).getD i [] = rows.getD i [] := by simp [List.getD, show i < k by omega]
  exact ⟨b, off, a', cap, rfl, by rw [e]; exact hc, by rw [e]; exact hx⟩

set_option maxHeartbeats 2000000 in
theorem promMatrixValid_walk (cb : Option Addr) (n cap : Nat) (zs : List Int) (w : World) (hn : n = zs.length) (hn' : n ≤ maxLen) (hcap : n ≤ cap) (hb : BytesAt w cb zs) :
    Calls Try.prog 3 #[.slice cb n cap] w fun e w' => e = .returned (.bool true) ∧ Below w.heap.size w w' := by
  have HN := Lib.hid hn; clear hn
  have HB := Lib.hid hb; clear hb
  by_cases hbig : 1048576 < n
  · unfold maxLen at hn'
    go_enter Try.func3, Try.ntmps3
    go_wp2
    go_ret
    exact ⟨rfl, Below.refl _ _⟩
  have hsm : n ≤ 1048576 := by omega
  clear hbig hn'
  go_enter Try.func3, Try.ntmps3
  go_wp2_with fail
  refine (drawMatrixValid_any _ _ _ zs _ HN.out hsm hcap HB.out).mono ?_; rintro e w1 ⟨a, m, c, rows, rfl, hm, h6, hc, h5, hr, b1⟩
  have HM := Lib.hid hm; clear hm
  have R1 := Lib.hid hr; clear hr
  have H5 := Lib.hid h5; clear h5
  obtain ⟨ok, hok⟩ : ∃ ok, ok = matB rows := ⟨_, rfl⟩
  go_wp2_with fail
  refine (iMatrixValid_any a m c rows _ HM.out (by omega) (fun i hi => by have := H5.out i hi; omega) R1.out).mono ?_; rintro e w2 ⟨rfl, hb2⟩
  rw [← hok]
  have b2 := below_seq b1 hb2
  have R2 := Lib.hid (R1.out.below hb2)
  go_wp2_with fail
  refine (sMatrixValid_any a m c rows _ HM.out (by omega) (fun i hi => by have := H5.out i hi; omega) R2.out).mono ?_; rintro e w3 ⟨rfl, hb3⟩
  rw [← hok]
  have b3 := below_seq b2 hb3
  have R3 := Lib.hid (R2.out.below hb3)
  have hnil : matB [] = true := by rfl
  have HNIL := Lib.hid hnil; clear hnil
  by_cases hlast : ok = true ∧ 2 ≤ m
  · obtain ⟨rfl, hm2⟩ := hlast
    have hless := mat_less (rows := rows) (by rw [← HM.out]; exact hm2) hok.symm
    rw [← HM.out] at hless
    have HL := Lib.hid hless; clear hless
    have m1 : ¬ (m : Int) < 2 := by omega
    have m2 : 0 ≤ (m : Int) - 1 := by omega
    have m3 : (m : Int) - 1 ≤ c := by omega
    have m4 : ((m : Int) - 1).toNat = m - 1 := by omega
    have htl : m - 1 = (rows.take (m - 1)).length := by rw [List.length_take, ← HM.out]; omega
    have HTL := Lib.hid htl; clear htl hok
    go_wp2_with fail
    refine (iMatrixValid_any a (m - 1) c (rows.take (m - 1)) _ HTL.out (by omega) (fun i hi => by
      have hi' : i < m - 1 := by rw [HTL.out]; exact hi
      have e : (rows.take (m - 1)).getD i [] = rows.getD i [] := by simp [List.getD, hi']
      rw [e]; have := H5.out i (by rw [← HM.out]; omega); omega) (R3.out.take _)).mono ?_; rintro e w4 ⟨rfl, hb4⟩
    rw [HL.out]
    have b4 := below_seq b3 hb4
    go_wp2_with fail
    refine (iMatrixValid_any none 0 0 [] _ rfl (by omega) (fun i hi => absurd hi (Nat.not_lt_zero i)) (RowsAt.empty _ _)).mono ?_; rintro e w5 ⟨rfl, hb5⟩
    rw [HNIL.out]
    have b5 := below_seq b4 hb5
    go_wp2_with fail
    refine (alive_any _).mono ?_; rintro e w6 ⟨rfl, hb6⟩
    go_wp2
    go_ret
    exact ⟨rfl, below_seq b5 hb6⟩
  · have hcase : ok = false ∨ (m : Int) < 2 := by
      cases ok
      · exact Or.inl rfl
      · right
        have : ¬ 2 ≤ m := fun h => hlast ⟨rfl, h⟩
        omega
    clear hok hlast
    rcases hcase with rfl | hm2
    · go_wp2_with fail
      refine (iMatrixValid_any none 0 0 [] _ rfl (by omega) (fun i hi => absurd hi (Nat.not_lt_zero i)) (RowsAt.empty _ _)).mono ?_; rintro e w5 ⟨rfl, hb5⟩
      rw [HNIL.out]
      have b5 := below_seq b3 hb5
      go_wp2_with fail
      refine (alive_any _).mono ?_; rintro e w6 ⟨rfl, hb6⟩
      go_wp2
      go_ret
      exact ⟨rfl, below_seq b5 hb6⟩
    · cases ok
      all_goals
        go_wp2_with fail
        refine (iMatrixValid_any none 0 0 [] _ rfl (by omega) (fun i hi => absurd hi (Nat.not_lt_zero i)) (RowsAt.empty _ _)).mono ?_; rintro e w5 ⟨rfl, hb5⟩
        rw [HNIL.out]
        have b5 := below_seq b3 hb5
        go_wp2_with fail
        refine (alive_any _).mono ?_; rintro e w6 ⟨rfl, hb6⟩
        go_wp2
        go_ret
        exact ⟨rfl, below_seq b5 hb6⟩

end Go.Proofs.Ytngececngelohaa
