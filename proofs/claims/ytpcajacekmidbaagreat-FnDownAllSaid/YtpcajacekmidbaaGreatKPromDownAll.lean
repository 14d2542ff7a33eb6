/- The law FnDownAll: its walk. -/
import Derived.Test.YtpcajacekmidbaaGreatKLowI
import Derived.Test.YtpcajacekmidbaaGreatKBelow
import Derived.Test.YtpcajacekmidbaaGreatKDnAll
namespace Go.Proofs.YtpcajacekmidbaaGreat
open Go.RowKit
set_option linter.unusedVariables false
set_option maxRecDepth 100000
set_option linter.unusedSimpArgs false

theorem dn_end {W T : Int} {xs : List Bool} {L : List Int} (hs : simpleB W T xs = true) (ht : tok W T xs L = true) : ∀ (d n : Nat) (M : List Int), 1901 - n ≤ d → n ≤ 1900 → DnSt W T xs L n M → ∃ n' M', n' ≤ 1900 ∧ DnSt W T xs L n' M' ∧ downF (-4) W T xs M' = []
 | 0, n, M, hd, hn, h => by omega
 | d + 1, n, M, hd, hn, h => by
   cases hc : downF (-4) W T xs M with
   | nil => exact ⟨n, M, hn, h, hc⟩
   | cons c r =>
     obtain ⟨h1, _, h3⟩ := DnSt.next hs h hc
     exact dn_end hs ht d (n + 1) _ (by omega) (by omega) h1
theorem sumD_le : ∀ (A B : List Int), A.length = B.length → (∀ k, k < A.length → B.getD k 0 ≤ A.getD k 0) → ∀ k, k ≤ A.length → sumD A B k = (A.take k).sum - (B.take k).sum
 | A, B, hl, h, 0, _ => by simp [sumD]
 | A, B, hl, h, k + 1, hk => by
   have ih := sumD_le A B hl h k (by omega)
   have hb := h k (by omega)
   have e : ∀ (C : List Int), k < C.length → (C.take (k + 1)).sum = (C.take k).sum + C.getD k 0 := by
    intro C hC
    rw [List.take_succ_eq_append_getElem hC, List.sum_append]
    rw [List.getD_eq_getElem?_getD, List.getElem?_eq_getElem hC]
    simp
   rw [e A (by omega), e B (by omega)]
   show sumD A B k + _ = _
   rw [ih]
   split <;> omega
theorem dnAll_low {W T : Int} {xs : List Bool} {L X H0 A : List Int} (hE : EdgeR false W T xs X H0) (ht : tok W T xs L = true) (hA : HtsR W T xs L A) : dnAllF W T xs L = (X, apartI A H0) := by
 obtain ⟨hs, hX, hR, hall⟩ := id hE
 obtain ⟨n, M, hn, hst, hd⟩ := dn_end hs ht 1901 0 L (by omega) (by omega) (DnSt.start hs ht)
 have hfin := DnSt.ends hs ht hn hst hd
 obtain ⟨_, _, htM, _, N, H1, H2, hN, hH1, hH2, hsum⟩ := hst
 have hMX := (way_edge false hE htM).1 hd
 subst hMX
 have hA' := htsR_of hs hN ht hA
 have hX' := htsR_of hs hN hX hR
 obtain ⟨N', f, hN', _, hf⟩ := simple_corn hs
 obtain rfl : N' = N := by omega
 obtain rfl := hts_unique hs hN hf hA' hH1
 obtain rfl := hts_unique hs hN hf hX' hH2
 have hN0 : 0 < N' := by
  obtain ⟨v1, v2, v3, v4, v5, _⟩ := rv_true (simpleB_rv hs)
  have : 1 * 1 ≤ (W + 1) * (T + 1) := Int.mul_le_mul (by omega) (by omega) (by omega) (by omega)
  omega
 rw [hfin]
 have hle : ∀ k, k < A.length → H0.getD k 0 ≤ A.getD k 0 := by
  intro k hk
  have := hall L A ht hA k (by rw [hX'.len, ← hA'.len]; exact hk)
  simpa using this
 have hsd := sumD_le A H0 (by rw [hA'.len, hX'.len]) hle A.length (Nat.le_refl _)
 rw [List.take_length, List.take_of_length_le (by rw [hA'.len, hX'.len]; exact Nat.le_refl _)] at hsd
 unfold apartI
 rw [if_neg (by rw [hA'.len, hX'.len]; omega), hsd]
 congr 1
 omega

end Go.Proofs.YtpcajacekmidbaaGreat

namespace Go.Proofs.YtpcajacekmidbaaGreat
open Go.RowKit
set_option linter.unusedVariables false
set_option maxRecDepth 100000
set_option linter.unusedSimpArgs false

set_option maxHeartbeats 4000000 in
theorem promDownAll_walk (cb : Option Addr) (n cap : Nat) (zs : List Int) (w : World) (hn : n = zs.length) (hn' : n ≤ maxLen) (hcap : n ≤ cap) (hb : BytesAt w cb zs) :
 Calls Tryz.prog 5 #[.slice cb n cap] w fun e w' => e = .returned (.bool true) ∧ Below w.heap.size w w' := by
 have HN := Lib.hid hn; clear hn
 have HB := Lib.hid hb; clear hb
 by_cases hbig : 1048576 < n
 · unfold maxLen at hn'
   go_enter Tryz.func5, Tryz.ntmps5
   go_wp2
   go_ret
   exact ⟨rfl, Below.refl _ _⟩
 have hsm : n ≤ 1048576 := by omega
 clear hbig hn'
 go_enter Tryz.func5, Tryz.ntmps5
 go_wp2_with fail
 refine (drawDownAll_any _ _ _ zs _ HN.out hsm hcap HB.out).mono ?_; rintro e w1 ⟨W0, T0, a, m, c, xs, la, q, lcap, L, rfl, hm, h36, hs, ho, hq, hq36, hi, b1⟩
 have HM := Lib.hid hm; clear hm
 have HQ := Lib.hid hq; clear hq
 have A1 := Lib.hid (OwnsB.at ho); clear ho
 have I1 := Lib.hid (OwnsI.at hi); clear hi
 obtain ⟨s0, s1, s2, s3⟩ := hs
 obtain ⟨D, hD⟩ : ∃ D, dnAllF W0 T0 xs L = D := ⟨_, rfl⟩
 obtain ⟨X9, k9⟩ := D
 obtain ⟨x, hx⟩ : ∃ x, x = X9.length := ⟨_, rfl⟩
 have hxq : x ≤ q := by have := dnAllF_le W0 T0 xs L; rw [hD] at this; simp only at this; rw [← hx, ← HQ.out] at this; exact this
 have HD := Lib.hid hD
 have HX := Lib.hid hx; clear hx
 have hbb : (k9 != k9) = false := by simp
 have hbe : (k9 == k9) = true := by simp
 go_wp2_with fail
 refine (iDownAll_ret _ _ _ _ _ xs _ _ _ L _ HM.out (by omega) HQ.out (by omega) (A1.out.one _) (I1.out.one _)).mono ?_; rintro e w2 ⟨a2, cap2, rfl, ho2, hb2⟩
 rw [HD.out] at ho2 ⊢
 simp only at ho2 ⊢
 rw [← HX.out] at ho2 ⊢
 have b2 := below_seq (below_seq b1 (below1 _ _)) hb2
 have pr2 := heap_later (heap_new w1 (.cells #[.int .i64 W0, .int .i64 T0, .slice a m c] 25)) hb2
 have A2 := Lib.hid ((A1.out.one (.cells #[.int .i64 W0, .int .i64 T0, .slice a m c] 25)).below hb2)
 have I2 := Lib.hid ((I1.out.one (.cells #[.int .i64 W0, .int .i64 T0, .slice a m c] 25)).below hb2)
 have X2 := Lib.hid (OwnsI.at ho2)
 obtain ⟨cr20, cr21, cr22⟩ := cells3 pr2
 have lr2 := heap_lt pr2
 clear ho2
 go_wp2_with fail
 refine (sDownAll_ret _ _ _ _ _ xs _ _ _ L _ HM.out (by omega) HQ.out (by omega) A2.out I2.out).mono ?_; rintro e w3 ⟨a3, cap3, rfl, ho3, hb3⟩
 rw [HD.out] at ho3 ⊢
 simp only at ho3 ⊢
 rw [← HX.out] at ho3 ⊢
 have b3 := below_seq b2 hb3
 have pr3 := heap_later pr2 hb3
 have A3 := Lib.hid (A2.out.below hb3)
 have I3 := Lib.hid (I2.out.below hb3)
 have X3 := Lib.hid (X2.out.below hb3)
 have Y3 := Lib.hid (OwnsI.at ho3)
 clear cr20 cr21 cr22 lr2
 obtain ⟨cr30, cr31, cr32⟩ := cells3 pr3
 have lr3 := heap_lt pr3
 clear ho3
 go_wp2_with fail
 refine (sameInts_same _ _ _ _ _ X9 _ HX.out (by omega) X3.out Y3.out).mono ?_; rintro e w4 ⟨rfl, hb4⟩
 have b4 := below_seq b3 hb4
 have pr4 := heap_later pr3 hb4
 have A4 := Lib.hid (A3.out.below hb4)
 have I4 := Lib.hid (I3.out.below hb4)
 have X4 := Lib.hid (X3.out.below hb4)
 have Y4 := Lib.hid (Y3.out.below hb4)
 clear cr30 cr31 cr32 lr3
 obtain ⟨cr40, cr41, cr42⟩ := cells3 pr4
 have lr4 := heap_lt pr4
 cases hs : simpleB W0 T0 xs
 · have e9 := HD.out
   rw [dnAllF_no (by rw [hs, Bool.false_and])] at e9
   injection e9 with e91 e92
   subst e91; subst e92
   have hx0 : x = 0 := HX.out
   subst hx0
   have HS := Lib.hid hs; clear hs
   go_wp2_with fail
   refine (sSimple_any _ _ _ _ _ xs _ HM.out (by omega) A4.out).mono ?_; rintro e w5 ⟨rfl, hb5⟩
   rw [HS.out]
   have b5 := below_seq b4 hb5
   have pr5 := heap_later pr4 hb5
   have A5 := Lib.hid (A4.out.below hb5)
   have I5 := Lib.hid (I4.out.below hb5)
   have X5 := Lib.hid (X4.out.below hb5)
   clear cr40 cr41 cr42 lr4
   obtain ⟨cr50, cr51, cr52⟩ := cells3 pr5
   have lr5 := heap_lt pr5
   go_wp2_with fail
   refine (alive_any _).mono ?_; rintro e w6 ⟨rfl, hb6⟩
   go_wp2
   go_ret
   exact ⟨rfl, below_seq b5 hb6⟩
 cases ht : tok W0 T0 xs L
 · have e9 := HD.out
   rw [dnAllF_no (by rw [ht, Bool.and_false])] at e9
   injection e9 with e91 e92
   subst e91; subst e92
   have hx0 : x = 0 := HX.out
   subst hx0
   have HS := Lib.hid hs; clear hs
   have HT := Lib.hid ht; clear ht
   go_wp2_with fail
   refine (sSimple_any _ _ _ _ _ xs _ HM.out (by omega) A4.out).mono ?_; rintro e w5 ⟨rfl, hb5⟩
   rw [HS.out]
   have b5 := below_seq b4 hb5
   have pr5 := heap_later pr4 hb5
   have A5 := Lib.hid (A4.out.below hb5)
   have I5 := Lib.hid (I4.out.below hb5)
   have X5 := Lib.hid (X4.out.below hb5)
   clear cr40 cr41 cr42 lr4
   obtain ⟨cr50, cr51, cr52⟩ := cells3 pr5
   have lr5 := heap_lt pr5
   go_wp2_with fail
   refine (sTilingOk_any _ _ _ _ _ xs _ _ _ L _ HM.out (by omega) HQ.out (by omega) A5.out I5.out).mono ?_; rintro e w6 ⟨rfl, hb6⟩
   rw [HT.out]
   have b6 := below_seq b5 hb6
   have pr6 := heap_later pr5 hb6
   have A6 := Lib.hid (A5.out.below hb6)
   have I6 := Lib.hid (I5.out.below hb6)
   have X6 := Lib.hid (X5.out.below hb6)
   clear cr50 cr51 cr52 lr5
   obtain ⟨cr60, cr61, cr62⟩ := cells3 pr6
   have lr6 := heap_lt pr6
   go_wp2_with fail
   refine (alive_any _).mono ?_; rintro e w7 ⟨rfl, hb7⟩
   go_wp2
   go_ret
   exact ⟨rfl, below_seq b6 hb7⟩
 · obtain ⟨X, ok, hE⟩ := lowRes_exist false W0 T0 xs
   obtain ⟨rfl, H0, hE'⟩ : ok = true ∧ ∃ H0, EdgeR false W0 T0 xs X H0 := by
    rcases hE with ⟨e, h⟩ | ⟨_, _, h⟩
    · exact ⟨e, h⟩
    · exfalso
      rcases h with h | h
      · rw [hs] at h; cases h
      · have := h L; rw [ht] at this; cases this
   obtain ⟨x0, hx0⟩ : ∃ x0, x0 = X.length := ⟨_, rfl⟩
   have hx0q : x0 = q := by rw [hx0, HQ.out, (lok_rv (tok_lok1 hE'.2.1)).2.1, (lok_rv (tok_lok1 ht)).2.1]
   obtain rfl := hx0q
   obtain ⟨A, hA⟩ := htsR_exist W0 T0 xs L
   have hlow := dnAll_low hE' ht hA
   rw [hD] at hlow
   injection hlow with e1 e2
   subst e1
   have HAp : Hid (apartI A H0 = k9) := Lib.hid e2.symm
   have HS := Lib.hid hs
   have HT := Lib.hid ht
   have HE := Lib.hid hE
   have HHA := Lib.hid hA
   have HH0 := Lib.hid hE'.2.2.1
   have HX0 := Lib.hid hx0
   clear hs ht hE hA hE' hx0 e2 hD
   obtain rfl : x = x0 := by rw [HX.out, HX0.out]
   go_wp2_with fail
   refine (sSimple_any _ _ _ _ _ xs _ HM.out (by omega) A4.out).mono ?_; rintro e w5 ⟨rfl, hb5⟩
   rw [HS.out]
   have b5 := below_seq b4 hb5
   have pr5 := heap_later pr4 hb5
   have A5 := Lib.hid (A4.out.below hb5)
   have I5 := Lib.hid (I4.out.below hb5)
   have X5 := Lib.hid (X4.out.below hb5)
   clear cr40 cr41 cr42 lr4
   obtain ⟨cr50, cr51, cr52⟩ := cells3 pr5
   have lr5 := heap_lt pr5
   go_wp2_with fail
   refine (sTilingOk_any _ _ _ _ _ xs _ _ _ L _ HM.out (by omega) HQ.out (by omega) A5.out I5.out).mono ?_; rintro e w6 ⟨rfl, hb6⟩
   rw [HT.out]
   have b6 := below_seq b5 hb6
   have pr6 := heap_later pr5 hb6
   have A6 := Lib.hid (A5.out.below hb6)
   have I6 := Lib.hid (I5.out.below hb6)
   have X6 := Lib.hid (X5.out.below hb6)
   clear cr50 cr51 cr52 lr5
   obtain ⟨cr60, cr61, cr62⟩ := cells3 pr6
   have lr6 := heap_lt pr6
   go_wp2_with fail
   refine (iLowest_ret _ _ _ _ _ xs X9 true _ HM.out (by omega) HE.out A6.out).mono ?_; rintro e w7 ⟨a7, cap7, rfl, ho7, hb7⟩
   rw [← HX.out] at ho7 ⊢
   have b7 := below_seq b6 hb7
   have pr7 := heap_later pr6 hb7
   have A7 := Lib.hid (A6.out.below hb7)
   have I7 := Lib.hid (I6.out.below hb7)
   have X7 := Lib.hid (X6.out.below hb7)
   have Z7 := Lib.hid (OwnsI.at ho7)
   clear cr60 cr61 cr62 lr6
   obtain ⟨cr70, cr71, cr72⟩ := cells3 pr7
   have lr7 := heap_lt pr7
   clear ho7
   go_wp2_with fail
   refine (sameInts_same _ _ _ _ _ X9 _ HX.out (by omega) Z7.out X7.out).mono ?_; rintro e w8 ⟨rfl, hb8⟩
   have b8 := below_seq b7 hb8
   have pr8 := heap_later pr7 hb8
   have A8 := Lib.hid (A7.out.below hb8)
   have I8 := Lib.hid (I7.out.below hb8)
   have X8 := Lib.hid (X7.out.below hb8)
   have Z8 := Lib.hid (Z7.out.below hb8)
   clear cr70 cr71 cr72 lr7
   obtain ⟨cr80, cr81, cr82⟩ := cells3 pr8
   have lr8 := heap_lt pr8
   go_wp2_with fail
   refine (iApart_ret _ _ _ _ _ xs _ _ _ L _ _ _ X9 A H0 _ HM.out (by omega) HQ.out (by omega) HX.out (by omega) A8.out I8.out X8.out HHA.out HH0.out).mono ?_; rintro e w9 ⟨rfl, hb9⟩
   rw [HAp.out]
   have b9 := below_seq b8 hb9
   have pr9 := heap_later pr8 hb9
   have A9 := Lib.hid (A8.out.below hb9)
   have I9 := Lib.hid (I8.out.below hb9)
   have X9 := Lib.hid (X8.out.below hb9)
   have Z9 := Lib.hid (Z8.out.below hb9)
   clear cr80 cr81 cr82 lr8
   obtain ⟨cr90, cr91, cr92⟩ := cells3 pr9
   have lr9 := heap_lt pr9
   go_wp2
   go_ret
   exact ⟨ret_bool (by simp), b9⟩

end Go.Proofs.YtpcajacekmidbaaGreat
