/- Contracts of impl.layDown, impl.liftUp on a list of the caller's own. -/
import Derived.Test.YtnpmnjmjbpfipaaLayM
namespace Go.Proofs.Ytnpmnjmjbpfipaa
open Go.RowKit
set_option linter.unusedVariables false
set_option maxRecDepth 100000
set_option linter.unusedSimpArgs false

set_option maxHeartbeats 2000000 in
theorem layDown_any (W T : Int) (a : Option Addr) (n cap : Nat) (xs : List Bool) (g lcap B : Nat) (L : List Int) (k way : Int) (w : World) (hn : n = xs.length) (hn' : n ≤ 1048576) (hm : n = L.length) (hW0 : 1 ≤ W) (hW1 : W ≤ 6) (hT0 : 1 ≤ T) (hT1 : T ≤ 6) (hWT : (n : Int) = W * T) (ha : BoolsAt w a xs) (ho : OwnsI w B (.slice (some ⟨g, 0, none⟩) n lcap) L) :
    Calls Try.prog 80 #[.agg #[.int .i64 W, .int .i64 T, .slice a n cap], .slice (some ⟨g, 0, none⟩) n lcap, .int .i64 k, .int .i64 way] w fun e w' => e = .returned (.bool (canLay W T xs L k way)) ∧ OwnsI w' B (.slice (some ⟨g, 0, none⟩) n lcap) (laidL W T xs L k way) ∧ w.grownBy w' (some g) := by
  obtain ⟨o, hco⟩ : ∃ o, cellB W T n k way = o := ⟨_, rfl⟩
  have bd := cellB_bd (n := n) (k := k) (way := way) hW0 hWT
  rw [hco] at bd
  have HN := Lib.hid hn; clear hn
  have HM := Lib.hid hm; clear hm
  have HA := Lib.hid ha; clear ha
  have HO := Lib.hid ho; clear ho
  have HWT := Lib.hid hWT; clear hWT
  have HCO := Lib.hid hco; clear hco
  by_cases h0 : o < 0
  · have HC : Hid (canLay W T xs L k way = false) := canLay_neg (by rw [← HN.out, HCO.out]; exact h0)
    have HL : Hid (laidL W T xs L k way = L) := by show _ = _; unfold laidL; rw [HC.out]; rfl
    clear bd
    go_enter Try.func80, Try.ntmps80
    go_wp2_with fail
    refine (cellBeside_is _ _ _ _ _ _ _ _ hW0 hW1 hT0 hT1 HWT.out HCO.out).mono ?_; rintro e w1 ⟨rfl, hb1⟩
    have b1 := below_seq (below1 w _) hb1
    go_wp2
    go_ret
    exact ⟨ret_bool HC.out.symm, by rw [HL.out]; exact HO.out.below b1, grown_of_below b1 _⟩
  · obtain ⟨k0, k1, o1, ok, hway⟩ := bd (by omega)
    clear bd
    obtain ⟨kn, rfl⟩ : ∃ kn : Nat, k = kn := ⟨k.toNat, by omega⟩
    obtain ⟨on, rfl⟩ : ∃ on : Nat, o = on := ⟨o.toNat, by omega⟩
    have hk : kn < n := by omega
    have hon : on < n := by omega
    have hne : ¬ kn = on := by omega
    have hw : 0 ≤ way ∧ way ≤ 1000 := by simp only [okOf, decide_eq_true_eq] at hway; omega
    obtain ⟨hw0, hw1⟩ := hw
    clear hway ok k0 k1 o1
    have hd0 : ((on : Int) < 0) = False := by simp
    clear hd0
    cases hf1 : freeB xs L kn
    · have HC : Hid (canLay W T xs L kn way = false) := canLay_f1 (by simpa using hf1)
      have HL : Hid (laidL W T xs L kn way = L) := by show _ = _; unfold laidL; rw [HC.out]; rfl
      have HF1 := Lib.hid hf1; clear hf1
      go_enter Try.func80, Try.ntmps80
      go_wp2_with fail
      refine (cellBeside_is _ _ _ _ _ _ _ _ hW0 hW1 hT0 hT1 HWT.out HCO.out).mono ?_; rintro e w1 ⟨rfl, hb1⟩
      have b1 := below_seq (below1 w _) hb1
      have p1 := heap_later (heap_new w _) hb1
      obtain ⟨c0, c1, c2⟩ := cells3 p1
      go_wp2_with fail
      refine (freeAt_is _ _ _ _ _ xs _ _ _ L kn _ HN.out HM.out hn' hn' hk hk (HA.out.below b1) (OwnsI.at (HO.out.below b1)) HF1.out).mono ?_; rintro e w2 ⟨rfl, hb2⟩
      have b2 := below_seq b1 hb2
      go_wp2
      go_ret
      exact ⟨ret_bool HC.out.symm, by rw [HL.out]; exact HO.out.below b2, grown_of_below b2 _⟩
    · have HF1 := Lib.hid hf1; clear hf1
      cases hf2 : freeB xs L on
      · have HC : Hid (canLay W T xs L kn way = false) := canLay_f2 (by rw [← HN.out, HCO.out]; simpa using hf2)
        have HL : Hid (laidL W T xs L kn way = L) := by show _ = _; unfold laidL; rw [HC.out]; rfl
        have HF2 := Lib.hid hf2; clear hf2
        go_enter Try.func80, Try.ntmps80
        go_wp2_with fail
        refine (cellBeside_is _ _ _ _ _ _ _ _ hW0 hW1 hT0 hT1 HWT.out HCO.out).mono ?_; rintro e w1 ⟨rfl, hb1⟩
        have b1 := below_seq (below1 w _) hb1
        have p1 := heap_later (heap_new w _) hb1
        obtain ⟨c0, c1, c2⟩ := cells3 p1
        go_wp2_with fail
        refine (freeAt_is _ _ _ _ _ xs _ _ _ L kn _ HN.out HM.out hn' hn' hk hk (HA.out.below b1) (OwnsI.at (HO.out.below b1)) HF1.out).mono ?_; rintro e w2 ⟨rfl, hb2⟩
        have b2 := below_seq b1 hb2
        have p2 := heap_later p1 hb2
        clear c0 c1 c2
        obtain ⟨c0, c1, c2⟩ := cells3 p2
        go_wp2_with fail
        refine (freeAt_is _ _ _ _ _ xs _ _ _ L on _ HN.out HM.out hn' hn' hon hon (HA.out.below b2) (OwnsI.at (HO.out.below b2)) HF2.out).mono ?_; rintro e w3 ⟨rfl, hb3⟩
        have b3 := below_seq b2 hb3
        go_wp2
        go_ret
        exact ⟨ret_bool HC.out.symm, by rw [HL.out]; exact HO.out.below b3, grown_of_below b3 _⟩
      · have HC : Hid (canLay W T xs L kn way = true) := canLay_yes (by rw [← HN.out, HCO.out]; omega) (by simpa using HF1.out) (by rw [← HN.out, HCO.out]; simpa using hf2)
        have HL : Hid (laidL W T xs L kn way = (L.set kn way).set on (backI way)) := by
          show _ = _; unfold laidL; rw [HC.out, ← HN.out, HCO.out]; simp
        have HF2 := Lib.hid hf2; clear hf2
        go_enter Try.func80, Try.ntmps80
        go_wp2_with fail
        refine (cellBeside_is _ _ _ _ _ _ _ _ hW0 hW1 hT0 hT1 HWT.out HCO.out).mono ?_; rintro e w1 ⟨rfl, hb1⟩
        have b1 := below_seq (below1 w _) hb1
        have p1 := heap_later (heap_new w _) hb1
        obtain ⟨c0, c1, c2⟩ := cells3 p1
        go_wp2_with fail
        refine (freeAt_is _ _ _ _ _ xs _ _ _ L kn _ HN.out HM.out hn' hn' hk hk (HA.out.below b1) (OwnsI.at (HO.out.below b1)) HF1.out).mono ?_; rintro e w2 ⟨rfl, hb2⟩
        have b2 := below_seq b1 hb2
        have p2 := heap_later p1 hb2
        clear c0 c1 c2
        obtain ⟨c0, c1, c2⟩ := cells3 p2
        go_wp2_with fail
        refine (freeAt_is _ _ _ _ _ xs _ _ _ L on _ HN.out HM.out hn' hn' hon hon (HA.out.below b2) (OwnsI.at (HO.out.below b2)) HF2.out).mono ?_; rintro e w3 ⟨rfl, hb3⟩
        have b3 := below_seq b2 hb3
        have O3 := HO.out.below b3
        have s1 := OwnsI.set O3 kn way
        have s2 := OwnsI.set s1.1 on (backI way)
        have hx1 := O3.cell (k := kn) (by rw [← HM.out]; exact hk)
        have hx2 := O3.cell (k := on) (by rw [← HM.out]; exact hon)
        have hz1 := O3.free kn
        have hz2 := O3.free on
        have HS := Lib.hid s2.1
        have HG := Lib.hid (grown_seq s1.2 s2.2)
        have HB := Lib.hid b3
        clear s1 s2 O3 b1 b2 b3 hb1 hb2 hb3
        have e1 : (kn : Int) < n := by omega
        have e2 : (on : Int) < n := by omega
        go_wp2_with fail
        refine (opposite_any _ _ hw0 hw1).mono ?_; rintro e w4 ⟨rfl, rfl⟩
        go_wp2
        go_ret
        exact ⟨ret_bool HC.out.symm, by rw [HL.out]; exact HS.out, grown_seq (grown_of_below HB.out _) HG.out⟩

end Go.Proofs.Ytnpmnjmjbpfipaa
