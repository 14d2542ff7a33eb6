/- Contracts of impl.layDown, impl.liftUp on a list of the caller's own. -/
import Derived.Test.YtbbinbgepbkihaaLayM
namespace Go.Proofs.Ytbbinbgepbkihaa
open Go.RowKit
set_option linter.unusedVariables false
set_option maxRecDepth 100000
set_option linter.unusedSimpArgs false

set_option maxHeartbeats 2000000 in
theorem layDown_any (W T : Int) (a : Option Addr) (n cap : Nat) (xs : List Bool) (g lcap B : Nat) (L : List Int) (k way : Int) (w : World) (hn : n = xs.length) (hn' : n ≤ 1048576) (hm : n = L.length) (hW0 : 1 ≤ W) (hW1 : W ≤ 6) (hT0 : 1 ≤ T) (hT1 : T ≤ 6) (hWT : (n : Int) = W * T) (ha : BoolsAt w a xs) (ho : OwnsI w B (.slice (some ⟨g, 0, none⟩) n lcap) L) :
    Calls Try.prog 62 #[.agg #[.int .i64 W, .int .i64 T, .slice a n cap], .slice (some ⟨g, 0, none⟩) n lcap, .int .i64 k, .int .i64 way] w fun e w' => e = .returned (.bool (canLay W T xs L k way)) ∧ OwnsI w' B (.slice (some ⟨g, 0, none⟩) n lcap) (laidL W T xs L k way) ∧ w.grownBy w' (some g) := by
  obtain ⟨o, hco⟩ : ∃ o, cellB W T n k way = o := ⟨_, rfl⟩
  have bd := cellB_bd (n := n) (k := k) (way := way) hW0 hWT
  rw [hco] at bd
  have HN := Lib.hid hn; clear hn
  have HM := Lib.hid hm; clear hm
  have HA := Lib.hid ha; clear ha
  have HO := Lib.hid ho; clear ho
  have HWT := Lib.hid hWT; clear hWT
  have HCO := Lib.hid hco; clear hco
  by_cases h0 : o < 0
  · have HC : Hid (canLay W T xs L k way = false) := canLay_neg (by rw [← HN.out, HCO.out]; exact h0)
    have HL : Hid (laidL W T xs L k way = L) := by show _ = _; unfold laidL; rw [HC.out]; rfl
    clear bd
    go_enter Try.func62, Try.ntmps62
    go_wp2_with fail
    refine (cellBeside_is _ _ _ _ _ _ _ _ hW0 hW1 hT0 hT1 HWT.out HCO.out).mono ?_; rintro e w1 ⟨rfl, hb1⟩
    have b1 := below_seq (below1 w _) hb1
    go_wp2
    go_ret
    exact ⟨ret_bool HC.out.symm, by rw [HL.out]; exact HO.out.below b1, grown_of_below b1 _⟩
  · obtain ⟨k0, k1, o1, ok, hway⟩ := bd (by omega)
    clear bd
    obtain ⟨kn, rfl⟩ : ∃ kn : Nat, k = kn := ⟨k.toNat, by omega⟩
    obtain ⟨on, rfl⟩ : ∃ on : Nat, o = on := ⟨o.toNat, by omega⟩
    have hk : kn < n := by omega
    have hon : on < n := by omega
    have hne : ¬ kn = on := by omega
    have hw : 0 ≤ way ∧ way ≤ 1000 := by simp only [okOf, decide_eq_true_eq] at hway; omega
    obtain ⟨hw0, hw1⟩ := hw
    clear hway ok k0 k1 o1
    have hd0 : ((on : Int) < 0) = False := by simp
    clear hd0
    cases hf1 : freeB xs L kn
    · have HC : Hid (canLay W T xs L kn way = false) := canLay_f1 (by simpa using hf1)
      have HL : Hid (laidL W T xs L kn way = L) := by show _ = _; unfold laidL; rw [HC.out]; rfl
      have HF1 := Lib.hid hf1; clear hf1
      go_enter Try.func62, Try.ntmps62
      go_wp2_with fail
      refine (cellBeside_is _ _ _ _ _ _ _ _ hW0 hW1 hT0 hT1 HWT.out HCO.out).mono ?_; rintro e w1 ⟨rfl, hb1⟩
      have b1 := below_seq (below1 w _) hb1
      have p1 := heap_later (heap_new w _) hb1
      obtain ⟨c0, c1, c2⟩ := cells3 p1
      go_wp2_with fail
      refine (freeAt_is _ _ _ _ _ xs _ _ _ L kn _ HN.out HM.out hn' hn' hk hk (HA.out.below b1) (OwnsI.at (HO.out.below b1)) HF1.out).mono ?_; rintro e w2 ⟨rfl, hb2⟩
      have b2 := below_seq b1 hb2
      go_wp2
      go_ret
      exact ⟨ret_bool HC.out.symm, by rw [HL.out]; exact HO.out.below b2, grown_of_below b2 _⟩
    · have HF1 := Lib.hid hf1; clear hf1
      cases hf2 : freeB xs L on
      · have HC : Hid (canLay W T xs L kn way = false) := canLay_f2 (by rw [← HN.out, HCO.out]; simpa using hf2)
        have HL : Hid (laidL W T xs L kn way = L) := by show _ = _; unfold laidL; rw [HC.out]; rfl
        have HF2 := Lib.hid hf2; clear hf2
        go_enter Try.func62, Try.ntmps62
        go_wp2_with fail
        refine (cellBeside_is _ _ _ _ _ _ _ _ hW0 hW1 hT0 hT1 HWT.out HCO.out).mono ?_; rintro e w1 ⟨rfl, hb1⟩
        have b1 := below_seq (below1 w _) hb1
        have p1 := heap_later (heap_new w _) hb1
        obtain ⟨c0, c1, c2⟩ := cells3 p1
        go_wp2_with fail
        refine (freeAt_is _ _ _ _ _ xs _ _ _ L kn _ HN.out HM.out hn' hn' hk hk (HA.out.below b1) (OwnsI.at (HO.out.below b1)) HF1.out).mono ?_; rintro e w2 ⟨rfl, hb2⟩
        have b2 := below_seq b1 hb2
        have p2 := heap_later p1 hb2
        clear c0 c1 c2
        obtain ⟨c0, c1, c2⟩ := cells3 p2
        go_wp2_with fail
        refine (freeAt_is _ _ _ _ _ xs _ _ _ L on _ HN.out HM.out hn' hn' hon hon (HA.out.below b2) (OwnsI.at (HO.out.below b2)) HF2.out).mono ?_; rintro e w3 ⟨rfl, hb3⟩
        have b3 := below_seq b2 hb3
        go_wp2
        go_ret
        exact ⟨ret_bool HC.out.symm, by rw [HL.out]; exact HO.out.below b3, grown_of_below b3 _⟩
      · have HC : Hid (canLay W T xs L kn way = true) := canLay_yes (by rw [← HN.out, HCO.out]; omega) (by simpa using HF1.out) (by rw [← HN.out, HCO.out]; simpa using hf2)
        have HL : Hid (laidL W T xs L kn way = (L.set kn way).set on (backI way)) := by
          show _ = _; unfold laidL; rw [HC.out, ← HN.out, HCO.out]; simp
        have HF2 := Lib.hid hf2; clear hf2
        go_enter Try.func62, Try.ntmps62
        go_wp2_with fail
        refine (cellBeside_is _ _ _ _ _ _ _ _ hW0 hW1 hT0 hT1 HWT.out HCO.out).mono ?_; rintro e w1 ⟨rfl, hb1⟩
        have b1 := below_seq (below1 w _) hb1
        have p1 := heap_later (heap_new w _) hb1
        obtain ⟨c0, c1, c2⟩ := cells3 p1
        go_wp2_with fail
        refine (freeAt_is _ _ _ _ _ xs _ _ _ L kn _ HN.out HM.out hn' hn' hk hk (HA.out.below b1) (OwnsI.at (HO.out.below b1)) HF1.out).mono ?_; rintro e w2 ⟨rfl, hb2⟩
        have b2 := below_seq b1 hb2
        have p2 := heap_later p1 hb2
        clear c0 c1 c2
        obtain ⟨c0, c1, c2⟩ := cells3 p2
        go_wp2_with fail
        refine (freeAt_is _ _ _ _ _ xs _ _ _ L on _ HN.out HM.out hn' hn' hon hon (HA.out.below b2) (OwnsI.at (HO.out.below b2)) HF2.out).mono ?_; rintro e w3 ⟨rfl, hb3⟩
        have b3 := below_seq b2 hb3
        have O3 := HO.out.below b3
        have s1 := OwnsI.set O3 kn way
        have s2 := OwnsI.set s1.1 on (backI way)
        have hx1 := O3.cell (k := kn) (by rw [← HM.out]; exact hk)
        have hx2 := O3.cell (k := on) (by rw [← HM.out]; exact hon)
        have hz1 := O3.free kn
        have hz2 := O3.free on
        have HS := Lib.hid s2.1
        have HG := Lib.hid (grown_seq s1.2 s2.2)
        have HB := Lib.hid b3
        clear s1 s2 O3 b1 b2 b3 hb1 hb2 hb3
        have e1 : (kn : Int) < n := by omega
        have e2 : (on : Int) < n := by omega
        go_wp2_with fail
        refine (opposite_any _ _ hw0 hw1).mono ?_; rintro e w4 ⟨rfl, rfl⟩
        go_wp2
        go_ret
        exact ⟨ret_bool HC.out.symm, by rw [HL.out]; exact HS.out, grown_seq (grown_of_below HB.out _) HG.out⟩

set_option maxHeartbeats 2000000 in
theorem liftUp_no (W T : Int) (sl : Value) (la : Option Addr) (n lcap : Nat) (L : List Int) (k : Int) (w : World) (hn' : n ≤ 1048576) (hm : n = L.length) (hl : IntsAt w la L) (h : canLift L k = false) :
    Calls Try.prog 63 #[.agg #[.int .i64 W, .int .i64 T, sl], .slice la n lcap, .int .i64 k] w fun e w' => e = .returned (.bool false) ∧ Below w.heap.size w w' := by
  by_cases h0 : k < 0
  · clear h hm hl
    go_enter Try.func63, Try.ntmps63
    go_wp2
    go_ret
    exact ⟨rfl, below1 _ _⟩
  · by_cases h1 : (n : Int) ≤ k
    · clear h hm hl
      have h0' : 0 ≤ k := by omega
      go_enter Try.func63, Try.ntmps63
      go_wp2
      go_ret
      exact ⟨rfl, below1 _ _⟩
    · obtain ⟨kn, rfl⟩ : ∃ kn : Nat, k = kn := ⟨k.toNat, by omega⟩
      have hk : kn < n := by omega
      obtain ⟨b, off, rfl, hc⟩ := hl kn (by rw [← hm]; exact hk)
      have hz : L.getD kn 0 = 0 := by
        have hd : decide (0 ≤ (kn : Int) ∧ (kn : Int) < L.length) = true := by simp; omega
        unfold canLift at h
        rw [hd] at h
        simpa using h
      rw [hz] at hc
      have hb := World.block_lt_of_cell? w _ hc
      simp only at hb
      clear h hm hl hz h0 h1
      have e1 : (kn : Int) < n := by omega
      go_enter Try.func63, Try.ntmps63
      go_wp2
      go_ret
      exact ⟨rfl, below1 _ _⟩

set_option maxHeartbeats 2000000 in
theorem liftUp_yes (W T : Int) (a : Option Addr) (n cap : Nat) (g lcap B : Nat) (L : List Int) (kn on : Nat) (w : World) (hn' : n ≤ 1048576) (hm : n = L.length) (hW0 : 1 ≤ W) (hW1 : W ≤ 6) (hT0 : 1 ≤ T) (hT1 : T ≤ 6) (hWT : (n : Int) = W * T) (hk : kn < n) (hon : on < n) (hne : on ≠ kn) (hz : L.getD kn 0 ≠ 0) (hst : cellB W T n kn (L.getD kn 0) = on) (ho : OwnsI w B (.slice (some ⟨g, 0, none⟩) n lcap) L) :
    Calls Try.prog 63 #[.agg #[.int .i64 W, .int .i64 T, .slice a n cap], .slice (some ⟨g, 0, none⟩) n lcap, .int .i64 kn] w fun e w' => e = .returned (.bool true) ∧ OwnsI w' B (.slice (some ⟨g, 0, none⟩) n lcap) ((L.set on 0).set kn 0) ∧ w.grownBy w' (some g) := by
  have HM := Lib.hid hm; clear hm
  have HO := Lib.hid ho; clear ho
  have HWT := Lib.hid hWT; clear hWT
  obtain ⟨v, hv⟩ : ∃ v, v = L.getD kn 0 := ⟨_, rfl⟩
  rw [← hv] at hz hst
  have HST := Lib.hid hst; clear hst
  have z2 : (v == 0) = false := by simpa using hz
  obtain ⟨wA, hwA⟩ : ∃ wA, wA = w.alloc (.cells #[.int .i64 W, .int .i64 T, .slice a n cap] 27) := ⟨_, rfl⟩
  have pA : wA.heap[w.heap.size]? = some (.cells #[.int .i64 W, .int .i64 T, .slice a n cap] 27 (0, 0)) := by rw [hwA]; exact heap_new _ _
  have bA : Below w.heap.size w wA := by rw [hwA]; exact below1 _ _
  have OA := HO.out.below bA
  have cv := OA.cell (k := kn) (by rw [← HM.out]; exact hk)
  have cw := HO.out.cell (k := kn) (by rw [← HM.out]; exact hk)
  rw [← hv] at cv cw
  have HV := Lib.hid hv; clear hv
  have HOA := Lib.hid OA; clear OA
  obtain ⟨d0, d1, d2⟩ := cells3 pA
  have lA := heap_lt pA
  have e1 : (kn : Int) < n := by omega
  have e2 : (on : Int) < n := by omega
  have hgl := HO.out.lt.2
  go_enter Try.func63, Try.ntmps63
  go_wp2_with fail
  rw [← hwA]
  clear hwA cw
  have PA : wA.drew.heap[w.heap.size]? = some _ := pA
  go_region_held3 (fun w' => w'.cell? ⟨w.heap.size, 0, none⟩ = some (.int .i64 W) ∧ w'.cell? ⟨w.heap.size, 1, none⟩ = some (.int .i64 T) ∧ w'.cell? ⟨w.heap.size, 2, none⟩ = some (.slice a n cap) ∧ w'.cell? ⟨g, kn, none⟩ = some (.int .i64 v))
    (first | go_keep | exact keep_store (by omega) hne c60 c61 c62 k6)
    (first
      | (go_at_call 54; refine (cellBeside_is _ _ _ _ _ _ _ _ hW0 hW1 hT0 hT1 HWT.out HST.out).mono ?_; rintro e w6 ⟨rfl, hb6⟩; have p6 := heap_later PA hb6; obtain ⟨c60, c61, c62⟩ := cells3 p6; have k6 := cell_later hb6 (show (World.drew wA).cell? _ = some _ from cv); have O6 := (show OwnsI wA.drew _ _ _ from HOA.out).below hb6; have x6 := O6.cell (k := on) (by rw [← HM.out]; exact hon); have f6 := O6.free on; have f7 := O6.free kn))
  have s1 := OwnsI.set O6 on 0
  have s2 := OwnsI.set s1.1 kn 0
  have y1 := s1.1.cell (k := kn) (by rw [List.length_set, ← HM.out]; exact hk)
  have y2 := s1.1.free kn
  have HS := Lib.hid s2.1
  have HG := Lib.hid (grown_seq s1.2 s2.2)
  have HB := Lib.hid (below_seq bA (below_seq (drew_below _) hb6))
  clear s1 s2 O6
  go_wp2
  go_ret
  exact ⟨rfl, HS.out, grown_seq (grown_of_below HB.out _) HG.out⟩

end Go.Proofs.Ytbbinbgepbkihaa
