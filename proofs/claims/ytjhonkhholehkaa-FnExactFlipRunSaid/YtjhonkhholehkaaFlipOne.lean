/- Contracts of both functions FlipOne. -/
import Derived.Test.YtjhonkhholehkaaFlipMO
namespace Go.Proofs.Ytjhonkhholehkaa
open Go.RowKit
set_option linter.unusedVariables false
set_option maxRecDepth 100000
set_option linter.unusedSimpArgs false

set_option maxHeartbeats 1000000 in
theorem iFlipOne_ret (W T : Int) (a : Option Addr) (n cap : Nat) (xs : List Bool) (la : Option Addr) (m lcap : Nat) (L : List Int) (c : Int) (w : World) (hn : n = xs.length) (hn' : n ≤ 1048576) (hm : m = L.length) (hm' : m ≤ 1048576) (hc : -9223372036854775808 ≤ c ∧ c ≤ 9223372036854775807) (ha : BoolsAt w a xs) (hl : IntsAt w la L) :
    Calls Try.prog 17 #[.agg #[.int .i64 W, .int .i64 T, .slice a n cap], .slice la m lcap, .int .i64 c] w (RetLT w (flipF W T xs L c).1.length (flipF W T xs L c).1 (flipF W T xs L c).2) := by
  obtain ⟨hc0, hc1⟩ := hc
  have HN := Lib.hid hn; clear hn
  have HM := Lib.hid hm; clear hm
  have HA := Lib.hid ha; clear ha
  have HL := Lib.hid hl; clear hl
  cases h : lok W T xs L
  · have e : flipF W T xs L c = ([], false) := by unfold flipF; rw [h]; rfl
    rw [e]
    have H := Lib.hid h; clear h e
    go_enter Try.func17, Try.ntmps17
    go_wp2_with fail
    refine (iLaidOk_any _ _ _ _ _ xs _ _ _ L _ HN.out hn' HM.out hm' (HA.out.one _) (HL.out.one _)).mono ?_; rintro e w1 ⟨rfl, hb1⟩
    rw [H.out]
    go_wp2
    go_ret2
    exact ⟨none, 0, rfl, OwnsI.nil _ _, below_seq (below1 _ _) hb1⟩
  · obtain ⟨h1, h2, h3⟩ := lok_rv h
    have hle : m = n := by rw [HM.out, HN.out]; exact h2
    subst hle
    obtain ⟨v1, v2, v3, v4, v5, _⟩ := rv_true h1
    have HV : Hid ((m : Int) = W * T) := by show (m : Int) = W * T; rw [HN.out]; exact v5
    have hpos := rv_pos v1 v3 HV.out
    have e : flipF W T xs L c = (flipL W T L c, mayB W T L c) := by unfold flipF; rw [h]; rfl
    rw [e]
    have HE : Hid ((flipL W T L c).length = m) := by show _ = m; rw [flipL_len, HM.out]
    clear h2 h3 h1 v5 e
    have H := Lib.hid h; clear h
    cases hmay : mayB W T L c
    · have HLL : Hid (flipL W T L c = L) := by show _ = _; unfold flipL; rw [hmay]; rfl
      have HC := Lib.hid hmay; clear hmay
      go_enter Try.func17, Try.ntmps17
      go_wp2_with fail
      refine (iLaidOk_any _ _ _ _ _ xs _ _ _ L _ HN.out hn' HM.out hm' (HA.out.one _) (HL.out.one _)).mono ?_; rintro e w1 ⟨rfl, hb1⟩
      have p1 := heap_later (heap_new w _) hb1
      have b1 := below_seq (below1 w _) hb1
      rw [H.out]
      go_wp2_with fail
      refine (clone_own _ _ _ L _ HM.out hpos hm' (HL.out.below b1)).mono ?_; rintro e w2 ⟨g, gc, rfl, ho2, hb2⟩
      have p2 := heap_later p1 hb2
      have b2 := below_seq b1 hb2
      have z2 := b1.size
      obtain ⟨c0, c1, c2⟩ := cells3 p2
      have O2 := Lib.hid (ho2.lower z2)
      clear ho2
      go_wp2_with fail
      refine (turnTwo_no _ _ _ _ _ xs _ _ L _ _ HN.out HM.out H.out hc0 hc1 (OwnsI.at O2.out) HC.out).mono ?_; rintro e w3 ⟨rfl, hb3⟩
      go_wp2
      go_ret2
      exact ⟨some ⟨g, 0, none⟩, gc, ret_slT HE.out.symm, by rw [HE.out, HLL.out]; exact O2.out.below hb3, below_seq b2 hb3⟩
    · have HC := Lib.hid hmay; clear hmay
      go_enter Try.func17, Try.ntmps17
      go_wp2_with fail
      refine (iLaidOk_any _ _ _ _ _ xs _ _ _ L _ HN.out hn' HM.out hm' (HA.out.one _) (HL.out.one _)).mono ?_; rintro e w1 ⟨rfl, hb1⟩
      have p1 := heap_later (heap_new w _) hb1
      have b1 := below_seq (below1 w _) hb1
      rw [H.out]
      go_wp2_with fail
      refine (clone_own _ _ _ L _ HM.out hpos hm' (HL.out.below b1)).mono ?_; rintro e w2 ⟨g, gc, rfl, ho2, hb2⟩
      have p2 := heap_later p1 hb2
      have b2 := below_seq b1 hb2
      have z2 := b1.size
      obtain ⟨c0, c1, c2⟩ := cells3 p2
      have O2 := Lib.hid (ho2.lower z2)
      clear ho2
      go_wp2_with fail
      refine (turnTwo_yes _ _ _ _ _ xs _ _ _ L _ _ HN.out hn' HM.out H.out hc0 hc1 (HA.out.below b2) w HA.out (Nat.le_refl _) O2.out HC.out).mono ?_; rintro e w3 ⟨rfl, ho3, hg3⟩
      have b3 := below_grown b2 hg3 (Nat.le_refl _) (fun k e => by cases e; exact O2.out.lt.1)
      go_wp2
      go_ret2
      exact ⟨some ⟨g, 0, none⟩, gc, ret_slT HE.out.symm, by rw [HE.out]; exact ho3, b3⟩

theorem flip_at {W T : Int} {xs : List Bool} {L : List Int} {c : Int} (h : lok W T xs L = true) (hm : mayB W T L c = true) :
    ∃ k wn : Nat, W = wn ∧ 2 ≤ wn ∧ sqI W T c = k ∧ k + wn + 1 < L.length ∧ sqB W T xs c = true ∧ (L.getD k 0 = 1 ∧ flipL W T L c = (((L.set k 2).set (k + 1) 2).set (k + wn) 4).set (k + wn + 1) 4 ∨ L.getD k 0 = 2 ∧ flipL W T L c = (((L.set k 1).set (k + wn) 1).set (k + 1) 3).set (k + wn + 1) 3) := by
  obtain ⟨k, wn, rfl, hw, hs, hb, hF, hx, hd, _⟩ := may_at h hm
  have hB : sqB (wn : Int) T xs c = true := by
    rw [sqB_idx hF rfl hs, hx k (by simp), hx (k + 1) (by simp), hx (k + wn) (by simp), hx (k + wn + 1) (by simp)]; rfl
  have e : flipL (wn : Int) T L c = flipA wn k L := by unfold flipL; rw [if_pos hm, hs, Int.toNat_natCast]
  refine ⟨k, wn, rfl, hw, hs, by rw [lok_len' h]; exact hb, hB, ?_⟩
  rw [e]
  unfold flipA
  rw [Int.toNat_natCast]
  rcases hd with ⟨d1, _⟩ | ⟨d1, _⟩
  · left; rw [if_pos d1]; exact ⟨d1, rfl⟩
  · right; rw [if_neg (by omega)]; exact ⟨d1, rfl⟩
theorem may_rng {W T : Int} {L : List Int} {c : Int} (hW : 1 ≤ W) (hW6 : W ≤ 6) (hT : 1 ≤ T) (hT6 : T ≤ 6) (h : mayB W T L c = true) : 0 ≤ c ∧ c ≤ 10000 := by
  unfold mayB at h
  simp only [Bool.and_eq_true] at h
  have := sq_rng hW h.1.1
  have := corn_bd hW hW6 hT hT6
  omega

set_option maxHeartbeats 4000000 in
theorem sFlipOne_ret (W T : Int) (a : Option Addr) (n cap : Nat) (xs : List Bool) (la : Option Addr) (m lcap : Nat) (L : List Int) (c : Int) (w : World) (hn : n = xs.length) (hn' : n ≤ 1048576) (hm : m = L.length) (hm' : m ≤ 1048576) (ha : BoolsAt w a xs) (hl : IntsAt w la L) :
    Calls Try.prog 16 #[.agg #[.int .i64 W, .int .i64 T, .slice a n cap], .slice la m lcap, .int .i64 c] w (RetLT w (flipF W T xs L c).1.length (flipF W T xs L c).1 (flipF W T xs L c).2) := by
  have HN := Lib.hid hn; clear hn
  have HM := Lib.hid hm; clear hm
  have HA := Lib.hid ha; clear ha
  have HL := Lib.hid hl; clear hl
  cases h : lok W T xs L
  · have e : flipF W T xs L c = ([], false) := by unfold flipF; rw [h]; rfl
    rw [e]
    have H := Lib.hid h; clear h e
    go_enter Try.func16, Try.ntmps16
    go_wp2_with fail
    refine (sLaidOk_any _ _ _ _ _ xs _ _ _ L _ HN.out hn' HM.out hm' (HA.out.one _) (HL.out.one _)).mono ?_; rintro e w1 ⟨rfl, hb1⟩
    have b1 := below_seq (below1 w _) hb1
    rw [H.out]
    go_wp2
    go_ret2
    exact ⟨some ⟨w1.heap.size, 0, none⟩, 0, rfl, World.ownsRow_made w1 #[] 0 b1.size (Nat.zero_le _) rfl, below_seq b1 (below1 _ _)⟩
  · obtain ⟨h1, h2, h3⟩ := lok_rv h
    have hle : m = n := by rw [HM.out, HN.out]; exact h2
    subst hle
    obtain ⟨v1, v2, v3, v4, v5, _⟩ := rv_true h1
    have HV : Hid ((m : Int) = W * T) := by show (m : Int) = W * T; rw [HN.out]; exact v5
    have hpos := rv_pos v1 v3 HV.out
    have e : flipF W T xs L c = (flipL W T L c, mayB W T L c) := by unfold flipF; rw [h]; rfl
    rw [e]
    have HE : Hid ((flipL W T L c).length = m) := by show _ = m; rw [flipL_len, HM.out]
    have HFM : Hid (fmayB W T xs L c = mayB W T L c) := by show _ = _; unfold fmayB; rw [h]; rfl
    clear h2 h3 v5 e
    have HR := Lib.hid h1; clear h1
    have H := Lib.hid h; clear h
    obtain ⟨i0, hi, hz0, hz1, hz2⟩ := info_parts infoInt
    obtain ⟨lb, lo, rfl, hlc⟩ := HL.out 0 (by rw [← HM.out]; exact hpos)
    have HLB : Hid (lb < w.heap.size) := World.block_lt_of_cell? w _ hlc
    clear hlc
    go_enter Try.func16, Try.ntmps16
    go_wp2_with fail
    refine (sLaidOk_any _ _ _ _ _ xs _ _ _ L _ HN.out hn' HM.out hm' (HA.out.one _) (HL.out.one _)).mono ?_; rintro e w1 ⟨rfl, hb1⟩
    have p1 := heap_later (heap_new w _) hb1
    have b1 := below_seq (below1 w _) hb1
    have z1 := b1.size
    rw [H.out]
    clear hb1
    have HL1 := Lib.hid ((HL.out.below b1).one (.cells #[] 3 (0, 0)))
    have p1' := heap_later p1 (below1 w1 (.cells #[] 3 (0, 0)))
    obtain ⟨c0, c1, c2⟩ := cells3 p1'
    go_wp2_with (at_builtin; refine wpList_append_own _ rfl _ _ 25 rfl w1.heap.size 3 i0 (.int .i64 0) 1 8 Try.underlying25 hi hz0 hz1 hz2 rfl (by decide) _ _ _ rfl (World.ownsRow_made w1 #[] 0 (Nat.le_refl _) (Nat.zero_le _) rfl) ⟨lb, lo, none⟩ m lcap (L.map (Value.int .i64)) rfl (by rw [List.length_map, ← HM.out]; omega) (ints_news HL1.out) (ints_one L) (by unfold maxLen; omega) (by omega) (by simp) ?_; intro v' w2 hown hgrow hnil; clear hnil; rw [Nat.zero_add, List.nil_append] at hown; obtain ⟨g, gc, rfl, ho2⟩ := own_of_row (L := L) hown rfl HM.out.symm hpos; clear hown; have hgw : w.heap.size < g := Nat.lt_of_lt_of_le (heap_lt p1) ho2.lt.1; have hg2 : (w1.alloc (.cells #[] 3 (0, 0))).grownBy w2 (some w1.heap.size) := hgrow; clear hgrow; have b2 := below_grown (below_seq b1 (below1 _ _)) hg2 (Nat.le_refl _) (fun k e => by cases e; exact z1); have p2 := heap_grown p1' hg2 (by simp; have := heap_lt p1; omega); clear c0 c1 c2; obtain ⟨c0, c1, c2⟩ := cells3 p2; have HB2 := Lib.hid b2; clear hg2)
    have O2 := Lib.hid (ho2.lower z1); clear ho2
    refine (sFlipMay_any _ _ _ _ _ xs _ _ _ L _ _ HN.out hn' HM.out hm' (HA.out.below HB2.out) (HL.out.below HB2.out)).mono ?_; rintro e w3 ⟨rfl, hb3⟩
    rw [HFM.out]
    have b3 := Lib.hid (below_seq HB2.out hb3)
    have O3 := Lib.hid (O2.out.below hb3)
    have p3 := heap_later p2 hb3
    clear c0 c1 c2
    obtain ⟨c0, c1, c2⟩ := cells3 p3
    clear O2 p1 p1' HL1 b2 b1 hb3 p2
    cases hmay : mayB W T L c
    · have HLL : Hid (flipL W T L c = L) := by show _ = _; unfold flipL; rw [hmay]; rfl
      have HC := Lib.hid hmay; clear hmay
      go_wp2
      go_ret2
      exact ⟨some ⟨g, 0, none⟩, gc, ret_slB HE.out.symm HC.out.symm, by rw [HE.out, HLL.out]; exact O3.out, b3.out⟩
    · obtain ⟨hc0, hc1⟩ := may_rng v1 v2 v3 v4 hmay
      obtain ⟨k, wn, hWn, hw2, hsq, hbd, hsb, hfl⟩ := flip_at H.out hmay
      rw [← HM.out] at hbd
      have HSQ := Lib.hid hsq; have HSB := Lib.hid hsb; have HC := Lib.hid hmay; clear hsq hsb hmay
      have k0 : (k : Int) < m := by omega
      have k1 : (k : Int) + 1 < m := by omega
      have k2 : (k : Int) + W < m := by omega
      have k3 : 0 ≤ (k : Int) + W := by omega
      have k4 : (k : Int) + W + 1 < m := by omega
      have k5 : 0 ≤ (k : Int) + W + 1 := by omega
      have t1 : ((k : Int) + 1).toNat = k + 1 := by omega
      have t2 : ((k : Int) + W).toNat = k + wn := by omega
      have t3 : ((k : Int) + W + 1).toNat = k + wn + 1 := by omega
      clear hWn
      go_wp2_with fail
      refine (l5Square_any _ _ _ _ _ xs _ _ HN.out v1 v2 v3 v4 HV.out hc0 hc1 (HA.out.below b3.out)).mono ?_; rintro e w4 ⟨rfl, hb4⟩
      rw [HSB.out, HSQ.out]
      simp only [sq5]
      have b4 := Lib.hid (below_seq b3.out hb4)
      have O4 := Lib.hid (O3.out.below hb4)
      have rk := (HL.out.below b4.out).cellAt (i := k) (by rw [← HM.out]; omega)
      have hlb := HLB.out
      have hgl := O4.out.lt
      have hw0 : ¬ wn = 0 := by omega
      have hw1 : ¬ wn = 1 := by omega
      have hw3 : ¬ 1 = wn := by omega
      have hw4 : ¬ 0 = wn := by omega
      rcases hfl with ⟨hx, hf⟩ | ⟨hx, hf⟩
      · rw [hx] at rk
        have HF := Lib.hid hf; clear hf hx
        have s1 := OwnsI.set O4.out k 2
        have s2 := OwnsI.set s1.1 (k + 1) 2
        have s3 := OwnsI.set s2.1 (k + wn) 4
        have s4 := OwnsI.set s3.1 (k + wn + 1) 4
        have y0 := O4.out.cell (k := k) (by rw [← HM.out]; omega)
        have y1 := O4.out.cell (k := k + 1) (by rw [← HM.out]; omega)
        have y2 := O4.out.cell (k := k + wn) (by rw [← HM.out]; omega)
        have y3 := O4.out.cell (k := k + wn + 1) (by rw [← HM.out]; omega)
        have f0 := O4.out.free k
        have f1 := O4.out.free (k + 1)
        have f2 := O4.out.free (k + wn)
        have f3 := O4.out.free (k + wn + 1)
        have HS := Lib.hid s4.1
        have HG := Lib.hid (grown_seq s1.2 (grown_seq s2.2 (grown_seq s3.2 s4.2)))
        clear s1 s2 s3 s4
        go_wp2
        go_ret2
        exact ⟨some ⟨g, 0, none⟩, gc, ret_slB HE.out.symm HC.out.symm, by rw [HE.out, HF.out]; exact HS.out, below_grown b4.out HG.out (Nat.le_refl _) (fun k e => by cases e; exact O4.out.lt.1)⟩
      · rw [hx] at rk
        have HF := Lib.hid hf; clear hf hx
        have u1 : ((2 : Int) == 1) = false := by decide
        have s1 := OwnsI.set O4.out k 1
        have s2 := OwnsI.set s1.1 (k + wn) 1
        have s3 := OwnsI.set s2.1 (k + 1) 3
        have s4 := OwnsI.set s3.1 (k + wn + 1) 3
        have y0 := O4.out.cell (k := k) (by rw [← HM.out]; omega)
        have y1 := O4.out.cell (k := k + 1) (by rw [← HM.out]; omega)
        have y2 := O4.out.cell (k := k + wn) (by rw [← HM.out]; omega)
        have y3 := O4.out.cell (k := k + wn + 1) (by rw [← HM.out]; omega)
        have f0 := O4.out.free k
        have f1 := O4.out.free (k + 1)
        have f2 := O4.out.free (k + wn)
        have f3 := O4.out.free (k + wn + 1)
        have HS := Lib.hid s4.1
        have HG := Lib.hid (grown_seq s1.2 (grown_seq s2.2 (grown_seq s3.2 s4.2)))
        clear s1 s2 s3 s4
        go_wp2
        go_ret2
        exact ⟨some ⟨g, 0, none⟩, gc, ret_slB HE.out.symm HC.out.symm, by rw [HE.out, HF.out]; exact HS.out, below_grown b4.out HG.out (Nat.le_refl _) (fun k e => by cases e; exact O4.out.lt.1)⟩
end Go.Proofs.Ytjhonkhholehkaa
