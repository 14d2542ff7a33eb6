/- Contracts of the two functions LayOne and of impl.LiftOne. -/
import Derived.Test.YtbbinbgepbkihaaLay
import Derived.Test.YtbbinbgepbkihaaStepT
namespace Go.Proofs.Ytbbinbgepbkihaa
open Go.RowKit
set_option linter.unusedVariables false
set_option maxRecDepth 100000
set_option linter.unusedSimpArgs false

theorem clone_own (la : Option Addr) (m lcap : Nat) (L : List Int) (w : World) (hm : m = L.length) (h0 : 0 < m) (hm' : m ≤ 1048576) (hl : IntsAt w la L) :
    Calls Try.prog 61 #[.slice la m lcap] w fun e w' => ∃ g cap, e = .returned (.slice (some ⟨g, 0, none⟩) m cap) ∧ OwnsI w' w.heap.size (.slice (some ⟨g, 0, none⟩) m cap) L ∧ Below w.heap.size w w' := by
  refine (clone_pos la m lcap L w hm h0 hm' hl).mono fun e w' ⟨a, cap, h1, h2, h3⟩ => ?_
  rcases h2.forms with ⟨_, h5⟩ | ⟨g, cap', h4, _, _⟩
  · rw [h5] at hm; simp at hm; omega
  · simp only [Value.slice.injEq] at h4
    obtain ⟨rfl, _, rfl⟩ := h4
    exact ⟨g, cap, h1, h2, h3⟩

theorem ret_slT {a : Option Addr} {n n' cap : Nat} {v : Value} (h : n = n') : Ending.returned (.tuple #[.slice a n cap, v]) = .returned (.tuple #[.slice a n' cap, v]) := by rw [h]
theorem rv_pos {W T : Int} {n : Nat} (h1 : 1 ≤ W) (h2 : 1 ≤ T) (h : (n : Int) = W * T) : 0 < n := by
  have := Int.mul_pos (show 0 < W by omega) (show 0 < T by omega)
  omega

set_option maxHeartbeats 1000000 in
theorem iLayOne_ret (W T : Int) (a : Option Addr) (n cap : Nat) (xs : List Bool) (la : Option Addr) (m lcap : Nat) (L : List Int) (k way : Int) (w : World) (hn : n = xs.length) (hn' : n ≤ 1048576) (hm : m = L.length) (hm' : m ≤ 1048576) (ha : BoolsAt w a xs) (hl : IntsAt w la L) :
    Calls Try.prog 36 #[.agg #[.int .i64 W, .int .i64 T, .slice a n cap], .slice la m lcap, .int .i64 k, .int .i64 way] w (RetLT w (layF W T xs L k way).1.length (layF W T xs L k way).1 (layF W T xs L k way).2) := by
  have HN := Lib.hid hn; clear hn
  have HM := Lib.hid hm; clear hm
  have HA := Lib.hid ha; clear ha
  have HL := Lib.hid hl; clear hl
  cases h : lok W T xs L
  · have e : layF W T xs L k way = ([], false) := by unfold layF; rw [h]; rfl
    rw [e]
    have H := Lib.hid h; clear h e
    go_enter Try.func36, Try.ntmps36
    go_wp2_with fail
    refine (iLaidOk_any _ _ _ _ _ xs _ _ _ L _ HN.out hn' HM.out hm' (HA.out.one _) (HL.out.one _)).mono ?_; rintro e w1 ⟨rfl, hb1⟩
    rw [H.out]
    go_wp2
    go_ret2
    exact ⟨none, 0, rfl, OwnsI.nil _ _, below_seq (below1 _ _) hb1⟩
  · obtain ⟨h1, h2, h3⟩ := lok_rv h
    have hle : m = n := by rw [HM.out, HN.out]; exact h2
    subst hle
    obtain ⟨v1, v2, v3, v4, v5, _⟩ := rv_true h1
    have HV : Hid ((m : Int) = W * T) := by show (m : Int) = W * T; rw [HN.out]; exact v5
    have hpos := rv_pos v1 v3 HV.out
    have e : layF W T xs L k way = (laidL W T xs L k way, canLay W T xs L k way) := by unfold layF; rw [h]; rfl
    rw [e]
    have HE : Hid ((laidL W T xs L k way).length = m) := by show _ = m; rw [laidL_len, HM.out]
    clear h2 h3 h1 v5 e
    have H := Lib.hid h; clear h
    go_enter Try.func36, Try.ntmps36
    go_wp2_with fail
    refine (iLaidOk_any _ _ _ _ _ xs _ _ _ L _ HN.out hn' HM.out hm' (HA.out.one _) (HL.out.one _)).mono ?_; rintro e w1 ⟨rfl, hb1⟩
    have p1 := heap_later (heap_new w _) hb1
    have b1 := below_seq (below1 w _) hb1
    rw [H.out]
    go_wp2_with fail
    refine (clone_own _ _ _ L _ HM.out hpos hm' (HL.out.below b1)).mono ?_; rintro e w2 ⟨g, gc, rfl, ho2, hb2⟩
    have p2 := heap_later p1 hb2
    have b2 := below_seq b1 hb2
    have z2 := b1.size
    obtain ⟨c0, c1, c2⟩ := cells3 p2
    have O2 := Lib.hid (ho2.lower z2)
    clear ho2
    go_wp2_with fail
    refine (layDown_any _ _ _ _ _ xs _ _ _ L _ _ _ HN.out hn' HM.out v1 v2 v3 v4 HV.out (HA.out.below b2) O2.out).mono ?_; rintro e w3 ⟨rfl, ho3, hg3⟩
    have b3 := below_grown b2 hg3 (Nat.le_refl _) (fun k e => by cases e; exact O2.out.lt.1)
    go_wp2
    go_ret2
    exact ⟨some ⟨g, 0, none⟩, gc, ret_slT HE.out.symm, by rw [HE.out]; exact ho3, b3⟩

theorem lift_on {W T : Int} {xs : List Bool} {L : List Int} {n kn : Nat} (h : lok W T xs L = true) (hW : 1 ≤ W) (hn : n = xs.length) (hWT : (n : Int) = W * T) (hk : kn < n) (hz : L.getD kn 0 ≠ 0) :
    ∃ on : Nat, on < n ∧ on ≠ kn ∧ stepI W T kn (L.getD kn 0) = on ∧ cellB W T n kn (L.getD kn 0) = on := by
  have hb := lok_both h (k := kn) (by rw [lok_len' h, ← hn]; exact hk) hz
  simp only [bothB, Bool.and_eq_true, decide_eq_true_eq] at hb
  have h0 := hb.1.1.1
  have hs := step_bd (W := W) (T := T) (k := kn) (way := L.getD kn 0) hW (by omega) (by rw [← hWT]; omega)
  have hne := step_ne hW h0 (by omega : (0 : Int) ≤ kn)
  refine ⟨(stepI W T kn (L.getD kn 0)).toNat, by omega, by omega, by omega, ?_⟩
  unfold cellB
  rw [if_pos ⟨by omega, by omega⟩]
  omega

set_option maxHeartbeats 1000000 in
theorem iLiftOne_ret (W T : Int) (a : Option Addr) (n cap : Nat) (xs : List Bool) (la : Option Addr) (m lcap : Nat) (L : List Int) (k : Int) (w : World) (hn : n = xs.length) (hn' : n ≤ 1048576) (hm : m = L.length) (hm' : m ≤ 1048576) (ha : BoolsAt w a xs) (hl : IntsAt w la L) :
    Calls Try.prog 38 #[.agg #[.int .i64 W, .int .i64 T, .slice a n cap], .slice la m lcap, .int .i64 k] w (RetLT w (liftF W T xs L k).1.length (liftF W T xs L k).1 (liftF W T xs L k).2) := by
  have HN := Lib.hid hn; clear hn
  have HM := Lib.hid hm; clear hm
  have HA := Lib.hid ha; clear ha
  have HL := Lib.hid hl; clear hl
  cases h : lok W T xs L
  · have e : liftF W T xs L k = ([], false) := by unfold liftF; rw [h]; rfl
    rw [e]
    have H := Lib.hid h; clear h e
    go_enter Try.func38, Try.ntmps38
    go_wp2_with fail
    refine (iLaidOk_any _ _ _ _ _ xs _ _ _ L _ HN.out hn' HM.out hm' (HA.out.one _) (HL.out.one _)).mono ?_; rintro e w1 ⟨rfl, hb1⟩
    rw [H.out]
    go_wp2
    go_ret2
    exact ⟨none, 0, rfl, OwnsI.nil _ _, below_seq (below1 _ _) hb1⟩
  · obtain ⟨h1, h2, h3⟩ := lok_rv h
    have hle : m = n := by rw [HM.out, HN.out]; exact h2
    subst hle
    obtain ⟨v1, v2, v3, v4, v5, _⟩ := rv_true h1
    have HV : Hid ((m : Int) = W * T) := by show (m : Int) = W * T; rw [HN.out]; exact v5
    have hpos := rv_pos v1 v3 HV.out
    have e : liftF W T xs L k = (liftL W T L k, canLift L k) := by unfold liftF; rw [h]; rfl
    rw [e]
    have HE : Hid ((liftL W T L k).length = m) := by show _ = m; rw [liftL_len, HM.out]
    clear h2 h3 h1 v5 e
    have H := Lib.hid h; clear h
    cases hc : canLift L k
    · have HLL : Hid (liftL W T L k = L) := by show _ = _; unfold liftL; rw [hc]; rfl
      have HC := Lib.hid hc; clear hc
      go_enter Try.func38, Try.ntmps38
      go_wp2_with fail
      refine (iLaidOk_any _ _ _ _ _ xs _ _ _ L _ HN.out hn' HM.out hm' (HA.out.one _) (HL.out.one _)).mono ?_; rintro e w1 ⟨rfl, hb1⟩
      have p1 := heap_later (heap_new w _) hb1
      have b1 := below_seq (below1 w _) hb1
      rw [H.out]
      go_wp2_with fail
      refine (clone_own _ _ _ L _ HM.out hpos hm' (HL.out.below b1)).mono ?_; rintro e w2 ⟨g, gc, rfl, ho2, hb2⟩
      have p2 := heap_later p1 hb2
      have b2 := below_seq b1 hb2
      have z2 := b1.size
      obtain ⟨c0, c1, c2⟩ := cells3 p2
      have O2 := Lib.hid (ho2.lower z2)
      clear ho2
      go_wp2_with fail
      refine (liftUp_no _ _ _ _ _ _ L _ _ hn' HM.out (OwnsI.at O2.out) HC.out).mono ?_; rintro e w3 ⟨rfl, hb3⟩
      go_wp2
      go_ret2
      exact ⟨some ⟨g, 0, none⟩, gc, ret_slT HE.out.symm, by rw [HE.out, HLL.out]; exact O2.out.below hb3, below_seq b2 hb3⟩
    · have hk : 0 ≤ k ∧ k < m := by
        simp only [canLift, Bool.and_eq_true, decide_eq_true_eq] at hc
        rw [HM.out]; exact hc.1
      obtain ⟨kn, rfl⟩ : ∃ kn : Nat, k = kn := ⟨k.toNat, by omega⟩
      have hkn : kn < m := by omega
      have hz : L.getD kn 0 ≠ 0 := by
        simp only [canLift, Bool.and_eq_true, bne_iff_ne] at hc
        simpa using hc.2
      obtain ⟨on, o1, o2, o3, o4⟩ := lift_on H.out v1 HN.out HV.out hkn hz
      have HLL : Hid (liftL W T L kn = (L.set on 0).set kn 0) := by show _ = _; unfold liftL; rw [hc, if_pos rfl, Int.toNat_natCast, o3, Int.toNat_natCast]
      have HO4 := Lib.hid o4; clear o4 o3
      have HC := Lib.hid hc; clear hc
      have HZ := Lib.hid hz; clear hz
      have HO2 := Lib.hid o2; clear o2
      go_enter Try.func38, Try.ntmps38
      go_wp2_with fail
      refine (iLaidOk_any _ _ _ _ _ xs _ _ _ L _ HN.out hn' HM.out hm' (HA.out.one _) (HL.out.one _)).mono ?_; rintro e w1 ⟨rfl, hb1⟩
      have p1 := heap_later (heap_new w _) hb1
      have b1 := below_seq (below1 w _) hb1
      rw [H.out]
      go_wp2_with fail
      refine (clone_own _ _ _ L _ HM.out hpos hm' (HL.out.below b1)).mono ?_; rintro e w2 ⟨g, gc, rfl, ho2, hb2⟩
      have p2 := heap_later p1 hb2
      have b2 := below_seq b1 hb2
      have z2 := b1.size
      obtain ⟨c0, c1, c2⟩ := cells3 p2
      have O2 := Lib.hid (ho2.lower z2)
      clear ho2
      go_wp2_with fail
      refine (liftUp_yes _ _ _ _ _ _ _ _ L kn on _ hn' HM.out v1 v2 v3 v4 HV.out hkn o1 HO2.out HZ.out HO4.out O2.out).mono ?_; rintro e w3 ⟨rfl, ho3, hg3⟩
      have b3 := below_grown b2 hg3 (Nat.le_refl _) (fun k e => by cases e; exact O2.out.lt.1)
      go_wp2
      go_ret2
      exact ⟨some ⟨g, 0, none⟩, gc, ret_slT HE.out.symm, by rw [HE.out, HLL.out]; exact ho3, b3⟩

end Go.Proofs.Ytbbinbgepbkihaa
