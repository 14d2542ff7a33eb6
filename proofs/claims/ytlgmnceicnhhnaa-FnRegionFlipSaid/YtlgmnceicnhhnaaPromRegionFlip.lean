/- The law FnRegionFlip: its walk. -/
import Derived.Test.YtlgmnceicnhhnaaProm
import Derived.Test.YtlgmnceicnhhnaaFlipM
namespace Go.Proofs.Ytlgmnceicnhhnaa
open Go.RowKit
set_option linter.unusedVariables false
set_option maxRecDepth 100000
set_option linter.unusedSimpArgs false

set_option maxHeartbeats 8000000 in
theorem promRegionFlip_walk (cb : Option Addr) (n cap : Nat) (zs : List Int) (w : World) (hn : n = zs.length) (hn' : n ≤ maxLen) (hcap : n ≤ cap) (hb : BytesAt w cb zs) :
    Calls Try.prog 8 #[.slice cb n cap] w fun e w' => e = .returned (.bool true) ∧ Below w.heap.size w w' := by
  have HN := Lib.hid hn; clear hn
  have HB := Lib.hid hb; clear hb
  by_cases hbig : 1048576 < n
  · unfold maxLen at hn'
    go_enter Try.func8, Try.ntmps8
    go_wp2
    go_ret
    exact ⟨rfl, Below.refl _ _⟩
  have hsm : n ≤ 1048576 := by omega
  clear hbig hn'
  go_enter Try.func8, Try.ntmps8
  go_wp2_with fail
  refine (drawRegionFlip_any _ _ _ zs _ HN.out hsm hcap HB.out).mono ?_; rintro e w1 ⟨W0, T0, a, m, c, xs, rfl, hm, h36, hs, ho, b1⟩
  have HM := Lib.hid hm; clear hm
  have AX := Lib.hid (OwnsB.at ho); clear ho
  obtain ⟨s0, s1, s2, s3⟩ := hs
  cases h : rv W0 T0 xs
  · go_wp2_with fail
    refine (iRegionFlip_no _ _ _ _ _ xs _ HM.out (by omega) (AX.out.one _) h).mono ?_; rintro e w2 ⟨rfl, hb2⟩
    have b2 := below_seq (below_seq b1 (below1 _ _)) hb2
    have p2 := heap_later (heap_new w1 _) hb2
    have A2 := Lib.hid ((AX.out.one (.cells #[.int .i64 W0, .int .i64 T0, .slice a m c] 25)).below hb2)
    have H := Lib.hid h; clear h
    obtain ⟨wA, hwA⟩ : ∃ wA, wA = w2.alloc (.cells #[.int .i64 0, .int .i64 0, .slice none 0 0] 25) := ⟨_, rfl⟩
    have pA : wA.heap[w1.heap.size]? = some (.cells #[.int .i64 W0, .int .i64 T0, .slice a m c] 25 (0, 0)) := by rw [hwA]; exact heap_later p2 (below1 _ _)
    have qA : wA.heap[w2.heap.size]? = some (.cells #[.int .i64 0, .int .i64 0, .slice none 0 0] 25 (0, 0)) := by rw [hwA]; exact heap_new _ _
    have bA : Below w.heap.size w wA := by rw [hwA]; exact below_seq b2 (below1 _ _)
    have AA : Hid (BoolsAt wA a xs) := by rw [hwA]; exact (A2.out.one _)
    obtain ⟨c0, c1, c2⟩ := cells3 pA
    obtain ⟨d0, d1, d2⟩ := cells3 qA
    have l1 := heap_lt pA
    have l2 := heap_lt qA
    go_wp2_with fail
    rw [← hwA]
    clear hwA p2
    have P3 : wA.drew.heap[w1.heap.size]? = some _ := pA
    have Q3 : wA.drew.heap[w2.heap.size]? = some _ := qA
    go_region_held3 (fun w' => w'.cell? ⟨w1.heap.size, 0, none⟩ = some (.int .i64 W0) ∧ w'.cell? ⟨w1.heap.size, 1, none⟩ = some (.int .i64 T0) ∧ w'.cell? ⟨w1.heap.size, 2, none⟩ = some (.slice a m c) ∧
        w'.cell? ⟨w2.heap.size, 0, none⟩ = some (.int .i64 0) ∧ w'.cell? ⟨w2.heap.size, 1, none⟩ = some (.int .i64 0) ∧ w'.cell? ⟨w2.heap.size, 2, none⟩ = some (.slice none 0 0))
      (go_keep)
      (first
        | (go_at_call 25; refine (sameRegion_same _ _ _ _ _ _ _ [] _ rfl (by simp) (BoolsAt.empty _ _) (BoolsAt.empty _ _)).mono ?_; rintro e w5 ⟨rfl, hb5⟩; have p5 := heap_later p4 hb5; have q5 := heap_later q4 hb5; obtain ⟨c50, c51, c52⟩ := cells3 p5; obtain ⟨d50, d51, d52⟩ := cells3 q5)
        | (go_at_call 36; refine (sRegionFlip_no _ _ _ _ _ xs _ HM.out (by omega) (show BoolsAt wA.drew _ _ from AA.out) H.out).mono ?_; rintro e w4 ⟨rfl, hb4⟩; have p4 := heap_later P3 hb4; have q4 := heap_later Q3 hb4; obtain ⟨c40, c41, c42⟩ := cells3 p4; obtain ⟨d40, d41, d42⟩ := cells3 q4))
    have b5 := below_seq bA (below_seq (below_seq (drew_below _) hb4) hb5)
    have A5 := Lib.hid (((show BoolsAt wA.drew _ _ from AA.out).below hb4).below hb5)
    clear c0 c1 c2 d0 d1 d2 c40 c41 c42 d40 d41 d42
    go_wp2_with fail
    refine (iRegionValid_any _ _ _ _ _ xs _ HM.out (by omega) A5.out).mono ?_; rintro e w6 ⟨rfl, hb6⟩
    have q6 := heap_later q5 hb6
    rw [H.out]
    clear c50 c51 c52 d50 d51 d52
    obtain ⟨d0, d1, d2⟩ := cells3 q6
    go_wp2_with fail
    refine (alive_any _).mono ?_; rintro e w7 ⟨rfl, hb7⟩
    go_wp2
    go_ret
    exact ⟨rfl, below_seq b5 (below_seq hb6 hb7)⟩
  · obtain ⟨Wn, Tn, rfl, rfl, hl⟩ := rv_nat h
    obtain ⟨v1, v2, v3, v4, v5, v6⟩ := rv_parts.1 h
    have hW : 0 < Wn := by omega
    have hT : 0 < Tn := by omega
    have hmW : m = Wn * Tn := by rw [HM.out]; exact hl
    have HMW := Lib.hid hmW; clear hmW
    have HMT : Hid (m = Tn * Wn) := by show m = _; rw [HMW.out, Nat.mul_comm]
    have H := Lib.hid h; clear h
    have HF : Hid (m = (flipped Wn Tn xs).length) := by show m = _; rw [flipped_len, HMW.out]
    have HT : Hid (m = (turned Wn Tn xs).length) := by show m = _; rw [turned_len, HMW.out]
    have HFT : Hid (m = (flipped Tn Wn (turned Wn Tn xs)).length) := by show m = _; rw [flipped_len, HMT.out]
    have HTFT : Hid (m = (turned Tn Wn (flipped Tn Wn (turned Wn Tn xs))).length) := by show m = _; rw [turned_len, HMT.out]
    have E1 := Lib.hid (flipped_flipped hW v5)
    have E2 := Lib.hid (ftft hW hT v5)
    have hm1 : m ≤ 1048576 := by omega
    clear hl v5
    go_wp2_with fail
    refine (iRegionFlip_yes Wn Tn _ _ _ xs _ HM.out hm1 (AX.out.one _) H.out HMW.out).mono ?_; rintro e w2 ⟨g2, rfl, ho2, hb2⟩
    have b2 := below_seq (below_seq b1 (below1 _ _)) hb2
    have p2 := heap_later (heap_new w1 _) hb2
    have A2 := Lib.hid ((AX.out.one (.cells #[.int .i64 Wn, .int .i64 Tn, .slice a m c] 25)).below hb2)
    have F2 := Lib.hid (OwnsB.at ho2); clear ho2
    obtain ⟨wA, hwA⟩ : ∃ wA, wA = w2.alloc (.cells #[.int .i64 Wn, .int .i64 Tn, .slice (some ⟨g2, 0, none⟩) m m] 25) := ⟨_, rfl⟩
    have pA : wA.heap[w1.heap.size]? = some (.cells #[.int .i64 Wn, .int .i64 Tn, .slice a m c] 25 (0, 0)) := by rw [hwA]; exact heap_later p2 (below1 _ _)
    have qA : wA.heap[w2.heap.size]? = some (.cells #[.int .i64 Wn, .int .i64 Tn, .slice (some ⟨g2, 0, none⟩) m m] 25 (0, 0)) := by rw [hwA]; exact heap_new _ _
    have bA : Below w.heap.size w wA := by rw [hwA]; exact below_seq b2 (below1 _ _)
    have AA : Hid (BoolsAt wA a xs) := by rw [hwA]; exact (A2.out.one _)
    have FA : Hid (BoolsAt wA (some ⟨g2, 0, none⟩) (flipped Wn Tn xs)) := by rw [hwA]; exact (F2.out.one _)
    obtain ⟨c0, c1, c2⟩ := cells3 pA
    obtain ⟨d0, d1, d2⟩ := cells3 qA
    have l1 := heap_lt pA
    have l2 := heap_lt qA
    go_wp2_with fail
    rw [← hwA]
    clear hwA p2
    have P3 : wA.drew.heap[w1.heap.size]? = some _ := pA
    have Q3 : wA.drew.heap[w2.heap.size]? = some _ := qA
    go_region_held3 (fun w' => w'.cell? ⟨w1.heap.size, 0, none⟩ = some (.int .i64 Wn) ∧ w'.cell? ⟨w1.heap.size, 1, none⟩ = some (.int .i64 Tn) ∧ w'.cell? ⟨w1.heap.size, 2, none⟩ = some (.slice a m c) ∧
        w'.cell? ⟨w2.heap.size, 0, none⟩ = some (.int .i64 Wn) ∧ w'.cell? ⟨w2.heap.size, 1, none⟩ = some (.int .i64 Tn) ∧ w'.cell? ⟨w2.heap.size, 2, none⟩ = some (.slice (some ⟨g2, 0, none⟩) m m))
      (go_keep)
      (first
        | (go_at_call 25; refine (sameRegion_same _ _ _ _ _ _ _ (flipped Wn Tn xs) _ HF.out hm1 ((show BoolsAt wA.drew _ _ from FA.out).below hb4) (OwnsB.at ho4)).mono ?_; rintro e w5 ⟨rfl, hb5⟩; have p5 := heap_later p4 hb5; have q5 := heap_later q4 hb5; obtain ⟨c50, c51, c52⟩ := cells3 p5; obtain ⟨d50, d51, d52⟩ := cells3 q5)
        | (go_at_call 36; refine (sRegionFlip_yes Wn Tn _ _ _ xs _ HM.out hm1 (show BoolsAt wA.drew _ _ from AA.out) H.out HMW.out).mono ?_; rintro e w4 ⟨g4, rfl, ho4, hb4⟩; have p4 := heap_later P3 hb4; have q4 := heap_later Q3 hb4; obtain ⟨c40, c41, c42⟩ := cells3 p4; obtain ⟨d40, d41, d42⟩ := cells3 q4))
    have b5 := below_seq bA (below_seq (below_seq (drew_below _) hb4) hb5)
    have A5 := Lib.hid (((show BoolsAt wA.drew _ _ from AA.out).below hb4).below hb5)
    have F5 := Lib.hid (((show BoolsAt wA.drew _ _ from FA.out).below hb4).below hb5)
    clear c0 c1 c2 d0 d1 d2 c40 c41 c42 d40 d41 d42
    go_wp2_with fail
    refine (iRegionValid_any _ _ _ _ _ xs _ HM.out hm1 A5.out).mono ?_; rintro e w6 ⟨rfl, hb6⟩
    have p6 := heap_later p5 hb6
    have q6 := heap_later q5 hb6
    have A6 := Lib.hid (A5.out.below hb6)
    have F6 := Lib.hid (F5.out.below hb6)
    have b6 := below_seq b5 hb6
    rw [H.out]
    clear c50 c51 c52 d50 d51 d52
    obtain ⟨c0, c1, c2⟩ := cells3 p6
    obtain ⟨d0, d1, d2⟩ := cells3 q6
    have l3 := heap_lt p6
    have l4 := heap_lt q6
    clear l1 l2 p4 q4 p5 q5 pA qA P3 Q3
    go_wp2_with fail
    have P6 : w6.drew.heap[w1.heap.size]? = some _ := p6
    have Q6 : w6.drew.heap[w2.heap.size]? = some _ := q6
    go_region_held3 (fun w' => w'.cell? ⟨w1.heap.size, 0, none⟩ = some (.int .i64 Wn) ∧ w'.cell? ⟨w1.heap.size, 1, none⟩ = some (.int .i64 Tn) ∧ w'.cell? ⟨w1.heap.size, 2, none⟩ = some (.slice a m c) ∧
        w'.cell? ⟨w2.heap.size, 0, none⟩ = some (.int .i64 Wn) ∧ w'.cell? ⟨w2.heap.size, 1, none⟩ = some (.int .i64 Tn) ∧ w'.cell? ⟨w2.heap.size, 2, none⟩ = some (.slice (some ⟨g2, 0, none⟩) m m))
      (go_keep)
      (first
        | (go_at_call 25; refine (sameRegion_same _ _ _ _ _ _ _ xs _ HM.out hm1 (by rw [← E2.out]; exact OwnsB.at ho12) A12.out).mono ?_; rintro e w13 ⟨rfl, hb13⟩; have p13 := heap_later p12 hb13; have q13 := heap_later q12 hb13; obtain ⟨c130, c131, c132⟩ := cells3 p13; obtain ⟨d130, d131, d132⟩ := cells3 q13)
        | (go_at_call 30; refine (iRegionFlip_yes Wn Tn _ _ _ (turned Tn Wn (flipped Tn Wn (turned Wn Tn xs))) _ HTFT.out hm1 (OwnsB.at ho11) (rv_turned (rv_flipped (rv_turned H.out))) HMW.out).mono ?_; rintro e w12 ⟨g12, rfl, ho12, hb12⟩; have A12 := Lib.hid (A11.out.below hb12); have p12 := heap_later p11 hb12; have q12 := heap_later q11 hb12; obtain ⟨c120, c121, c122⟩ := cells3 p12; obtain ⟨d120, d121, d122⟩ := cells3 q12)
        | (go_at_call 34; refine (iRegionTurn_yes Tn Wn _ _ _ (flipped Tn Wn (turned Wn Tn xs)) _ HFT.out hm1 (OwnsB.at ho10) (rv_flipped (rv_turned H.out)) HMT.out).mono ?_; rintro e w11 ⟨g11, rfl, ho11, hb11⟩; have A11 := Lib.hid (A10.out.below hb11); have p11 := heap_later p10 hb11; have q11 := heap_later q10 hb11; obtain ⟨c110, c111, c112⟩ := cells3 p11; obtain ⟨d110, d111, d112⟩ := cells3 q11)
        | (go_at_call 30; refine (iRegionFlip_yes Tn Wn _ _ _ (turned Wn Tn xs) _ HT.out hm1 (OwnsB.at ho9) (rv_turned H.out) HMT.out).mono ?_; rintro e w10 ⟨g10, rfl, ho10, hb10⟩; have A10 := Lib.hid (A9.out.below hb10); have p10 := heap_later p9 hb10; have q10 := heap_later q9 hb10; obtain ⟨c100, c101, c102⟩ := cells3 p10; obtain ⟨d100, d101, d102⟩ := cells3 q10)
        | (go_at_call 34; refine (iRegionTurn_yes Wn Tn _ _ _ xs _ HM.out hm1 A8.out H.out HMW.out).mono ?_; rintro e w9 ⟨g9, rfl, ho9, hb9⟩; have A9 := Lib.hid (A8.out.below hb9); have p9 := heap_later p8 hb9; have q9 := heap_later q8 hb9; obtain ⟨c90, c91, c92⟩ := cells3 p9; obtain ⟨d90, d91, d92⟩ := cells3 q9)
        | (go_at_call 25; refine (sameRegion_same _ _ _ _ _ _ _ xs _ HM.out hm1 (by rw [← E1.out]; exact OwnsB.at ho7) A7.out).mono ?_; rintro e w8 ⟨rfl, hb8⟩; have A8 := Lib.hid (A7.out.below hb8); have p8 := heap_later p7 hb8; have q8 := heap_later q7 hb8; obtain ⟨c80, c81, c82⟩ := cells3 p8; obtain ⟨d80, d81, d82⟩ := cells3 q8)
        | (go_at_call 30; refine (iRegionFlip_yes Wn Tn _ _ _ (flipped Wn Tn xs) _ HF.out hm1 (show BoolsAt w6.drew _ _ from F6.out) (rv_flipped H.out) HMW.out).mono ?_; rintro e w7 ⟨g7, rfl, ho7, hb7⟩; have A7 := Lib.hid ((show BoolsAt w6.drew _ _ from A6.out).below hb7); have p7 := heap_later P6 hb7; have q7 := heap_later Q6 hb7; obtain ⟨c70, c71, c72⟩ := cells3 p7; obtain ⟨d70, d71, d72⟩ := cells3 q7))
    go_wp2
    go_ret
    exact ⟨rfl, below_seq b6 (below_seq (drew_below _) (below_seq hb7 (below_seq hb8 (below_seq hb9 (below_seq hb10 (below_seq hb11 (below_seq hb12 hb13)))))))⟩

end Go.Proofs.Ytlgmnceicnhhnaa
