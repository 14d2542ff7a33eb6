/- The law FnTilingTurn: its walk. -/
import Derived.Test.YtlnnoeojgdeagaaDrawL
import Derived.Test.YtlnnoeojgdeagaaTurnP
import Derived.Test.YtlnnoeojgdeagaaTurnRet
import Derived.Test.YtlnnoeojgdeagaaLaidN
namespace Go.Proofs.Ytlnnoeojgdeagaa
open Go.RowKit
set_option linter.unusedVariables false
set_option maxRecDepth 100000
set_option linter.unusedSimpArgs false
theorem turnLF_yes {W T : Nat} {xs : List Bool} {L : List Int} (h : lok W T xs L = true) : turnLF W T xs L = turnedI W T L := by unfold turnLF; rw [if_pos h]; rfl
theorem flipLF_yes {W T : Nat} {xs : List Bool} {L : List Int} (h : lok W T xs L = true) : flipLF W T xs L = flippedI W T L := by unfold flipLF; rw [if_pos h]; rfl

set_option maxHeartbeats 8000000 in
theorem promTilingTurn_walk (cb : Option Addr) (n cap : Nat) (zs : List Int) (w : World) (hn : n = zs.length) (hn' : n ≤ maxLen) (hcap : n ≤ cap) (hb : BytesAt w cb zs) :
    Calls Try.prog 11 #[.slice cb n cap] w fun e w' => e = .returned (.bool true) ∧ Below w.heap.size w w' := by
  have HN := Lib.hid hn; clear hn
  have HB := Lib.hid hb; clear hb
  by_cases hbig : 1048576 < n
  · unfold maxLen at hn'
    go_enter Try.func11, Try.ntmps11
    go_wp2
    go_ret
    exact ⟨rfl, Below.refl _ _⟩
  have hsm : n ≤ 1048576 := by omega
  clear hbig hn'
  go_enter Try.func11, Try.ntmps11
  go_wp2_with fail
  refine (drawTilingTurn_any _ _ _ zs _ HN.out hsm hcap HB.out).mono ?_; rintro e w1 ⟨W0, T0, a, m, c, xs, la, q, lcap, L, rfl, hm, h36, hs, ho, hq, hq36, hi, b1⟩
  have HM := Lib.hid hm; clear hm
  have HQ := Lib.hid hq; clear hq
  have A1 := Lib.hid (OwnsB.at ho); clear ho
  have I1 := Lib.hid (OwnsI.at hi); clear hi
  obtain ⟨s0, s1, s2, s3⟩ := hs
  obtain ⟨X, hX⟩ : ∃ X, turnLF W0 T0 xs L = X := ⟨_, rfl⟩
  obtain ⟨x, hx⟩ : ∃ x, x = X.length := ⟨_, rfl⟩
  have hxq : x ≤ q := by have := turnLF_len W0 T0 xs L; rw [hX, ← hx, ← HQ.out] at this; exact this
  have HXX := Lib.hid hX; clear hX
  have HX := Lib.hid hx; clear hx
  go_wp2_with fail
  refine (iTilingTurn_ret _ _ _ _ _ xs _ _ _ L _ HM.out (by omega) HQ.out (by omega) (A1.out.one _) (I1.out.one _)).mono ?_; rintro e w2 ⟨a2, cap2, rfl, ho2, hb2⟩
  rw [HXX.out] at ho2 ⊢
  rw [← HX.out] at ho2 ⊢
  have b2 := below_seq (below_seq b1 (below1 _ _)) hb2
  have pr2 := heap_later (heap_new w1 (.cells #[.int .i64 W0, .int .i64 T0, .slice a m c] 28)) hb2
  have A2 := Lib.hid ((A1.out.one (.cells #[.int .i64 W0, .int .i64 T0, .slice a m c] 28)).below hb2)
  have I2 := Lib.hid ((I1.out.one (.cells #[.int .i64 W0, .int .i64 T0, .slice a m c] 28)).below hb2)
  have X2 := Lib.hid (OwnsI.at ho2)
  obtain ⟨cr20, cr21, cr22⟩ := cells3 pr2
  have lr2 := heap_lt pr2
  clear ho2
  go_wp2_with fail
  refine (sTilingTurn_ret _ _ _ _ _ xs _ _ _ L _ HM.out (by omega) HQ.out (by omega) A2.out I2.out).mono ?_; rintro e w3 ⟨a3, cap3, rfl, ho3, hb3⟩
  rw [HXX.out] at ho3 ⊢
  rw [← HX.out] at ho3 ⊢
  have b3 := below_seq b2 hb3
  have pr3 := heap_later pr2 hb3
  have A3 := Lib.hid (A2.out.below hb3)
  have I3 := Lib.hid (I2.out.below hb3)
  have X3 := Lib.hid (X2.out.below hb3)
  have Y3 := Lib.hid (OwnsI.at ho3)
  clear cr20 cr21 cr22 lr2
  obtain ⟨cr30, cr31, cr32⟩ := cells3 pr3
  have lr3 := heap_lt pr3
  clear ho3
  go_wp2_with fail
  refine (sameInts_same _ _ _ _ _ X _ HX.out (by omega) X3.out Y3.out).mono ?_; rintro e w4 ⟨rfl, hb4⟩
  have b4 := below_seq b3 hb4
  have pr4 := heap_later pr3 hb4
  have A4 := Lib.hid (A3.out.below hb4)
  have I4 := Lib.hid (I3.out.below hb4)
  have X4 := Lib.hid (X3.out.below hb4)
  have Y4 := Lib.hid (Y3.out.below hb4)
  clear cr30 cr31 cr32 lr3
  obtain ⟨cr40, cr41, cr42⟩ := cells3 pr4
  have lr4 := heap_lt pr4
  go_wp2_with fail
  refine (sLaidOk_any _ _ _ _ _ xs _ _ _ L _ HM.out (by omega) HQ.out (by omega) A4.out I4.out).mono ?_; rintro e w5 ⟨rfl, hb5⟩
  have b5 := below_seq b4 hb5
  have pr5 := heap_later pr4 hb5
  have A5 := Lib.hid (A4.out.below hb5)
  have I5 := Lib.hid (I4.out.below hb5)
  have X5 := Lib.hid (X4.out.below hb5)
  clear cr40 cr41 cr42 lr4
  obtain ⟨cr50, cr51, cr52⟩ := cells3 pr5
  have lr5 := heap_lt pr5
  cases h : lok W0 T0 xs L
  · have e : X = [] := by rw [← HXX.out]; unfold turnLF; rw [h]; rfl
    have hx0 : x = 0 := by rw [HX.out, e]; rfl
    subst hx0
    clear h e
    go_wp2_with fail
    refine (alive_any _).mono ?_; rintro e w6 ⟨rfl, hb6⟩
    go_wp2
    go_ret
    exact ⟨rfl, below_seq b5 hb6⟩
  · obtain ⟨Wn, Tn, rfl, rfl, hLl⟩ := lok_nat h
    obtain ⟨hr, v1, v2, v3, v4, v5, v6⟩ := lok_parts h
    have hW : 0 < Wn := by omega
    have hT : 0 < Tn := by omega
    have hmW : m = Wn * Tn := by rw [HM.out]; exact v5
    have hqm : q = m := by rw [HQ.out, v6, hmW]
    subst hqm
    have HMW := Lib.hid hmW; clear hmW
    have HMT : Hid (q = Tn * Wn) := by show q = _; rw [HMW.out, Nat.mul_comm]
    have k1 := lok_turned h
    have k2 := lok_turned k1
    have k3 := lok_turned k2
    obtain ⟨Y2, hY2⟩ : ∃ Y2, Y2 = turnedI Tn Wn (turnedI Wn Tn L) := ⟨_, rfl⟩
    obtain ⟨Y3, hY3⟩ : ∃ Y3, Y3 = turnedI Wn Tn (turnedI Tn Wn (turnedI Wn Tn L)) := ⟨_, rfl⟩
    have hX1 : X = turnedI Wn Tn L := by rw [← HXX.out]; exact turnLF_yes h
    have hxm : x = q := by rw [HX.out, hX1, turnedI_len, HMW.out]
    subst hxm
    rw [← hY2] at k2
    rw [← hY2] at hY3
    rw [← hY2, ← hY3] at k3
    rw [← hX1] at k1 hY2
    have E2 : Hid (turnLF Tn Wn (turned Wn Tn xs) X = Y2) := by show _ = _; rw [turnLF_yes k1, hY2]
    have E3 : Hid (turnLF Wn Tn (turned Tn Wn (turned Wn Tn xs)) Y2 = Y3) := by show _ = _; rw [turnLF_yes k2, hY3]
    have E4 : Hid (turnLF Tn Wn (turned Wn Tn (turned Tn Wn (turned Wn Tn xs))) Y3 = L) := by show _ = _; rw [turnLF_yes k3, hY3, hY2, hX1]; exact turned_four h
    have HY2 : Hid (x = Y2.length) := by show x = _; rw [hY2, turnedI_len]; exact HMT.out
    have HY3 : Hid (x = Y3.length) := by show x = _; rw [hY3, turnedI_len]; exact HMW.out
    have HT1 : Hid (x = (turned Wn Tn xs).length) := by show x = _; rw [turned_len]; exact HMW.out
    have HT2 : Hid (x = (turned Tn Wn (turned Wn Tn xs)).length) := by show x = _; rw [turned_len]; exact HMT.out
    have HT3 : Hid (x = (turned Wn Tn (turned Tn Wn (turned Wn Tn xs))).length) := by show x = _; rw [turned_len]; exact HMW.out
    have K1 := Lib.hid k1; clear k1
    clear k2 k3 hY2 hY3 hX1 h hLl v5 v6
    have HRV := Lib.hid hr; clear hr
    obtain ⟨Z1, hZ1⟩ : ∃ Z1, Z1 = turned Wn Tn xs := ⟨_, rfl⟩
    obtain ⟨Z2, hZ2⟩ : ∃ Z2, Z2 = turned Tn Wn Z1 := ⟨_, rfl⟩
    obtain ⟨Z3, hZ3⟩ : ∃ Z3, Z3 = turned Wn Tn Z2 := ⟨_, rfl⟩
    rw [← hZ1] at E2 E3 E4 HT1 HT2 HT3 K1
    rw [← hZ2] at E3 E4 HT2 HT3
    rw [← hZ3] at E4 HT3
    have R1 : Hid (rv (Tn : Int) Wn Z1 = true) := by show _ = _; rw [hZ1]; exact rv_turned HRV.out
    have R2 : Hid (rv (Wn : Int) Tn Z2 = true) := by show _ = _; rw [hZ2]; exact rv_turned R1.out
    have HZ1 := Lib.hid hZ1; clear hZ1
    have HZ2 := Lib.hid hZ2; clear hZ2
    have HZ3 := Lib.hid hZ3; clear hZ3
    have hm1 : x ≤ 1048576 := by omega
    go_wp2_with fail
    refine (iRegionTurn_yes Wn Tn _ _ _ xs _ HM.out hm1 A5.out HRV.out HMW.out).mono ?_; rintro e w6 ⟨g6, rfl, ho6, hb6⟩
    rw [← HZ1.out] at ho6
    have b6 := below_seq b5 hb6
    have pr6 := heap_later pr5 hb6
    have A6 := Lib.hid (A5.out.below hb6)
    have I6 := Lib.hid (I5.out.below hb6)
    have X6 := Lib.hid (X5.out.below hb6)
    have B6 := Lib.hid (OwnsB.at ho6)
    clear cr50 cr51 cr52 lr5
    obtain ⟨cr60, cr61, cr62⟩ := cells3 pr6
    have lr6 := heap_lt pr6
    clear ho6
    go_wp2_with fail
    refine (iRegionTurn_yes Tn Wn _ _ _ Z1 _ HT1.out hm1 (B6.out.one _) R1.out HMT.out).mono ?_; rintro e w7 ⟨g7, rfl, ho7, hb7⟩
    rw [← HZ2.out] at ho7
    have b7 := below_seq (below_seq b6 (below1 _ _)) hb7
    have pr7 := heap_later (heap_later pr6 (below1 _ _)) hb7
    have px7 := heap_later (heap_new w6 (.cells #[.int .i64 Tn, .int .i64 Wn, .slice (some ⟨g6, 0, none⟩) x x] 28)) hb7
    have A7 := Lib.hid ((A6.out.one (.cells #[.int .i64 Tn, .int .i64 Wn, .slice (some ⟨g6, 0, none⟩) x x] 28)).below hb7)
    have I7 := Lib.hid ((I6.out.one (.cells #[.int .i64 Tn, .int .i64 Wn, .slice (some ⟨g6, 0, none⟩) x x] 28)).below hb7)
    have X7 := Lib.hid ((X6.out.one (.cells #[.int .i64 Tn, .int .i64 Wn, .slice (some ⟨g6, 0, none⟩) x x] 28)).below hb7)
    have B7 := Lib.hid ((B6.out.one (.cells #[.int .i64 Tn, .int .i64 Wn, .slice (some ⟨g6, 0, none⟩) x x] 28)).below hb7)
    have C7 := Lib.hid (OwnsB.at ho7)
    clear cr60 cr61 cr62 lr6
    obtain ⟨cr70, cr71, cr72⟩ := cells3 pr7
    have lr7 := heap_lt pr7
    obtain ⟨cx70, cx71, cx72⟩ := cells3 px7
    have lx7 := heap_lt px7
    clear ho7
    go_wp2_with fail
    refine (iRegionTurn_yes Wn Tn _ _ _ Z2 _ HT2.out hm1 (C7.out.one _) R2.out HMW.out).mono ?_; rintro e w8 ⟨g8, rfl, ho8, hb8⟩
    rw [← HZ3.out] at ho8
    have b8 := below_seq (below_seq b7 (below1 _ _)) hb8
    have pr8 := heap_later (heap_later pr7 (below1 _ _)) hb8
    have px8 := heap_later (heap_later px7 (below1 _ _)) hb8
    have py8 := heap_later (heap_new w7 (.cells #[.int .i64 Wn, .int .i64 Tn, .slice (some ⟨g7, 0, none⟩) x x] 28)) hb8
    have A8 := Lib.hid ((A7.out.one (.cells #[.int .i64 Wn, .int .i64 Tn, .slice (some ⟨g7, 0, none⟩) x x] 28)).below hb8)
    have I8 := Lib.hid ((I7.out.one (.cells #[.int .i64 Wn, .int .i64 Tn, .slice (some ⟨g7, 0, none⟩) x x] 28)).below hb8)
    have X8 := Lib.hid ((X7.out.one (.cells #[.int .i64 Wn, .int .i64 Tn, .slice (some ⟨g7, 0, none⟩) x x] 28)).below hb8)
    have B8 := Lib.hid ((B7.out.one (.cells #[.int .i64 Wn, .int .i64 Tn, .slice (some ⟨g7, 0, none⟩) x x] 28)).below hb8)
    have C8 := Lib.hid ((C7.out.one (.cells #[.int .i64 Wn, .int .i64 Tn, .slice (some ⟨g7, 0, none⟩) x x] 28)).below hb8)
    have D8 := Lib.hid (OwnsB.at ho8)
    clear cr70 cr71 cr72 cx70 cx71 cx72 lr7 lx7
    obtain ⟨cr80, cr81, cr82⟩ := cells3 pr8
    have lr8 := heap_lt pr8
    obtain ⟨cx80, cx81, cx82⟩ := cells3 px8
    have lx8 := heap_lt px8
    obtain ⟨cy80, cy81, cy82⟩ := cells3 py8
    have ly8 := heap_lt py8
    clear ho8
    obtain ⟨w9, hw9⟩ : ∃ w9, w9 = w8.alloc (.cells #[.int .i64 Tn, .int .i64 Wn, .slice (some ⟨g8, 0, none⟩) x x] 28) := ⟨_, rfl⟩
    have pr9 : w9.heap[w1.heap.size]? = some (.cells #[.int .i64 Wn, .int .i64 Tn, .slice a x c] 28 (0, 0)) := by rw [hw9]; exact heap_later pr8 (below1 _ _)
    have px9 : w9.heap[w6.heap.size]? = some (.cells #[.int .i64 Tn, .int .i64 Wn, .slice (some ⟨g6, 0, none⟩) x x] 28 (0, 0)) := by rw [hw9]; exact heap_later px8 (below1 _ _)
    have py9 : w9.heap[w7.heap.size]? = some (.cells #[.int .i64 Wn, .int .i64 Tn, .slice (some ⟨g7, 0, none⟩) x x] 28 (0, 0)) := by rw [hw9]; exact heap_later py8 (below1 _ _)
    have pz9 : w9.heap[w8.heap.size]? = some (.cells #[.int .i64 Tn, .int .i64 Wn, .slice (some ⟨g8, 0, none⟩) x x] 28 (0, 0)) := by rw [hw9]; exact heap_new _ _
    have A9 : Hid (BoolsAt w9 a xs) := by rw [hw9]; exact A8.out.one _
    have I9 : Hid (IntsAt w9 la L) := by rw [hw9]; exact I8.out.one _
    have X9 : Hid (IntsAt w9 a2 X) := by rw [hw9]; exact X8.out.one _
    have B9 : Hid (BoolsAt w9 (some ⟨g6, 0, none⟩) Z1) := by rw [hw9]; exact B8.out.one _
    have C9 : Hid (BoolsAt w9 (some ⟨g7, 0, none⟩) Z2) := by rw [hw9]; exact C8.out.one _
    have D9 : Hid (BoolsAt w9 (some ⟨g8, 0, none⟩) Z3) := by rw [hw9]; exact D8.out.one _
    have b9 : Below w.heap.size w w9 := by rw [hw9]; exact below_seq b8 (below1 _ _)
    clear cr80 cr81 cr82 cx80 cx81 cx82 cy80 cy81 cy82 lr8 lx8 ly8
    obtain ⟨cr90, cr91, cr92⟩ := cells3 pr9
    have lr9 := heap_lt pr9
    obtain ⟨cx90, cx91, cx92⟩ := cells3 px9
    have lx9 := heap_lt px9
    obtain ⟨cy90, cy91, cy92⟩ := cells3 py9
    have ly9 := heap_lt py9
    obtain ⟨cz90, cz91, cz92⟩ := cells3 pz9
    have lz9 := heap_lt pz9
    go_wp2_with fail
    rw [← hw9]
    clear hw9
    go_wp2_with fail
    have prd9 : w9.drew.heap[w1.heap.size]? = some (.cells #[.int .i64 Wn, .int .i64 Tn, .slice a x c] 28 (0, 0)) := pr9
    have pxd9 : w9.drew.heap[w6.heap.size]? = some (.cells #[.int .i64 Tn, .int .i64 Wn, .slice (some ⟨g6, 0, none⟩) x x] 28 (0, 0)) := px9
    have pyd9 : w9.drew.heap[w7.heap.size]? = some (.cells #[.int .i64 Wn, .int .i64 Tn, .slice (some ⟨g7, 0, none⟩) x x] 28 (0, 0)) := py9
    have pzd9 : w9.drew.heap[w8.heap.size]? = some (.cells #[.int .i64 Tn, .int .i64 Wn, .slice (some ⟨g8, 0, none⟩) x x] 28 (0, 0)) := pz9
    have Ad9 : Hid (BoolsAt w9.drew a xs) := A9
    have Id9 : Hid (IntsAt w9.drew la L) := I9
    have Xd9 : Hid (IntsAt w9.drew a2 X) := X9
    have Bd9 : Hid (BoolsAt w9.drew (some ⟨g6, 0, none⟩) Z1) := B9
    have Cd9 : Hid (BoolsAt w9.drew (some ⟨g7, 0, none⟩) Z2) := C9
    have Dd9 : Hid (BoolsAt w9.drew (some ⟨g8, 0, none⟩) Z3) := D9
    have bd9 : Below w.heap.size w w9.drew := below_seq b9 (drew_below _)
    go_region_held3 (fun w' => w'.cell? ⟨w1.heap.size, 0, none⟩ = some (.int .i64 Wn) ∧ w'.cell? ⟨w1.heap.size, 1, none⟩ = some (.int .i64 Tn) ∧ w'.cell? ⟨w1.heap.size, 2, none⟩ = some (.slice a x c) ∧ w'.cell? ⟨w6.heap.size, 0, none⟩ = some (.int .i64 Tn) ∧ w'.cell? ⟨w6.heap.size, 1, none⟩ = some (.int .i64 Wn) ∧ w'.cell? ⟨w6.heap.size, 2, none⟩ = some (.slice (some ⟨g6, 0, none⟩) x x) ∧ w'.cell? ⟨w7.heap.size, 0, none⟩ = some (.int .i64 Wn) ∧ w'.cell? ⟨w7.heap.size, 1, none⟩ = some (.int .i64 Tn) ∧ w'.cell? ⟨w7.heap.size, 2, none⟩ = some (.slice (some ⟨g7, 0, none⟩) x x) ∧ w'.cell? ⟨w8.heap.size, 0, none⟩ = some (.int .i64 Tn) ∧ w'.cell? ⟨w8.heap.size, 1, none⟩ = some (.int .i64 Wn) ∧ w'.cell? ⟨w8.heap.size, 2, none⟩ = some (.slice (some ⟨g8, 0, none⟩) x x))
      (go_keep)
      (first
        | (go_at_call 36; refine (sameInts_same _ _ _ _ _ L _ HQ.out hm1 G13.out I13.out).mono ?_; rintro e w14 ⟨rfl, hb14⟩; have b14 := below_seq b13 hb14; have pr14 := heap_later pr13 hb14; have px14 := heap_later px13 hb14; have py14 := heap_later py13 hb14; have pz14 := heap_later pz13 hb14; have A14 := Lib.hid (A13.out.below hb14); have I14 := Lib.hid (I13.out.below hb14); have X14 := Lib.hid (X13.out.below hb14); have B14 := Lib.hid (B13.out.below hb14); have C14 := Lib.hid (C13.out.below hb14); have D14 := Lib.hid (D13.out.below hb14); have E14 := Lib.hid (E13.out.below hb14); have F14 := Lib.hid (F13.out.below hb14); have G14 := Lib.hid (G13.out.below hb14); obtain ⟨cr140, cr141, cr142⟩ := cells3 pr14; have lr14 := heap_lt pr14; obtain ⟨cx140, cx141, cx142⟩ := cells3 px14; have lx14 := heap_lt px14; obtain ⟨cy140, cy141, cy142⟩ := cells3 py14; have ly14 := heap_lt py14; obtain ⟨cz140, cz141, cz142⟩ := cells3 pz14; have lz14 := heap_lt pz14)
        | (go_at_call 44; refine (iTilingTurn_ret Tn Wn _ _ _ Z3 _ _ _ Y3 _ HT3 hm1 HY3 hm1 D12.out F12.out).mono ?_; rintro e w13 ⟨a13, cap13, rfl, ho13, hb13⟩; rw [E4.out] at ho13 ⊢; rw [← HQ.out] at ho13 ⊢; have b13 := below_seq b12 hb13; have pr13 := heap_later pr12 hb13; have px13 := heap_later px12 hb13; have py13 := heap_later py12 hb13; have pz13 := heap_later pz12 hb13; have A13 := Lib.hid (A12.out.below hb13); have I13 := Lib.hid (I12.out.below hb13); have X13 := Lib.hid (X12.out.below hb13); have B13 := Lib.hid (B12.out.below hb13); have C13 := Lib.hid (C12.out.below hb13); have D13 := Lib.hid (D12.out.below hb13); have E13 := Lib.hid (E12.out.below hb13); have F13 := Lib.hid (F12.out.below hb13); have G13 := Lib.hid (OwnsI.at ho13); obtain ⟨cr130, cr131, cr132⟩ := cells3 pr13; have lr13 := heap_lt pr13; obtain ⟨cx130, cx131, cx132⟩ := cells3 px13; have lx13 := heap_lt px13; obtain ⟨cy130, cy131, cy132⟩ := cells3 py13; have ly13 := heap_lt py13; obtain ⟨cz130, cz131, cz132⟩ := cells3 pz13; have lz13 := heap_lt pz13)
        | (go_at_call 44; refine (iTilingTurn_ret Wn Tn _ _ _ Z2 _ _ _ Y2 _ HT2 hm1 HY2 hm1 C11.out E11.out).mono ?_; rintro e w12 ⟨a12, cap12, rfl, ho12, hb12⟩; rw [E3.out] at ho12 ⊢; rw [← HY3.out] at ho12 ⊢; have b12 := below_seq b11 hb12; have pr12 := heap_later pr11 hb12; have px12 := heap_later px11 hb12; have py12 := heap_later py11 hb12; have pz12 := heap_later pz11 hb12; have A12 := Lib.hid (A11.out.below hb12); have I12 := Lib.hid (I11.out.below hb12); have X12 := Lib.hid (X11.out.below hb12); have B12 := Lib.hid (B11.out.below hb12); have C12 := Lib.hid (C11.out.below hb12); have D12 := Lib.hid (D11.out.below hb12); have E12 := Lib.hid (E11.out.below hb12); have F12 := Lib.hid (OwnsI.at ho12); obtain ⟨cr120, cr121, cr122⟩ := cells3 pr12; have lr12 := heap_lt pr12; obtain ⟨cx120, cx121, cx122⟩ := cells3 px12; have lx12 := heap_lt px12; obtain ⟨cy120, cy121, cy122⟩ := cells3 py12; have ly12 := heap_lt py12; obtain ⟨cz120, cz121, cz122⟩ := cells3 pz12; have lz12 := heap_lt pz12)
        | (go_at_call 44; refine (iTilingTurn_ret Tn Wn _ _ _ Z1 _ _ _ X _ HT1 hm1 HX hm1 B10.out X10.out).mono ?_; rintro e w11 ⟨a11, cap11, rfl, ho11, hb11⟩; rw [E2.out] at ho11 ⊢; rw [← HY2.out] at ho11 ⊢; have b11 := below_seq b10 hb11; have pr11 := heap_later pr10 hb11; have px11 := heap_later px10 hb11; have py11 := heap_later py10 hb11; have pz11 := heap_later pz10 hb11; have A11 := Lib.hid (A10.out.below hb11); have I11 := Lib.hid (I10.out.below hb11); have X11 := Lib.hid (X10.out.below hb11); have B11 := Lib.hid (B10.out.below hb11); have C11 := Lib.hid (C10.out.below hb11); have D11 := Lib.hid (D10.out.below hb11); have E11 := Lib.hid (OwnsI.at ho11); obtain ⟨cr110, cr111, cr112⟩ := cells3 pr11; have lr11 := heap_lt pr11; obtain ⟨cx110, cx111, cx112⟩ := cells3 px11; have lx11 := heap_lt px11; obtain ⟨cy110, cy111, cy112⟩ := cells3 py11; have ly11 := heap_lt py11; obtain ⟨cz110, cz111, cz112⟩ := cells3 pz11; have lz11 := heap_lt pz11)
        | (go_at_call 55; refine (iLaidOk_any _ _ _ _ _ Z1 _ _ _ X _ HT1.out hm1 HX.out hm1 Bd9.out Xd9.out).mono ?_; rintro e w10 ⟨rfl, hb10⟩; rw [K1.out]; have b10 := below_seq bd9 hb10; have pr10 := heap_later prd9 hb10; have px10 := heap_later pxd9 hb10; have py10 := heap_later pyd9 hb10; have pz10 := heap_later pzd9 hb10; have A10 := Lib.hid (Ad9.out.below hb10); have I10 := Lib.hid (Id9.out.below hb10); have X10 := Lib.hid (Xd9.out.below hb10); have B10 := Lib.hid (Bd9.out.below hb10); have C10 := Lib.hid (Cd9.out.below hb10); have D10 := Lib.hid (Dd9.out.below hb10); obtain ⟨cr100, cr101, cr102⟩ := cells3 pr10; have lr10 := heap_lt pr10; obtain ⟨cx100, cx101, cx102⟩ := cells3 px10; have lx10 := heap_lt px10; obtain ⟨cy100, cy101, cy102⟩ := cells3 py10; have ly10 := heap_lt py10; obtain ⟨cz100, cz101, cz102⟩ := cells3 pz10; have lz10 := heap_lt pz10))
    go_wp2
    go_ret
    exact ⟨rfl, b14⟩

end Go.Proofs.Ytlnnoeojgdeagaa
