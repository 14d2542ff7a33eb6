/- The law FnLaidBare: its walk. -/
import Derived.Test.YthdojiaaoaiioaaDrawL
import Derived.Test.YthdojiaaoaiioaaLaidP
import Derived.Test.YthdojiaaoaiioaaLaidN
import Derived.Test.YthdojiaaoaiioaaLaid
namespace Go.Proofs.Ythdojiaaoaiioaa
open Go.RowKit
set_option linter.unusedVariables false
set_option maxRecDepth 100000
set_option linter.unusedSimpArgs false

set_option maxHeartbeats 4000000 in
theorem promLaidBare_walk (cb : Option Addr) (n cap : Nat) (zs : List Int) (w : World) (hn : n = zs.length) (hn' : n ≤ maxLen) (hcap : n ≤ cap) (hb : BytesAt w cb zs) :
    Calls Try.prog 3 #[.slice cb n cap] w fun e w' => e = .returned (.bool true) ∧ Below w.heap.size w w' := by
  have HN := Lib.hid hn; clear hn
  have HB := Lib.hid hb; clear hb
  by_cases hbig : 1048576 < n
  · unfold maxLen at hn'
    go_enter Try.func3, Try.ntmps3
    go_wp2
    go_ret
    exact ⟨rfl, Below.refl _ _⟩
  have hsm : n ≤ 1048576 := by omega
  clear hbig hn'
  go_enter Try.func3, Try.ntmps3
  go_wp2_with fail
  refine (drawLaidBare_any _ _ _ zs _ HN.out hsm hcap HB.out).mono ?_; rintro e w1 ⟨W0, T0, a, m, c, xs, rfl, hm, h36, hs, ho, b1⟩
  have HM := Lib.hid hm; clear hm
  have AX := Lib.hid (OwnsB.at ho); clear ho
  obtain ⟨s0, s1, s2, s3⟩ := hs
  obtain ⟨L, hL⟩ : ∃ L, bareL W0 T0 xs = L := ⟨_, rfl⟩
  obtain ⟨q, hq⟩ : ∃ q, q = L.length := ⟨_, rfl⟩
  have hq36 : q ≤ 36 := by have := bareL_len W0 T0 xs; rw [hL, ← hq] at this; have := HM.out; omega
  have HQ := Lib.hid hq; clear hq
  have HBL := Lib.hid hL; clear hL
  go_wp2_with fail
  refine (iLaidBare_ret _ _ _ _ _ xs _ HM.out (by omega) (AX.out.one _)).mono ?_; rintro e w2 ⟨a2, cap2, rfl, ho2, hb2⟩
  rw [HBL.out] at ho2 ⊢
  rw [← HQ.out] at ho2 ⊢
  have b2 := below_seq (below_seq b1 (below1 _ _)) hb2
  have p2 := heap_later (heap_new w1 (.cells #[.int .i64 W0, .int .i64 T0, .slice a m c] 25)) hb2
  have A2 := Lib.hid ((AX.out.one (.cells #[.int .i64 W0, .int .i64 T0, .slice a m c] 25)).below hb2)
  have I2 := Lib.hid (OwnsI.at ho2)
  obtain ⟨c20, c21, c22⟩ := cells3 p2
  clear ho2
  go_wp2_with fail
  refine (sLaidBare_ret _ _ _ _ _ xs _ HM.out (by omega) A2.out).mono ?_; rintro e w3 ⟨a3, cap3, rfl, ho3, hb3⟩
  rw [HBL.out] at ho3 ⊢
  rw [← HQ.out] at ho3 ⊢
  have b3 := below_seq b2 hb3
  have p3 := heap_later p2 hb3
  have A3 := Lib.hid (A2.out.below hb3)
  have I3 := Lib.hid (I2.out.below hb3)
  have J3 := Lib.hid (OwnsI.at ho3)
  clear c20 c21 c22
  obtain ⟨c30, c31, c32⟩ := cells3 p3
  clear ho3
  go_wp2_with fail
  refine (sameInts_same _ _ _ _ _ L _ HQ.out (by omega) I3.out J3.out).mono ?_; rintro e w4 ⟨rfl, hb4⟩
  have b4 := below_seq b3 hb4
  have p4 := heap_later p3 hb4
  have A4 := Lib.hid (A3.out.below hb4)
  have I4 := Lib.hid (I3.out.below hb4)
  have J4 := Lib.hid (J3.out.below hb4)
  clear c30 c31 c32
  obtain ⟨c40, c41, c42⟩ := cells3 p4
  go_wp2_with fail
  refine (iRegionValid_any _ _ _ _ _ xs _ HM.out (by omega) A4.out).mono ?_; rintro e w5 ⟨rfl, hb5⟩
  have b5 := below_seq b4 hb5
  have p5 := heap_later p4 hb5
  have A5 := Lib.hid (A4.out.below hb5)
  have I5 := Lib.hid (I4.out.below hb5)
  have J5 := Lib.hid (J4.out.below hb5)
  clear c40 c41 c42
  obtain ⟨c50, c51, c52⟩ := cells3 p5
  cases h : rv W0 T0 xs
  · have hq0 : q = 0 := by rw [HQ.out, ← HBL.out]; unfold bareL; rw [h]; rfl
    subst hq0
    clear h
    go_wp2_with fail
    refine (alive_any _).mono ?_; rintro e w6 ⟨rfl, hb6⟩
    go_wp2
    go_ret
    exact ⟨rfl, below_seq b5 hb6⟩
  · have HL0 : Hid (laidN W0 T0 xs L = 0) := by show _ = _; rw [← HBL.out]; exact laid_bare h
    have HT0 : Hid (tok W0 T0 xs L = decide (cnt xs = 0)) := by show _ = _; rw [← HBL.out]; exact tok_bare h
    obtain ⟨C, hC⟩ : ∃ C, C = cnt xs := ⟨_, rfl⟩
    have HC0 : Hid (many W0 T0 xs = C) := by show _ = _; rw [hC]; unfold many; rw [h]; rfl
    have HT1 : Hid (tok W0 T0 xs L = decide (C = 0)) := by show _ = _; rw [hC]; exact HT0.out
    have hcb : ((C : Int) == 0) = decide (C = 0) := by by_cases e : C = 0 <;> simp [e]
    clear h hC HT0
    go_wp2_with fail
    have PA : w5.drew.heap[w1.heap.size]? = some (.cells #[.int .i64 W0, .int .i64 T0, .slice a m c] 25 (0, 0)) := p5
    have AA : Hid (BoolsAt w5.drew a xs) := A5
    have IA : Hid (IntsAt w5.drew a2 L) := I5
    have BA : Below w.heap.size w w5.drew := below_seq b5 (drew_below _)
    go_region_held3 (fun w' => w'.cell? ⟨w1.heap.size, 0, none⟩ = some (.int .i64 W0) ∧ w'.cell? ⟨w1.heap.size, 1, none⟩ = some (.int .i64 T0) ∧ w'.cell? ⟨w1.heap.size, 2, none⟩ = some (.slice a m c))
      (go_keep)
      (first
        | (go_at_call 19; refine (iCellsMany_any _ _ _ _ _ xs _ HM.out (by omega) A7.out).mono ?_; rintro e w8 ⟨rfl, hb8⟩; rw [HC0.out]; have p8 := heap_later p7 hb8; obtain ⟨c80, c81, c82⟩ := cells3 p8)
        | (go_at_call 18; refine (iTilingOk_any _ _ _ _ _ xs _ _ _ L _ HM.out (by omega) HQ.out (by omega) A6.out I6.out).mono ?_; rintro e w7 ⟨rfl, hb7⟩; rw [HT1.out]; have p7 := heap_later p6 hb7; have A7 := Lib.hid (A6.out.below hb7); obtain ⟨c70, c71, c72⟩ := cells3 p7)
        | (go_at_call 17; refine (iLaidMany_any _ _ _ _ _ xs _ _ _ L _ HM.out (by omega) HQ.out (by omega) AA.out IA.out).mono ?_; rintro e w6 ⟨rfl, hb6⟩; rw [HL0.out]; have p6 := heap_later PA hb6; have A6 := Lib.hid (AA.out.below hb6); have I6 := Lib.hid (IA.out.below hb6); obtain ⟨c60, c61, c62⟩ := cells3 p6))
    go_wp2
    go_ret
    exact ⟨rfl, below_seq BA (below_seq hb6 (below_seq hb7 hb8))⟩

end Go.Proofs.Ythdojiaaoaiioaa
