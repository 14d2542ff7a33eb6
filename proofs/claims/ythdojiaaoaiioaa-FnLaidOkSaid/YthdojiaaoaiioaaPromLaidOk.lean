/- The law FnLaidOk: its walk. -/
import Derived.Test.YthdojiaaoaiioaaDrawL
import Derived.Test.YthdojiaaoaiioaaLaidP
import Derived.Test.YthdojiaaoaiioaaLayOne
import Derived.Test.YthdojiaaoaiioaaLaid
namespace Go.Proofs.Ythdojiaaoaiioaa
open Go.RowKit
set_option linter.unusedVariables false
set_option maxRecDepth 100000
set_option linter.unusedSimpArgs false

set_option maxHeartbeats 4000000 in
theorem promLaidOk_walk (cb : Option Addr) (n cap : Nat) (zs : List Int) (w : World) (hn : n = zs.length) (hn' : n ≤ maxLen) (hcap : n ≤ cap) (hb : BytesAt w cb zs) :
    Calls Try.prog 7 #[.slice cb n cap] w fun e w' => e = .returned (.bool true) ∧ Below w.heap.size w w' := by
  have HN := Lib.hid hn; clear hn
  have HB := Lib.hid hb; clear hb
  by_cases hbig : 1048576 < n
  · unfold maxLen at hn'
    go_enter Try.func7, Try.ntmps7
    go_wp2
    go_ret
    exact ⟨rfl, Below.refl _ _⟩
  have hsm : n ≤ 1048576 := by omega
  clear hbig hn'
  go_enter Try.func7, Try.ntmps7
  go_wp2_with fail
  refine (drawLaidOk_any _ _ _ zs _ HN.out hsm hcap HB.out).mono ?_; rintro e w1 ⟨W0, T0, a, m, c, xs, la, q, lcap, L, rfl, hm, h36, hs, ho, hq, hq36, hi, b1⟩
  have HM := Lib.hid hm; clear hm
  have HQ := Lib.hid hq; clear hq
  have AX := Lib.hid (OwnsB.at ho); clear ho
  have IX := Lib.hid (OwnsI.at hi); clear hi
  obtain ⟨s0, s1, s2, s3⟩ := hs
  go_wp2_with fail
  refine (iLaidOk_any _ _ _ _ _ xs _ _ _ L _ HM.out (by omega) HQ.out (by omega) (AX.out.one _) (IX.out.one _)).mono ?_; rintro e w2 ⟨rfl, hb2⟩
  have b2 := below_seq (below_seq b1 (below1 _ _)) hb2
  have p2 := heap_later (heap_new w1 (.cells #[.int .i64 W0, .int .i64 T0, .slice a m c] 25)) hb2
  have A2 := Lib.hid ((AX.out.one (.cells #[.int .i64 W0, .int .i64 T0, .slice a m c] 25)).below hb2)
  have I2 := Lib.hid ((IX.out.one (.cells #[.int .i64 W0, .int .i64 T0, .slice a m c] 25)).below hb2)
  obtain ⟨c20, c21, c22⟩ := cells3 p2
  obtain ⟨ok, hok⟩ : ∃ ok, lok W0 T0 xs L = ok := ⟨_, rfl⟩
  rw [hok]
  go_wp2_with fail
  refine (sLaidOk_any _ _ _ _ _ xs _ _ _ L _ HM.out (by omega) HQ.out (by omega) A2.out I2.out).mono ?_; rintro e w3 ⟨rfl, hb3⟩
  have b3 := below_seq b2 hb3
  have p3 := heap_later p2 hb3
  have A3 := Lib.hid (A2.out.below hb3)
  have I3 := Lib.hid (I2.out.below hb3)
  clear c20 c21 c22
  obtain ⟨c30, c31, c32⟩ := cells3 p3
  rw [hok]
  have HOK := Lib.hid hok; clear hok
  have hbb : (ok != ok) = false := by simp
  go_upto_block 0 with fail
  go_cut [] (fun wx => wx.heap[w1.heap.size]? = some (.cells #[.int .i64 W0, .int .i64 T0, .slice a m c] 25 (0, 0)) ∧ Below w3.heap.size w3 wx)
  case first =>
    go_wp2
    go_loopw [6] (fun i wr => ∃ k : Nat, k ≤ q ∧ i = .int .i64 k ∧ wr.heap[w1.heap.size]? = some (.cells #[.int .i64 W0, .int .i64 T0, .slice a m c] 25 (0, 0)) ∧ Below w3.heap.size w3 wr) (fun i _ => q - (intOf i).toNat)
    case atStart => exact ⟨0, Nat.zero_le _, rfl, p3, Below.refl _ _⟩
    case round =>
      rename World => wo
      clear c30 c31 c32
      obtain ⟨k, hk, rfl, po, bo⟩ := hrel
      have BO := Lib.hid bo; clear bo
      obtain ⟨d0, d1, d2⟩ := cells3 po
      by_cases hlt : k < q
      · have e1 : (k : Int) < q := by omega
        cases ok
        · go_wp2
          go_meet
          exact ⟨po, BO.out⟩
        · have HLF : Hid (liftF W0 T0 xs L k = (liftL W0 T0 L k, canLift L k)) := by show _ = _; unfold liftF; rw [HOK.out]; rfl
          have HLK : Hid (lok W0 T0 xs (liftL W0 T0 L k) = true) := lok_lift HOK.out k
          have HLL : Hid (q = (liftL W0 T0 L k).length) := by show _ = _; rw [liftL_len]; exact HQ.out
          go_wp2_with fail
          refine (iLiftOne_ret _ _ _ _ _ xs _ _ _ L _ _ HM.out (by omega) HQ.out (by omega) (A3.out.below BO.out) (I3.out.below BO.out)).mono ?_; rintro e w4 ⟨a4, cap4, rfl, ho4, hb4⟩
          rw [HLF.out] at ho4 ⊢
          simp only at ho4 ⊢
          rw [← HLL.out] at ho4 ⊢
          have p4 := heap_later po hb4
          have B4 := Lib.hid (below_seq BO.out hb4)
          clear d0 d1 d2
          obtain ⟨d0, d1, d2⟩ := cells3 p4
          go_wp2_with fail
          refine (iLaidOk_any _ _ _ _ _ xs _ _ _ (liftL W0 T0 L k) _ HM.out (by omega) HLL.out (by omega) (A3.out.below B4.out) (OwnsI.at ho4)).mono ?_; rintro e w5 ⟨rfl, hb5⟩
          rw [HLK.out]
          have p5 := heap_later p4 hb5
          have B5 := Lib.hid (below_seq B4.out hb5)
          clear d0 d1 d2 ho4
          go_wp2
          go_roundw
          case rel => exact ⟨k + 1, by omega, by go_num, p5, B5.out⟩
          case measure => simp [intOf]; omega
      · go_wp2
        go_meet
        exact ⟨po, BO.out⟩
  case rest =>
    clear c30 c31 c32
    rename World => w4
    obtain ⟨p4, hb4⟩ := hcut
    have b4 := below_seq b3 hb4
    have A4 := Lib.hid (A3.out.below hb4)
    obtain ⟨c40, c41, c42⟩ := cells3 p4
    obtain ⟨rb, hrb⟩ : ∃ rb, rv W0 T0 xs = rb := ⟨_, rfl⟩
    have HR := Lib.hid hrb; clear hrb
    have HLB : Hid (lok W0 T0 xs (bareL W0 T0 xs) = rb) := by show _ = _; rw [lok_bareL]; exact HR.out
    have hrr : (rb == rb) = true := by simp
    obtain ⟨L2, hL⟩ : ∃ L2, bareL W0 T0 xs = L2 := ⟨_, rfl⟩
    obtain ⟨q2, hq2⟩ : ∃ q2, q2 = L2.length := ⟨_, rfl⟩
    have hq36' : q2 ≤ 36 := by have := bareL_len W0 T0 xs; rw [hL, ← hq2] at this; have := HM.out; omega
    rw [hL] at HLB
    have HQ2 := Lib.hid hq2; clear hq2
    have HBL := Lib.hid hL; clear hL
    go_upto_region 13 with fail
    have PA : w4.drew.heap[w1.heap.size]? = some (.cells #[.int .i64 W0, .int .i64 T0, .slice a m c] 25 (0, 0)) := p4
    have AA : Hid (BoolsAt w4.drew a xs) := A4
    have BA : Below w.heap.size w w4.drew := below_seq b4 (drew_below _)
    go_region_held3 (fun w' => w'.cell? ⟨w1.heap.size, 0, none⟩ = some (.int .i64 W0) ∧ w'.cell? ⟨w1.heap.size, 1, none⟩ = some (.int .i64 T0) ∧ w'.cell? ⟨w1.heap.size, 2, none⟩ = some (.slice a m c))
      (go_keep)
      (first
        | (go_at_call 16; refine (alive_any _).mono ?_; rintro e w8 ⟨rfl, hb8⟩; have p8 := heap_later p7 hb8; obtain ⟨c80, c81, c82⟩ := cells3 p8)
        | (go_at_call 15; refine (iRegionValid_any _ _ _ _ _ xs _ HM.out (by omega) A6.out).mono ?_; rintro e w7 ⟨rfl, hb7⟩; rw [HR.out]; have p7 := heap_later p6 hb7; obtain ⟨c70, c71, c72⟩ := cells3 p7)
        | (go_at_call 28; refine (iLaidOk_any _ _ _ _ _ xs _ _ _ L2 _ HM.out (by omega) HQ2.out (by omega) A5.out J5.out).mono ?_; rintro e w6 ⟨rfl, hb6⟩; rw [HLB.out]; have p6 := heap_later p5 hb6; have A6 := Lib.hid (A5.out.below hb6); obtain ⟨c60, c61, c62⟩ := cells3 p6)
        | (go_at_call 12; refine (iLaidBare_ret _ _ _ _ _ xs _ HM.out (by omega) AA.out).mono ?_; rintro e w5 ⟨a5, cap5, rfl, ho5, hb5⟩; rw [HBL.out] at ho5 ⊢; rw [← HQ2.out] at ho5 ⊢; have p5 := heap_later PA hb5; have A5 := Lib.hid (AA.out.below hb5); have J5 := Lib.hid (OwnsI.at ho5); obtain ⟨c50, c51, c52⟩ := cells3 p5))
    go_wp2
    go_ret
    exact ⟨rfl, below_seq BA (below_seq (below_seq hb5 hb6) (below_seq hb7 hb8))⟩

end Go.Proofs.Ythdojiaaoaiioaa
