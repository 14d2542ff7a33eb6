/- The law FnLaidMany: its walk. -/
import Derived.Test.YthdojiaaoaiioaaDrawL
import Derived.Test.YthdojiaaoaiioaaLaidP
import Derived.Test.YthdojiaaoaiioaaLaidN
namespace Go.Proofs.Ythdojiaaoaiioaa
open Go.RowKit
set_option linter.unusedVariables false
set_option maxRecDepth 100000
set_option linter.unusedSimpArgs false

set_option maxHeartbeats 4000000 in
theorem promLaidMany_walk (cb : Option Addr) (n cap : Nat) (zs : List Int) (w : World) (hn : n = zs.length) (hn' : n ≤ maxLen) (hcap : n ≤ cap) (hb : BytesAt w cb zs) :
    Calls Try.prog 8 #[.slice cb n cap] w fun e w' => e = .returned (.bool true) ∧ Below w.heap.size w w' := by
  have HN := Lib.hid hn; clear hn
  have HB := Lib.hid hb; clear hb
  by_cases hbig : 1048576 < n
  · unfold maxLen at hn'
    go_enter Try.func8, Try.ntmps8
    go_wp2
    go_ret
    exact ⟨rfl, Below.refl _ _⟩
  have hsm : n ≤ 1048576 := by omega
  clear hbig hn'
  go_enter Try.func8, Try.ntmps8
  go_wp2_with fail
  refine (drawLaidMany_any _ _ _ zs _ HN.out hsm hcap HB.out).mono ?_; rintro e w1 ⟨W0, T0, a, m, c, xs, la, q, lcap, L, rfl, hm, h36, hs, ho, hq, hq36, hi, b1⟩
  have HM := Lib.hid hm; clear hm
  have HQ := Lib.hid hq; clear hq
  have AX := Lib.hid (OwnsB.at ho); clear ho
  have IX := Lib.hid (OwnsI.at hi); clear hi
  obtain ⟨s0, s1, s2, s3⟩ := hs
  go_wp2_with fail
  refine (iLaidMany_any _ _ _ _ _ xs _ _ _ L _ HM.out (by omega) HQ.out (by omega) (AX.out.one _) (IX.out.one _)).mono ?_; rintro e w2 ⟨rfl, hb2⟩
  have b2 := below_seq (below_seq b1 (below1 _ _)) hb2
  have p2 := heap_later (heap_new w1 (.cells #[.int .i64 W0, .int .i64 T0, .slice a m c] 25)) hb2
  have A2 := Lib.hid ((AX.out.one (.cells #[.int .i64 W0, .int .i64 T0, .slice a m c] 25)).below hb2)
  have I2 := Lib.hid ((IX.out.one (.cells #[.int .i64 W0, .int .i64 T0, .slice a m c] 25)).below hb2)
  obtain ⟨c20, c21, c22⟩ := cells3 p2
  obtain ⟨N, hN⟩ : ∃ N, laidN W0 T0 xs L = N := ⟨_, rfl⟩
  rw [hN]
  go_wp2_with fail
  refine (sLaidMany_any _ _ _ _ _ xs _ _ _ L _ HM.out (by omega) HQ.out (by omega) A2.out I2.out).mono ?_; rintro e w3 ⟨rfl, hb3⟩
  have b3 := below_seq b2 hb3
  have p3 := heap_later p2 hb3
  have A3 := Lib.hid (A2.out.below hb3)
  have I3 := Lib.hid (I2.out.below hb3)
  clear c20 c21 c22
  obtain ⟨c30, c31, c32⟩ := cells3 p3
  rw [hN]
  cases h : lok W0 T0 xs L
  · have e : N = -1 := by rw [← hN]; unfold laidN; rw [h]; rfl
    subst e
    clear hN h
    go_wp2_with fail
    refine (alive_any _).mono ?_; rintro e w6 ⟨rfl, hb6⟩
    go_wp2
    go_ret
    exact ⟨rfl, below_seq b3 hb6⟩
  · have h2 := nz_twice h
    rw [← HQ.out, hN] at h2
    obtain ⟨Z, hZ⟩ : ∃ Z, nzN L q = Z := ⟨_, rfl⟩
    have hZq : Z ≤ q := by rw [← hZ]; exact nzN_le L q
    rw [hZ] at h2
    obtain ⟨F, hF⟩ : ∃ F : Nat, F = wayN L 1 q := ⟨_, rfl⟩
    have HFL : Hid (flatN W0 T0 xs L = F) := by show _ = _; unfold flatN; rw [h, ← HQ.out, hF]; rfl
    have hFN : (F : Int) ≤ N := by rw [← hN, hF]; unfold laidN; rw [h, ← HQ.out]; simp; omega
    have HZ := Lib.hid hZ; clear hZ
    have h0N : 0 ≤ N := by omega
    have hN36 : N ≤ 36 := by omega
    have hNN : (N != N) = false := by simp
    have HZN := Lib.hid h2; clear h2
    clear hN h hF
    go_wp2
    go_loopw [6, 7] (fun cv i wr => ∃ k : Nat, k ≤ q ∧ i = .int .i64 k ∧ cv = .int .i64 (nzN L k) ∧ wr = w3) (fun _ i _ => q - (intOf i).toNat)
    case atStart => exact ⟨0, Nat.zero_le _, rfl, rfl, rfl⟩
    case round =>
      obtain ⟨k, hk, rfl, rfl, rfl⟩ := hrel
      by_cases hlt : k < q
      · have e1 : (k : Int) < q := by omega
        have e0 : (0 : Int) ≤ k := by omega
        obtain ⟨lb, lo, rfl, hc⟩ := I3.out k (by rw [← HQ.out]; exact hlt)
        obtain ⟨z, hz⟩ : ∃ z, z = L.getD k 0 := ⟨_, rfl⟩
        rw [← hz] at hc
        have hcn := nzN_le L k
        cases hz0 : (z != 0)
        · have HS : Hid (nzN L (k + 1) = nzN L k) := by show _ = _; rw [nzN_succ, ← hz, hz0]; rfl
          clear hz
          go_wp2
          go_roundw
          case rel => exact ⟨k + 1, by omega, by go_num, by rw [HS.out], (by first | rfl | trivial)⟩
          case measure => simp [intOf]; omega
        · have HS : Hid (nzN L (k + 1) = nzN L k + 1) := by show _ = _; rw [nzN_succ, ← hz, hz0]; rfl
          clear hz
          go_wp2
          go_roundw
          case rel => exact ⟨k + 1, by omega, by go_num, by rw [HS.out]; go_num, (by first | rfl | trivial)⟩
          case measure => simp [intOf]; omega
      · obtain rfl : k = q := by omega
        rw [HZ.out]
        go_wp2_with fail
        refine (iFlatMany_any _ _ _ _ _ xs _ _ _ L _ HM.out (by omega) HQ.out (by omega) A3.out I3.out).mono ?_; rintro e w4 ⟨rfl, hb4⟩
        rw [HFL.out]
        have hzz : (Z : Int) = 2 * N := HZN.out
        have h1 : IntKind.i64.wrap (2 * N) = 2 * N := IntWalk.i64_in _ (by omega)
        have h2 : ((Z : Int) == 2 * N) = true := by simpa using hzz
        have h3 : (0 : Int) ≤ F := by omega
        clear hzz
        go_wp2
        go_ret
        exact ⟨rfl, below_seq b3 hb4⟩

end Go.Proofs.Ythdojiaaoaiioaa
