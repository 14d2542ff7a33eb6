/- The law FnRegionAt: its walk. -/
import Derived.Test.YtlgmnceicnhhnaaDrawAt
import Derived.Test.YtlgmnceicnhhnaaFlipM
namespace Go.Proofs.Ytlgmnceicnhhnaa
open Go.RowKit
set_option linter.unusedVariables false
set_option maxRecDepth 100000
set_option linter.unusedSimpArgs false

theorem BoolsAt.cellAt' {w : World} {b off : Nat} {xs : List Bool} (h : BoolsAt w (some ⟨b, off, none⟩) xs) {i : Nat} (hi : i < xs.length) : w.cell? ⟨b, off + i, none⟩ = some (.bool (xs.getD i false)) := by
  obtain ⟨b', off', e, hc⟩ := h i hi
  simp only [Option.some.injEq, Addr.mk.injEq, and_true] at e
  obtain ⟨rfl, rfl⟩ := e
  exact hc

set_option maxHeartbeats 4000000 in
theorem promRegionAt_walk (cb : Option Addr) (n cap : Nat) (zs : List Int) (w : World) (hn : n = zs.length) (hn' : n ≤ maxLen) (hcap : n ≤ cap) (hb : BytesAt w cb zs) :
    Calls Try.prog 4 #[.slice cb n cap] w fun e w' => e = .returned (.bool true) ∧ Below w.heap.size w w' := by
  have HN := Lib.hid hn; clear hn
  have HB := Lib.hid hb; clear hb
  by_cases hbig : 1048576 < n
  · unfold maxLen at hn'
    go_enter Try.func4, Try.ntmps4
    go_wp2
    go_ret
    exact ⟨rfl, Below.refl _ _⟩
  have hsm : n ≤ 1048576 := by omega
  clear hbig hn'
  go_enter Try.func4, Try.ntmps4
  go_wp2_with fail
  refine (drawRegionAt_any _ _ _ zs _ HN.out hsm hcap HB.out).mono ?_; rintro e w1 ⟨W0, T0, a, m, c, xs, x, y, rfl, hm, h36, hs, hxy, ho, b1⟩
  have HM := Lib.hid hm; clear hm
  have AX := Lib.hid (OwnsB.at ho); clear ho
  obtain ⟨s0, s1, s2, s3⟩ := hs
  obtain ⟨x0, x1, y0, y1⟩ := hxy
  go_wp2_with fail
  refine (iRegionAt_any _ _ _ _ _ _ _ xs _ HM.out (by omega) (AX.out.one _)).mono ?_; rintro e w2 ⟨rfl, hb2⟩
  have b2 := below_seq (below_seq b1 (below1 _ _)) hb2
  have p2 := heap_later (heap_new w1 _) hb2
  have A2 := Lib.hid ((AX.out.one (.cells #[.int .i64 W0, .int .i64 T0, .slice a m c] 25)).below hb2)
  obtain ⟨c0, c1, c2⟩ := cells3 p2
  obtain ⟨D, hD⟩ : ∃ D, rAt W0 T0 xs x y = D := ⟨_, rfl⟩
  rw [hD]
  go_wp2_with fail
  refine (sRegionAt_any _ _ _ _ _ _ _ xs _ HM.out (by omega) A2.out).mono ?_; rintro e w3 ⟨rfl, hb3⟩
  have b3 := below_seq b2 hb3
  have p3 := heap_later p2 hb3
  have A3 := Lib.hid (A2.out.below hb3)
  clear c0 c1 c2
  obtain ⟨c0, c1, c2⟩ := cells3 p3
  rw [hD]
  have HD := Lib.hid hD; clear hD
  cases D
  · go_wp2_with fail
    refine (alive_any _).mono ?_; rintro e w4 ⟨rfl, hb4⟩
    go_wp2
    go_ret
    exact ⟨rfl, below_seq b3 hb4⟩
  · have hh := HD.out
    simp only [rAt, atB, Bool.and_eq_true, inF, decide_eq_true_eq] at hh
    obtain ⟨hr, ⟨g1, g2, g3, g4⟩, hx⟩ := hh
    obtain ⟨Wn, Tn, rfl, rfl, hl⟩ := rv_nat hr
    obtain ⟨xn, rfl⟩ := Int.eq_ofNat_of_zero_le g1
    obtain ⟨yn, rfl⟩ := Int.eq_ofNat_of_zero_le g3
    have hlt : yn * Wn + xn < Wn * Tn := by rw [Nat.mul_comm Wn Tn]; exact comb_lt (by omega) (by omega)
    have hti : ((yn : Int) * Wn + xn).toNat = yn * Wn + xn := by
      rw [show ((yn : Int) * Wn + xn) = ((yn * Wn + xn : Nat) : Int) by push_cast; rfl]; exact Int.toNat_natCast _
    rw [hti] at hx
    have hidx : yn * Wn + xn < xs.length := by rw [hl]; exact hlt
    obtain ⟨b, off, rfl, -⟩ := A3.out _ hidx
    have hc := A3.out.cellAt' hidx
    rw [hx] at hc
    have hc7 : w3.cell? ⟨b, off + ((yn : Int) * Wn + xn).toNat, none⟩ = some (.bool true) := by rw [hti]; exact hc
    have i1 : (yn : Int) * Wn + xn < m := by rw [HM.out]; exact_mod_cast hidx
    have i0 : (0 : Int) ≤ (yn : Int) * Wn := by exact_mod_cast Nat.zero_le (yn * Wn)
    clear hr hl hlt hx hidx HD hti
    go_wp2_with fail
    refine (alive_any _).mono ?_; rintro e w4 ⟨rfl, hb4⟩
    go_wp2
    go_ret
    exact ⟨rfl, below_seq b3 hb4⟩

end Go.Proofs.Ytlgmnceicnhhnaa
