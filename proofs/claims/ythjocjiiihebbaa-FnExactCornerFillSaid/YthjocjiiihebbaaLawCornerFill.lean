/- The law FnExactCornerFill: its walk. Generated from one pattern for all functions of plain numbers that return a list. -/
import Derived.Test.YthjocjiiihebbaaValid
import Derived.Test.YthjocjiiihebbaaInts
import Derived.Test.YthjocjiiihebbaaCornF
namespace Go.Proofs.Ythjocjiiihebbaa
open Go.RowKit
set_option linter.unusedVariables false
set_option maxRecDepth 100000
set_option linter.unusedSimpArgs false

set_option maxHeartbeats 2000000 in
theorem lawCornerFill_walk (s : Int) (c : Int) (w : World) (hs : -9223372036854775808 ≤ s ∧ s ≤ 9223372036854775807) (hc : -9223372036854775808 ≤ c ∧ c ≤ 9223372036854775807) :
    Calls Try.prog 12 #[.int .i64 s, .int .i64 c] w fun e w' => e = .returned (.bool true) ∧ Below w.heap.size w w' := by
  have hS : ∀ (w : World), Calls Try.prog 40 #[.int .i64 s, .int .i64 c] w (RetLT w (cornF s c).1.length (cornF s c).1 (cornF s c).2) := fun w => sCornerFill_ret s c w hs hc
  have hI : ∀ (w : World), Calls Try.prog 41 #[.int .i64 s, .int .i64 c] w (RetLT w (cornF s c).1.length (cornF s c).1 (cornF s c).2) := fun w => iCornerFill_ret s c w hs hc
  have hlen : (cornF s c).1.length ≤ 1048576 := by exact cornF_le s c
  generalize (cornF s c).2 = okv at hS hI
  generalize (cornF s c).1 = ys at hS hI hlen
  obtain ⟨r, hr⟩ : ∃ r, r = ys.length := ⟨_, rfl⟩
  rw [← hr] at hS hI hlen
  have HS := Lib.hid hS; clear hS
  have HI := Lib.hid hI; clear hI
  have HR := Lib.hid hr; clear hr
  cases okv
  all_goals
    go_enter Try.func12, Try.ntmps12
    go_wp2_with fail
    refine (HS.out _).mono ?_; rintro e w1 ⟨aS, capS, rfl, ho1, hb1⟩
    have b1 := hb1
    have z1 : w.heap.size + 0 ≤ w1.heap.size := by have := hb1.size; (try simp at this); omega
    have IW_1 := Lib.hid (OwnsI.at ho1)
    clear ho1
    have IWs := IW_1
    go_wp2_with fail
    refine (HI.out _).mono ?_; rintro e w2 ⟨aG, capG, rfl, ho2, hb2⟩
    have b2 := below_seq b1 hb2
    have z2 : w1.heap.size + 0 ≤ w2.heap.size := by have := hb2.size; (try simp at this); omega
    have IW_2 := Lib.hid (IntsAt.below IW_1.out hb2)
    have VG_2 := Lib.hid (ho2)
    clear IW_1
    clear ho2
    have VGs := VG_2
    go_wp2_with fail
    refine (eqIntS_below _ _ _ _ _ ys _ HR.out hlen (OwnsI.at VG_2.out) IW_2.out).mono ?_; rintro e w3 ⟨rfl, hb3⟩
    have b3 := below_seq b2 hb3
    have z3 : w2.heap.size + 0 ≤ w3.heap.size := by have := hb3.size; (try simp at this); omega
    have IW_3 := Lib.hid (IntsAt.below IW_2.out hb3)
    have VG_3 := Lib.hid (OwnsI.below VG_2.out hb3)
    clear IW_2 VG_2
    go_wp2_with fail
    refine (markIntS_own _ _ _ w1.heap.size _ ys _ HR.out hlen (by omega) (by omega) VG_3.out).mono ?_; rintro e w4 ⟨rfl, ho4, hb4⟩
    have b4 := below_grown b3 hb4 (Nat.le_refl _) (OwnsI.ownAt VG_3.out (by omega))
    have z4 : w3.heap.size ≤ w4.heap.size := hb4.size
    have IW_4 := Lib.hid (IntsAt.grown IW_3.out IWs.out hb4 (OwnsI.ownAt VG_3.out (by omega)))
    have M_4 := Lib.hid (ho4)
    clear IW_3 VG_3
    clear ho4
    go_wp2_with fail
    refine (heldIntS_below _ _ _ _ _ hlen (by omega) (by omega) (marksI_at M_4.out)).mono ?_; rintro e w5 ⟨rfl, hb5⟩
    have b5 := below_seq b4 hb5
    have z5 : w4.heap.size + 0 ≤ w5.heap.size := by have := hb5.size; (try simp at this); omega
    have IW_5 := Lib.hid (IntsAt.below IW_4.out hb5)
    have M_5 := Lib.hid (OwnsI.below M_4.out hb5)
    clear IW_4 M_4
    go_wp2_with fail
    refine (HI.out _).mono ?_; rintro e w6 ⟨aH, capH, rfl, ho6, hb6⟩
    have b6 := below_seq b5 hb6
    have z6 : w5.heap.size + 0 ≤ w6.heap.size := by have := hb6.size; (try simp at this); omega
    have IW_6 := Lib.hid (IntsAt.below IW_5.out hb6)
    have M_6 := Lib.hid (OwnsI.below M_5.out hb6)
    have IH_6 := Lib.hid (OwnsI.at ho6)
    clear IW_5 M_5
    clear ho6
    go_wp2_with fail
    refine (eqIntS_below _ _ _ _ _ ys _ HR.out hlen IH_6.out IW_6.out).mono ?_; rintro e w7 ⟨rfl, hb7⟩
    have b7 := below_seq b6 hb7
    have z7 : w6.heap.size + 0 ≤ w7.heap.size := by have := hb7.size; (try simp at this); omega
    have IW_7 := Lib.hid (IntsAt.below IW_6.out hb7)
    have M_7 := Lib.hid (OwnsI.below M_6.out hb7)
    have IH_7 := Lib.hid (IntsAt.below IH_6.out hb7)
    clear IW_6 M_6 IH_6
    go_wp2_with fail
    refine (heldIntS_below _ _ _ _ _ hlen (by omega) (by omega) (marksI_at M_7.out)).mono ?_; rintro e w8 ⟨rfl, hb8⟩
    have b8 := below_seq b7 hb8
    have z8 : w7.heap.size + 0 ≤ w8.heap.size := by have := hb8.size; (try simp at this); omega
    have IW_8 := Lib.hid (IntsAt.below IW_7.out hb8)
    have M_8 := Lib.hid (OwnsI.below M_7.out hb8)
    have IH_8 := Lib.hid (IntsAt.below IH_7.out hb8)
    clear IW_7 M_7 IH_7
    go_wp2
    go_ret
    exact ⟨rfl, b8⟩

end Go.Proofs.Ythjocjiiihebbaa
