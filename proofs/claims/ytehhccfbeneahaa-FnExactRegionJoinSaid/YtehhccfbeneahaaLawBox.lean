/- The law FnExactRegionBox: its walk. -/
import Derived.Test.YtehhccfbeneahaaBoxS
import Derived.Test.YtehhccfbeneahaaLawValid
namespace Go.Proofs.Ytehhccfbeneahaa
open Go.RowKit
set_option linter.unusedVariables false
set_option linter.unusedSimpArgs false

def RetReg (w : World) (W T : Int) (n : Nat) (xs : List Bool) (e : Ending) (w' : World) : Prop :=
  ∃ (a : Option Addr) (cap : Nat), e = .returned (.agg #[.int .i64 W, .int .i64 T, .slice a n cap]) ∧ OwnsB w' w.heap.size (.slice a n cap) xs ∧ Below w.heap.size w w'

def boxF (W T : Int) : Int × Int × List Bool := if boxB W T then (W, T, List.replicate (W * T).toNat true) else (0, 0, [])
theorem boxF_len (W T : Int) : (boxF W T).2.2.length ≤ 24 := by
  unfold boxF
  split
  · next h => have := boxB_yes h; simp; omega
  · simp

theorem iRegionBox_ret (W T : Int) (w : World) : Calls Try.prog 21 #[.int .i64 W, .int .i64 T] w (RetReg w (boxF W T).1 (boxF W T).2.1 (boxF W T).2.2.length (boxF W T).2.2) := by
  by_cases h : boxB W T = true
  · have hb := boxB_yes h
    refine (iRegionBox_yes W T (W * T).toNat w h (by omega)).mono ?_
    rintro e w' ⟨g, rfl, ho, hb⟩
    unfold boxF; rw [if_pos h]
    simp only [List.length_replicate]
    exact ⟨_, _, rfl, ho.lower (by omega), hb⟩
  · rw [Bool.not_eq_true] at h
    refine (iRegionBox_no W T w h).mono ?_
    rintro e w' ⟨rfl, hb⟩
    unfold boxF; rw [h]
    exact ⟨_, _, rfl, OwnsB.nil _ _, hb⟩
theorem sRegionBox_ret (W T : Int) (w : World) : Calls Try.prog 20 #[.int .i64 W, .int .i64 T] w (RetReg w (boxF W T).1 (boxF W T).2.1 (boxF W T).2.2.length (boxF W T).2.2) := by
  by_cases h : boxB W T = true
  · have hb := boxB_yes h
    refine (sRegionBox_yes W T (W * T).toNat w h (by omega)).mono ?_
    rintro e w' ⟨g, c, rfl, ho, hb⟩
    unfold boxF; rw [if_pos h]
    simp only [List.length_replicate]
    exact ⟨_, _, rfl, ho.lower (by omega), hb⟩
  · rw [Bool.not_eq_true] at h
    refine (sRegionBox_no W T w h).mono ?_
    rintro e w' ⟨rfl, hb⟩
    unfold boxF; rw [h]
    exact ⟨_, _, rfl, OwnsB.nil _ _, hb⟩

theorem okq {n : Nat} (h : n ≤ 1048576) : ((1 : Int) + n < 0) = False ∧ ((1 : Int) + n != 1 + n) = false := ⟨by simp; omega, by simp⟩

set_option maxHeartbeats 1000000 in
theorem lawBox_walk (W T : Int) (w : World) :
    Calls Try.prog 4 #[.int .i64 W, .int .i64 T] w fun e w' => e = .returned (.bool true) ∧ Below w.heap.size w w' := by
  have hS := sRegionBox_ret W T
  have hI := iRegionBox_ret W T
  have hlen := boxF_len W T
  generalize (boxF W T).1 = W' at hS hI
  generalize (boxF W T).2.1 = T' at hS hI
  generalize (boxF W T).2.2 = xs at hS hI hlen
  obtain ⟨n, hn⟩ : ∃ n, n = xs.length := ⟨_, rfl⟩
  rw [← hn] at hS hI hlen
  have hsm : n ≤ 1048576 := by omega
  have HS := Lib.hid hS; clear hS
  have HI := Lib.hid hI; clear hI
  have HN := Lib.hid hn; clear hn
  go_enter Try.func4, Try.ntmps4
  go_wp2_with fail
  refine (HS.out _).mono ?_; rintro e w1 ⟨a1, cap1, rfl, ho1, hb1⟩
  have b1 := hb1
  have A1_1 := Lib.hid (OwnsB.at ho1)
  have A1s := A1_1
  clear ho1
  go_wp2_with fail
  refine (HI.out _).mono ?_; rintro e w2 ⟨a2, cap2, rfl, ho2, hb2⟩
  have b2 := below_seq (below_seq b1 (below1 _ _)) hb2
  have A1_2 := Lib.hid (BoolsAt.below (BoolsAt.one A1_1.out _) hb2)
  have pw_2 := heap_later (heap_new _ _) hb2
  have O2_2 := Lib.hid (OwnsB.lower ho2 (show w1.heap.size + 1 ≤ _ by simp))
  clear A1_1
  obtain ⟨c2_pw0, c2_pw1, c2_pw2⟩ := cells3 pw_2
  have O2s := O2_2
  clear ho2
  have l1 : w1.heap.size < w2.heap.size := by have := hb2.size; simp at this; omega
  go_wp2_with fail
  refine (eqRegion_same _ _ _ _ _ _ _ xs _ HN.out hsm (OwnsB.at (OwnsB.alloc O2_2.out _)) (BoolsAt.one A1_2.out _)).mono ?_; rintro e w3 ⟨rfl, hb3⟩
  have b3 := below_seq (below_seq b2 (below1 _ _)) hb3
  have A1_3 := Lib.hid (BoolsAt.below (BoolsAt.one A1_2.out _) hb3)
  have pw_3 := heap_later (heap_later pw_2 (below1 _ _)) hb3
  have O2_3 := Lib.hid (OwnsB.below (OwnsB.alloc O2_2.out _) hb3)
  have pg_3 := heap_later (heap_new _ _) hb3
  clear A1_2 pw_2 O2_2 c2_pw0 c2_pw1 c2_pw2
  obtain ⟨c3_pg0, c3_pg1, c3_pg2⟩ := cells3 pg_3
  have l2 : w2.heap.size < w3.heap.size := by have := hb3.size; simp at this; omega
  have l0 : w.heap.size ≤ w1.heap.size := hb1.size
  go_wp2_with fail
  refine (markRegion_own _ _ _ _ _ (w1.heap.size + 1) _ xs _ HN.out hsm (by omega) (by omega) (by omega) O2_3.out).mono ?_; rintro e w4 ⟨rfl, ho4, hb4⟩
  have b4 := below_grown b3 hb4 (Nat.le_refl _) (OwnsB.ownAt O2_3.out (by omega))
  have A1_4 := Lib.hid (BoolsAt.grown A1_3.out A1s.out hb4 (OwnsB.ownAt O2_3.out (by omega)))
  have pw_4 := heap_grown pw_3 hb4 (OwnsB.ownBlock O2_3.out (by omega))
  have pg_4 := heap_grown pg_3 hb4 (fun e => by have := World.ownsRow.lt O2_3.out _ e; have h9 := OwnsB.blkLt O2s.out _ e; omega)
  have M2_4 := Lib.hid (ho4)
  clear A1_3 pw_3 O2_3 pg_3 c3_pg0 c3_pg1 c3_pg2
  obtain ⟨c4_pg0, c4_pg1, c4_pg2⟩ := cells3 pg_4
  clear ho4
  go_wp2_with fail
  refine (heldRegion_marks _ _ _ _ _ _ _ hsm (by omega) (by omega) (marks_at M2_4.out)).mono ?_; rintro e w5 ⟨rfl, hb5⟩
  have b5 := below_seq b4 hb5
  have A1_5 := Lib.hid (BoolsAt.below A1_4.out hb5)
  have pw_5 := heap_later pw_4 hb5
  have pg_5 := heap_later pg_4 hb5
  have M2_5 := Lib.hid (OwnsB.below M2_4.out hb5)
  clear A1_4 pw_4 pg_4 M2_4 c4_pg0 c4_pg1 c4_pg2
  go_wp2_with fail
  refine (HI.out _).mono ?_; rintro e w6 ⟨a3, cap3, rfl, ho6, hb6⟩
  have b6 := below_seq b5 hb6
  have A1_6 := Lib.hid (BoolsAt.below A1_5.out hb6)
  have pw_6 := heap_later pw_5 hb6
  have pg_6 := heap_later pg_5 hb6
  have M2_6 := Lib.hid (OwnsB.below M2_5.out hb6)
  have A6_6 := Lib.hid (OwnsB.at ho6)
  clear A1_5 pw_5 pg_5 M2_5
  obtain ⟨c6_pw0, c6_pw1, c6_pw2⟩ := cells3 pw_6
  clear ho6
  have l6 : w1.heap.size < w6.heap.size := by have := b6.size; have := hb2.size; have := hb6.size; have := hb5.size; have := hb3.size; have := hb4.size; simp at *; omega
  go_wp2_with fail
  refine (eqRegion_same _ _ _ _ _ _ _ xs _ HN.out hsm (BoolsAt.one A6_6.out _) (BoolsAt.one A1_6.out _)).mono ?_; rintro e w7 ⟨rfl, hb7⟩
  have b7 := below_seq (below_seq b6 (below1 _ _)) hb7
  have A1_7 := Lib.hid (BoolsAt.below (BoolsAt.one A1_6.out _) hb7)
  have pw_7 := heap_later (heap_later pw_6 (below1 _ _)) hb7
  have pg_7 := heap_later (heap_later pg_6 (below1 _ _)) hb7
  have M2_7 := Lib.hid (OwnsB.below (OwnsB.alloc M2_6.out _) hb7)
  have A6_7 := Lib.hid (BoolsAt.below (BoolsAt.one A6_6.out _) hb7)
  have ph_7 := heap_later (heap_new _ _) hb7
  clear A1_6 pw_6 pg_6 M2_6 A6_6 c6_pw0 c6_pw1 c6_pw2
  obtain ⟨c7_pg0, c7_pg1, c7_pg2⟩ := cells3 pg_7
  go_wp2_with fail
  refine (heldRegion_marks _ _ _ _ _ _ _ hsm (by omega) (by omega) (marks_at M2_7.out)).mono ?_; rintro e w8 ⟨rfl, hb8⟩
  have b8 := below_seq b7 hb8
  have A1_8 := Lib.hid (BoolsAt.below A1_7.out hb8)
  have pw_8 := heap_later pw_7 hb8
  have pg_8 := heap_later pg_7 hb8
  have M2_8 := Lib.hid (OwnsB.below M2_7.out hb8)
  have A6_8 := Lib.hid (BoolsAt.below A6_7.out hb8)
  have ph_8 := heap_later ph_7 hb8
  clear A1_7 pw_7 pg_7 M2_7 A6_7 ph_7 c7_pg0 c7_pg1 c7_pg2
  go_wp2
  go_ret
  exact ⟨rfl, b8⟩
end Go.Proofs.Ytehhccfbeneahaa
