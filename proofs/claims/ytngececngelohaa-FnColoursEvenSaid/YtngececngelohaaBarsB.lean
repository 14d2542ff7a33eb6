/- The contract of impl.barsIn. No statement is proved here. -/
import Derived.Test.YtngececngelohaaBarsA
namespace Go.Proofs.Ytngececngelohaa
open Go.RowKit
set_option linter.unusedVariables false
set_option maxRecDepth 100000
set_option linter.unusedSimpArgs false

theorem idx_wayB0 (w : World) : (Instr.index 56 (.agg #[.int .i64 1, .int .i64 2]) (.int .i64 0)).run Try.prog w = .ok (.int .i64 1) w := by kernel_rfl
theorem idx_wayB1 (w : World) : (Instr.index 56 (.agg #[.int .i64 1, .int .i64 2]) (.int .i64 1)).run Try.prog w = .ok (.int .i64 2) w := by kernel_rfl

/-- The ways of the first j directions together. -/
def barsJ (W T : Int) (long f : Nat) (xs : List Bool) (j : Nat) : Nat :=
  (if 1 ≤ j then barOne (barsF W T long f) xs (barL W T 1 xs long (xs.findIdx id) []) else 0) + (if 2 ≤ j then (if long = 1 then 0 else barOne (barsF W T long f) xs (barL W T 2 xs long (xs.findIdx id) [])) else 0)
theorem barsJ_two {W T : Int} {long f : Nat} {xs : List Bool} (h : xs.findIdx id < xs.length) : barsJ W T long f xs 2 = barsF W T long (f + 1) xs := by
  conv => rhs; unfold barsF
  rw [if_pos h]
  unfold barsJ; rw [if_pos (by omega), if_pos (by omega)]
theorem barsJ_le {W T : Int} {long f : Nat} {xs : List Bool} (h1 : 1 ≤ long) (h : xs.findIdx id < xs.length) (j : Nat) : barsJ W T long f xs j ≤ 2 ^ cnt xs := by
  have h2 := barsF_le (W := W) (T := T) h1 (f + 1) xs
  rw [← barsJ_two h] at h2
  refine Nat.le_trans ?_ h2
  unfold barsJ
  rw [if_pos (show 1 ≤ 2 by omega), if_pos (show 2 ≤ 2 by omega)]
  exact Nat.add_le_add (by split; exact Nat.le_refl _; exact Nat.zero_le _) (by split; exact Nat.le_refl _; exact Nat.zero_le _)
theorem barsJ_zero (W T : Int) (long f : Nat) (xs : List Bool) : barsJ W T long f xs 0 = 0 := by
  unfold barsJ; rw [if_neg (by omega), if_neg (by omega)]
theorem barsJ_one (W T : Int) (long f : Nat) (xs : List Bool) : barsJ W T long f xs 1 = barOne (barsF W T long f) xs (barL W T 1 xs long (xs.findIdx id) []) := by
  unfold barsJ; rw [if_pos (by omega), if_neg (by omega), Nat.add_zero]
theorem barsJ_skip {W T : Int} {f : Nat} {xs : List Bool} : barsJ W T 1 f xs 2 = barsJ W T 1 f xs 1 := by
  rw [barsJ_one]; unfold barsJ; simp
theorem barsJ_next {W T : Int} {long f : Nat} {xs : List Bool} (h : ¬ long = 1) : barsJ W T long f xs 2 = barsJ W T long f xs 1 + barOne (barsF W T long f) xs (barL W T 2 xs long (xs.findIdx id) []) := by
  rw [barsJ_one]; unfold barsJ; simp [h]

set_option maxHeartbeats 400000 in
theorem barsIn_any (W T : Int) (long n : Nat) (hW0 : 1 ≤ W) (hW1 : W ≤ 6) (hT0 : 1 ≤ T) (hT1 : T ≤ 6) (hWT : (n : Int) = W * T) (hl1 : 1 ≤ long) (hl : long ≤ 4) : ∀ (f : Nat) (xs : List Bool), n = xs.length → cnt xs ≤ 24 → cnt xs < f → ∀ (a : Option Addr) (cap : Nat) (w : World), BoolsAt w a xs →
    Calls Try.prog 29 #[.agg #[.int .i64 W, .int .i64 T, .slice a n cap], .int .i64 long] w fun e w' => e = .returned (.int .i64 (barsF W T long f xs)) ∧ Below w.heap.size w w'
  | 0, xs, _, _, h, _, _, _, _ => absurd h (Nat.not_lt_zero _)
  | f + 1, xs, hn, h24, hf, a, cap, w, ha => by
    have ih := barsIn_any W T long n hW0 hW1 hT0 hT1 hWT hl1 hl f
    have IH := Lib.hid ih; clear ih
    have pb := (prod_bd (W := W) (T := T) (by omega) (by omega) (by omega) (by omega)).2
    have n4 : n ≤ 10000 := by omega
    have HN := Lib.hid hn; clear hn
    have HA := Lib.hid ha; clear ha
    have HWT := Lib.hid hWT; clear hWT
    obtain ⟨c0, c1, c2⟩ := cells3 (heap_new w (.cells #[.int .i64 W, .int .i64 T, .slice a n cap] 30))
    by_cases hfi : xs.findIdx id < xs.length
    · have hidx : idxI xs = (xs.findIdx id : Nat) := by unfold idxI; rw [if_pos hfi]
      have hle := fun j => barsJ_le (W := W) (T := T) (f := f) hl1 hfi j
      have h2 := barsJ_two (W := W) (T := T) (long := long) (f := f) hfi
      have hp24 : 2 ^ cnt xs ≤ 2 ^ 24 := Nat.pow_le_pow_right (by decide) h24
      obtain ⟨c, hc⟩ : ∃ c, c = xs.findIdx id := ⟨_, rfl⟩
      have hb1 : barsJ W T long f xs 1 = 0 + barOne (barsF W T long f) xs (barL W T 1 xs long (xs.findIdx id) []) := by rw [barsJ_one, Nat.zero_add]
      have hb2 := fun h => barsJ_next (W := W) (T := T) (long := long) (f := f) (xs := xs) h
      rw [← hc] at hidx hfi hb1 hb2
      rw [← HN.out] at hfi
      have HIDX := Lib.hid hidx; have HLE := Lib.hid hle; have H2 := Lib.hid h2; have HB1 := Lib.hid hb1; have HB2 := Lib.hid hb2; have HP := Lib.hid hp24
      clear hidx hle h2 hb1 hb2 hp24 hc
      rw [← H2.out]
      have c9 : ¬ (c : Int) < 0 := by omega
      have c8 : (0 : Int) ≤ c := by omega
      have ix0 := idx_wayB0
      have ix1 := idx_wayB1
      go_enter Try.func29, Try.ntmps29
      go_wp2_with fail
      refine (indexB_any _ _ _ xs _ HN.out (by omega) (HA.out.one _)).mono ?_; rintro e w1 ⟨rfl, rfl⟩
      rw [HIDX.out]
      go_wp2_with fail
      clear c0 c1 c2
      go_loopw [6, 8, 9, 10, 17] (fun s _ _ _ i wr => ∃ j : Nat, j ≤ 2 ∧ i = .int .i64 j ∧ s = .int .i64 (barsJ W T long f xs j) ∧ wr.heap[w.heap.size]? = some (.cells #[.int .i64 W, .int .i64 T, .slice a n cap] 30 (0, 0)) ∧ Below w.heap.size w wr) (fun _ _ _ _ i _ => 2 - (intOf i).toNat)
      case atStart => exact ⟨0, Nat.zero_le _, rfl, rfl, heap_new _ _, below1 _ _⟩
      case round =>
        rename World => wr
        obtain ⟨j, hj, rfl, rfl, pr, hbel⟩ := hrel
        have BEL := Lib.hid hbel; clear hbel
        obtain ⟨c0, c1, c2⟩ := cells3 pr
        have l1 := heap_lt pr
        have hlej := HLE.out j
        have hp := HP.out
        obtain ⟨S, hS⟩ : ∃ S, S = barsJ W T long f xs j := ⟨_, rfl⟩
        rw [← hS] at hlej
        have hS24 : S ≤ 16777216 := by omega
        rw [← hS]
        clear hlej hp
        have hj3 : j = 0 ∨ j = 1 ∨ j = 2 := by omega
        rcases hj3 with rfl | rfl | rfl
        · rw [barsJ_zero] at hS
          subst hS
          cases hone : ((long : Int) == 1)
          · have HONE := Lib.hid hone
            go_wp2_with fail
            refine (withoutBar_any W T 1 long c a n cap xs _ HN.out hW0 hW1 hT0 hT1 HWT.out hfi hl ⟨by omega, by omega⟩ (HA.out.below BEL.out)).mono ?_; rintro e w3 ⟨hb3, h | ⟨P, g, hP, rfl, ho⟩⟩
            · obtain ⟨hnone, rfl⟩ := h
              have p3 := heap_later pr hb3
              have B3 := Lib.hid (below_seq BEL.out hb3)
              have hsum := HB1.out
              rw [hnone] at hsum
              have HSUM := Lib.hid (show barsJ W T long f xs 1 = 0 + 0 from hsum); clear hsum hnone
              go_wp2
              go_roundw
              case rel => exact ⟨1, by omega, by go_num, by rw [HSUM.out]; go_num, heap_later p3 (below1 _ _), below_seq B3.out (below1 _ _)⟩
              case measure => simp [intOf]
            · have p3 := heap_later pr hb3
              have B3 := Lib.hid (below_seq BEL.out hb3)
              have hsum := HB1.out
              rw [hP] at hsum
              obtain ⟨V, hV⟩ : ∃ V, V = barsF W T long f (lessB xs P) := ⟨_, rfl⟩
              have HSUM := Lib.hid (show barsJ W T long f xs 1 = 0 + V by rw [hV]; exact hsum)
              have hlt := barL_lt hl1 hP
              have hle2 := HLE.out 1
              rw [HSUM.out] at hle2
              have hp := HP.out
              have hVb : 0 + V ≤ 16777216 := by omega
              obtain ⟨w4, hw4⟩ : ∃ w4, w4 = w3.alloc (.cells #[.int .i64 W, .int .i64 T, .slice (some ⟨g, 0, none⟩) n n] 30) := ⟨_, rfl⟩
              have p4 : w4.heap[w.heap.size]? = some (.cells #[.int .i64 W, .int .i64 T, .slice a n cap] 30 (0, 0)) := by rw [hw4]; exact heap_later p3 (below1 _ _)
              have q4 : w4.heap[w3.heap.size]? = some (.cells #[.int .i64 W, .int .i64 T, .slice (some ⟨g, 0, none⟩) n n] 30 (0, 0)) := by rw [hw4]; exact heap_new _ _
              have B4 : Hid (Below w.heap.size w w4) := by rw [hw4]; exact below_seq B3.out (below1 _ _)
              have A4 : Hid (BoolsAt w4 (some ⟨g, 0, none⟩) (lessB xs P)) := by rw [hw4]; exact (OwnsB.at ho).one _
              have hl4 : Hid (n = (lessB xs P).length) := by show n = _; rw [lessB_len]; exact HN.out
              have h244 : cnt (lessB xs P) ≤ 24 := by omega
              have hf4 : cnt (lessB xs P) < f := by omega
              clear hsum hP hlt hle2 hp ho pr p3 hb3 c0 c1 c2 B3 BEL
              go_wp2_with fail
              rw [← hw4]
              clear hw4
              obtain ⟨c0, c1, c2⟩ := cells3 p4
              obtain ⟨d0, d1, d2⟩ := cells3 q4
              have l4 := heap_lt p4
              have l5 := heap_lt q4
              go_wp2_with fail
              refine (IH.out (lessB xs P) hl4.out h244 hf4 _ n _ A4.out).mono ?_; rintro e w5 ⟨rfl, hb5⟩
              rw [← hV]
              have p5 := heap_later p4 hb5
              have B5 := Lib.hid (below_seq B4.out hb5)
              clear hb5 hV
              go_wp2
              go_roundw
              case rel => exact ⟨1, by omega, by go_num, by rw [HSUM.out]; go_num, p5, B5.out⟩
              case measure => simp [intOf]
          · have HONE := Lib.hid hone
            go_wp2_with fail
            refine (withoutBar_any W T 1 long c a n cap xs _ HN.out hW0 hW1 hT0 hT1 HWT.out hfi hl ⟨by omega, by omega⟩ (HA.out.below BEL.out)).mono ?_; rintro e w3 ⟨hb3, h | ⟨P, g, hP, rfl, ho⟩⟩
            · obtain ⟨hnone, rfl⟩ := h
              have p3 := heap_later pr hb3
              have B3 := Lib.hid (below_seq BEL.out hb3)
              have hsum := HB1.out
              rw [hnone] at hsum
              have HSUM := Lib.hid (show barsJ W T long f xs 1 = 0 + 0 from hsum); clear hsum hnone
              go_wp2
              go_roundw
              case rel => exact ⟨1, by omega, by go_num, by rw [HSUM.out]; go_num, heap_later p3 (below1 _ _), below_seq B3.out (below1 _ _)⟩
              case measure => simp [intOf]
            · have p3 := heap_later pr hb3
              have B3 := Lib.hid (below_seq BEL.out hb3)
              have hsum := HB1.out
              rw [hP] at hsum
              obtain ⟨V, hV⟩ : ∃ V, V = barsF W T long f (lessB xs P) := ⟨_, rfl⟩
              have HSUM := Lib.hid (show barsJ W T long f xs 1 = 0 + V by rw [hV]; exact hsum)
              have hlt := barL_lt hl1 hP
              have hle2 := HLE.out 1
              rw [HSUM.out] at hle2
              have hp := HP.out
              have hVb : 0 + V ≤ 16777216 := by omega
              obtain ⟨w4, hw4⟩ : ∃ w4, w4 = w3.alloc (.cells #[.int .i64 W, .int .i64 T, .slice (some ⟨g, 0, none⟩) n n] 30) := ⟨_, rfl⟩
              have p4 : w4.heap[w.heap.size]? = some (.cells #[.int .i64 W, .int .i64 T, .slice a n cap] 30 (0, 0)) := by rw [hw4]; exact heap_later p3 (below1 _ _)
              have q4 : w4.heap[w3.heap.size]? = some (.cells #[.int .i64 W, .int .i64 T, .slice (some ⟨g, 0, none⟩) n n] 30 (0, 0)) := by rw [hw4]; exact heap_new _ _
              have B4 : Hid (Below w.heap.size w w4) := by rw [hw4]; exact below_seq B3.out (below1 _ _)
              have A4 : Hid (BoolsAt w4 (some ⟨g, 0, none⟩) (lessB xs P)) := by rw [hw4]; exact (OwnsB.at ho).one _
              have hl4 : Hid (n = (lessB xs P).length) := by show n = _; rw [lessB_len]; exact HN.out
              have h244 : cnt (lessB xs P) ≤ 24 := by omega
              have hf4 : cnt (lessB xs P) < f := by omega
              clear hsum hP hlt hle2 hp ho pr p3 hb3 c0 c1 c2 B3 BEL
              go_wp2_with fail
              rw [← hw4]
              clear hw4
              obtain ⟨c0, c1, c2⟩ := cells3 p4
              obtain ⟨d0, d1, d2⟩ := cells3 q4
              have l4 := heap_lt p4
              have l5 := heap_lt q4
              go_wp2_with fail
              refine (IH.out (lessB xs P) hl4.out h244 hf4 _ n _ A4.out).mono ?_; rintro e w5 ⟨rfl, hb5⟩
              rw [← hV]
              have p5 := heap_later p4 hb5
              have B5 := Lib.hid (below_seq B4.out hb5)
              clear hb5 hV
              go_wp2
              go_roundw
              case rel => exact ⟨1, by omega, by go_num, by rw [HSUM.out]; go_num, p5, B5.out⟩
              case measure => simp [intOf]
        · cases hone : ((long : Int) == 1)
          · have hlo : ¬ long = 1 := by intro h; subst h; simp at hone
            have hsm := HB2.out hlo
            rw [← hS] at hsm
            have HSM := Lib.hid hsm
            clear hsm hlo hS
            go_wp2_with fail
            refine (withoutBar_any W T 2 long c a n cap xs _ HN.out hW0 hW1 hT0 hT1 HWT.out hfi hl ⟨by omega, by omega⟩ (HA.out.below BEL.out)).mono ?_; rintro e w3 ⟨hb3, h | ⟨P, g, hP, rfl, ho⟩⟩
            · obtain ⟨hnone, rfl⟩ := h
              have p3 := heap_later pr hb3
              have B3 := Lib.hid (below_seq BEL.out hb3)
              have hsum := HSM.out
              rw [hnone] at hsum
              have HSUM := Lib.hid (show barsJ W T long f xs 2 = S + 0 from hsum); clear hsum hnone
              go_wp2
              go_roundw
              case rel => exact ⟨2, by omega, by go_num, by rw [HSUM.out]; go_num, heap_later p3 (below1 _ _), below_seq B3.out (below1 _ _)⟩
              case measure => simp [intOf]
            · have p3 := heap_later pr hb3
              have B3 := Lib.hid (below_seq BEL.out hb3)
              have hsum := HSM.out
              rw [hP] at hsum
              obtain ⟨V, hV⟩ : ∃ V, V = barsF W T long f (lessB xs P) := ⟨_, rfl⟩
              have HSUM := Lib.hid (show barsJ W T long f xs 2 = S + V by rw [hV]; exact hsum)
              have hlt := barL_lt hl1 hP
              have hle2 := HLE.out 2
              rw [HSUM.out] at hle2
              have hp := HP.out
              have hVb : S + V ≤ 16777216 := by omega
              obtain ⟨w4, hw4⟩ : ∃ w4, w4 = w3.alloc (.cells #[.int .i64 W, .int .i64 T, .slice (some ⟨g, 0, none⟩) n n] 30) := ⟨_, rfl⟩
              have p4 : w4.heap[w.heap.size]? = some (.cells #[.int .i64 W, .int .i64 T, .slice a n cap] 30 (0, 0)) := by rw [hw4]; exact heap_later p3 (below1 _ _)
              have q4 : w4.heap[w3.heap.size]? = some (.cells #[.int .i64 W, .int .i64 T, .slice (some ⟨g, 0, none⟩) n n] 30 (0, 0)) := by rw [hw4]; exact heap_new _ _
              have B4 : Hid (Below w.heap.size w w4) := by rw [hw4]; exact below_seq B3.out (below1 _ _)
              have A4 : Hid (BoolsAt w4 (some ⟨g, 0, none⟩) (lessB xs P)) := by rw [hw4]; exact (OwnsB.at ho).one _
              have hl4 : Hid (n = (lessB xs P).length) := by show n = _; rw [lessB_len]; exact HN.out
              have h244 : cnt (lessB xs P) ≤ 24 := by omega
              have hf4 : cnt (lessB xs P) < f := by omega
              clear hsum hP hlt hle2 hp ho pr p3 hb3 c0 c1 c2 B3 BEL
              go_wp2_with fail
              rw [← hw4]
              clear hw4
              obtain ⟨c0, c1, c2⟩ := cells3 p4
              obtain ⟨d0, d1, d2⟩ := cells3 q4
              have l4 := heap_lt p4
              have l5 := heap_lt q4
              go_wp2_with fail
              refine (IH.out (lessB xs P) hl4.out h244 hf4 _ n _ A4.out).mono ?_; rintro e w5 ⟨rfl, hb5⟩
              rw [← hV]
              have p5 := heap_later p4 hb5
              have B5 := Lib.hid (below_seq B4.out hb5)
              clear hb5 hV
              go_wp2
              go_roundw
              case rel => exact ⟨2, by omega, by go_num, by rw [HSUM.out]; go_num, p5, B5.out⟩
              case measure => simp [intOf]
          · have hlo : long = 1 := by rw [beq_iff_eq] at hone; omega
            subst hlo
            have HSK := Lib.hid (show barsJ W T 1 f xs 2 = S by rw [barsJ_skip]; exact hS.symm)
            clear hS
            go_wp2
            go_roundw
            case rel => exact ⟨2, by omega, by go_num, by rw [HSK.out], pr, BEL.out⟩
            case measure => simp [intOf]
        · go_wp2
          go_ret
          exact ⟨ret_int (by rw [hS]), BEL.out⟩
    · have hz : xs.findIdx id = xs.length := by have : xs.findIdx id ≤ xs.length := List.findIdx_le_length; omega
      have hidx : idxI xs = -1 := by unfold idxI; rw [if_neg hfi]
      have hb := barsF_zero (W := W) (T := T) (long := long) (f := f + 1) hz
      rw [hb]
      have HIDX := Lib.hid hidx; clear hidx hb hz hfi
      go_enter Try.func29, Try.ntmps29
      go_wp2_with fail
      refine (indexB_any _ _ _ xs _ HN.out (by omega) (HA.out.one _)).mono ?_; rintro e w1 ⟨rfl, rfl⟩
      rw [HIDX.out]
      go_wp2
      go_ret
      exact ⟨rfl, below1 _ _⟩

end Go.Proofs.Ytngececngelohaa
