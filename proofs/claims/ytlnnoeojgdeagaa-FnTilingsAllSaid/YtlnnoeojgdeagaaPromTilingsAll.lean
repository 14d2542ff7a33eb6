/- The law FnTilingsAll: its walk. -/
import Derived.Test.YtlnnoeojgdeagaaDrawL2
import Derived.Test.YtlnnoeojgdeagaaSame
import Derived.Test.YtlnnoeojgdeagaaAllI
import Derived.Test.YtlnnoeojgdeagaaAllS
import Derived.Test.YtlnnoeojgdeagaaOrder
import Derived.Test.YtlnnoeojgdeagaaFlip
import Derived.Test.YtlnnoeojgdeagaaTurn
import Derived.Test.YtlnnoeojgdeagaaValid
namespace Go.Proofs.Ytlnnoeojgdeagaa
open Go.RowKit
set_option linter.unusedVariables false
set_option maxRecDepth 100000
set_option linter.unusedSimpArgs false

set_option maxHeartbeats 4000000 in
theorem promTilingsAll_walk (cb : Option Addr) (n cap : Nat) (zs : List Int) (w : World) (hn : n = zs.length) (hn' : n ≤ maxLen) (hcap : n ≤ cap) (hb : BytesAt w cb zs) :
    Calls Try.prog 10 #[.slice cb n cap] w fun e w' => e = .returned (.bool true) ∧ Below w.heap.size w w' := by
  have HN := Lib.hid hn; clear hn
  have HB := Lib.hid hb; clear hb
  by_cases hbig : 1048576 < n
  · unfold maxLen at hn'
    go_enter Try.func10, Try.ntmps10
    go_wp2
    go_ret
    exact ⟨rfl, Below.refl _ _⟩
  have hsm : n ≤ 1048576 := by omega
  clear hbig hn'
  go_enter Try.func10, Try.ntmps10
  go_wp2_with fail
  refine (drawTilingsAll_any _ _ _ zs _ HN.out hsm hcap HB.out).mono ?_; rintro e w1 ⟨W0, T0, a, m, c, xs, rfl, hm, h36, hs, ho, b1⟩
  have HM := Lib.hid hm; clear hm
  have A1 := Lib.hid (OwnsB.at ho); clear ho
  obtain ⟨s0, s1, s2, s3⟩ := hs
  obtain ⟨ALL, hALL⟩ : ∃ ALL, ALL = allF W0 T0 xs := ⟨_, rfl⟩
  obtain ⟨z, hz⟩ : ∃ z, z = ALL.length := ⟨_, rfl⟩
  have hz4 : z ≤ 4096 := by rw [hz, hALL]; exact allF_count _ _ _
  have HCOL : Hid (∀ i, i < ALL.length → (ALL.getD i []).length ≤ 1048576) := by rw [hALL]; exact allF_col _ _ _
  have HALL := Lib.hid hALL; clear hALL
  have HZ := Lib.hid hz; clear hz
  go_wp2_with fail
  refine (iTilingsAll_ret _ _ _ _ _ xs _ HM.out (by omega) (A1.out.one _)).mono ?_; rintro e w2 ⟨a2, cap2, rfl, ho2, hb2⟩
  rw [← HALL.out] at ho2 ⊢
  rw [← HZ.out] at ho2 ⊢
  have b2 := below_seq (below_seq b1 (below1 _ _)) hb2
  have pr2 := heap_later (heap_new w1 (.cells #[.int .i64 W0, .int .i64 T0, .slice a m c] 28)) hb2
  have A2 := Lib.hid ((A1.out.one (.cells #[.int .i64 W0, .int .i64 T0, .slice a m c] 28)).below hb2)
  have S2 := Lib.hid (OwnsSS.at ho2)
  obtain ⟨cr20, cr21, cr22⟩ := cells3 pr2
  have lr2 := heap_lt pr2
  clear ho2
  go_wp2_with fail
  refine (sTilingsAll_ret _ _ _ _ _ xs _ HM.out (by omega) A2.out).mono ?_; rintro e w3 ⟨a3, cap3, rfl, ho3, hb3⟩
  rw [← HALL.out] at ho3 ⊢
  rw [← HZ.out] at ho3 ⊢
  have b3 := below_seq b2 hb3
  have pr3 := heap_later pr2 hb3
  have A3 := Lib.hid (A2.out.below hb3)
  have S3 := Lib.hid (S2.out.below hb3)
  have U3 := Lib.hid (OwnsSS.at ho3)
  clear cr20 cr21 cr22 lr2
  obtain ⟨cr30, cr31, cr32⟩ := cells3 pr3
  have lr3 := heap_lt pr3
  clear ho3
  go_wp2_with fail
  refine (sameLists_same _ _ _ _ _ ALL _ HZ.out (by omega) HCOL.out S3.out U3.out).mono ?_; rintro e w4 ⟨rfl, hb4⟩
  have b4 := below_seq b3 hb4
  have pr4 := heap_later pr3 hb4
  have A4 := Lib.hid (A3.out.below hb4)
  have S4 := Lib.hid (S3.out.below hb4)
  have U4 := Lib.hid (U3.out.below hb4)
  clear cr30 cr31 cr32 lr3
  obtain ⟨cr40, cr41, cr42⟩ := cells3 pr4
  have lr4 := heap_lt pr4
  go_wp2_with fail
  refine (sRegionValid_any _ _ _ _ _ xs _ HM.out (by omega) A4.out).mono ?_; rintro e w5 ⟨rfl, hb5⟩
  have b5 := below_seq b4 hb5
  have pr5 := heap_later pr4 hb5
  have A5 := Lib.hid (A4.out.below hb5)
  have S5 := Lib.hid (S4.out.below hb5)
  clear cr40 cr41 cr42 lr4
  obtain ⟨cr50, cr51, cr52⟩ := cells3 pr5
  have lr5 := heap_lt pr5
  cases hr : rv W0 T0 xs
  · have hz0 : z = 0 := by rw [HZ.out, HALL.out]; unfold allF; rw [hr]; rfl
    subst hz0
    clear hr
    go_wp2_with fail
    refine (alive_any _).mono ?_; rintro e w6 ⟨rfl, hb6⟩
    go_wp2
    go_ret
    exact ⟨rfl, below_seq b5 hb6⟩
  · obtain ⟨Wn, rfl⟩ := Int.eq_ofNat_of_zero_le s0
    obtain ⟨Tn, rfl⟩ := Int.eq_ofNat_of_zero_le s2
    obtain ⟨v1, v2, v3, v4, v5, v6⟩ := rv_parts.1 hr
    have HMW : Hid (m = Wn * Tn) := by show m = _; rw [HM.out]; exact v5
    have HMT : Hid (m = Tn * Wn) := by show m = _; rw [HMW.out, Nat.mul_comm]
    have HRV := Lib.hid hr
    obtain ⟨Z1, hZ1⟩ : ∃ Z1, Z1 = turned Wn Tn xs := ⟨_, rfl⟩
    obtain ⟨Z2, hZ2⟩ : ∃ Z2, Z2 = flipped Wn Tn xs := ⟨_, rfl⟩
    have HT1 : Hid (m = Z1.length) := by show m = _; rw [hZ1, turned_len]; exact HMW.out
    have HF1 : Hid (m = Z2.length) := by show m = _; rw [hZ2, flipped_len]; exact HMW.out
    have HZT : Hid ((allF Tn Wn Z1).length = z) := by show _ = z; rw [HZ.out, HALL.out, hZ1]; exact all_turned hr
    have HZF : Hid ((allF Wn Tn Z2).length = z) := by show _ = z; rw [HZ.out, HALL.out, hZ2]; exact all_flipped hr
    have HZ1 := Lib.hid hZ1
    have HZ2 := Lib.hid hZ2
    have HROW : Hid (∀ i, i < ALL.length → (ALL.getD i []).length = m ∧ tok Wn Tn xs (ALL.getD i []) = true) := fun i hi => by
      rw [HALL.out] at hi ⊢
      rw [HM.out]
      exact allF_row hi
    have HSORT : Hid (∀ i, i + 1 < ALL.length → Before (ALL.getD i []) (ALL.getD (i + 1) [])) := fun i hi => by
      have hs := List.pairwise_iff_getElem.1 (HALL.out ▸ allF_sorted Wn Tn xs : ALL.Pairwise Before) i (i + 1) (by omega) hi (by omega)
      simp only [List.getD, List.getElem?_eq_getElem hi, List.getElem?_eq_getElem (show i < ALL.length by omega), Option.getD_some]
      exact hs
    have hm1 : m ≤ 1048576 := by omega
    have hzz : ((z : Int) == z) = true := by simp
    clear hr v1 v2 v3 v4 v5 v6 hZ1 hZ2
    go_wp2
    go_loopw [5] (fun i wr => ∃ k : Nat, k ≤ z ∧ i = .int .i64 k ∧ Below w5.heap.size w5 wr) (fun i _ => z - (intOf i).toNat)
    case atStart => exact ⟨0, Nat.zero_le _, rfl, Below.refl _ _⟩
    case round =>
      rename World => wo
      clear cr50 cr51 cr52 lr5
      obtain ⟨k, hk, rfl, bo⟩ := hrel
      have b9 := below_seq b5 bo
      have pr9 := heap_later pr5 bo
      have A9 := Lib.hid (A5.out.below bo)
      have S9 := Lib.hid (S5.out.below bo)
      have BO := Lib.hid bo; clear bo
      obtain ⟨cr90, cr91, cr92⟩ := cells3 pr9
      have lr9 := heap_lt pr9
      by_cases hlt : k < z
      · have e1 : (k : Int) < z := by omega
        have e0 : (0 : Int) ≤ k := by omega
        have hkr : k < ALL.length := by rw [← HZ.out]; exact hlt
        obtain ⟨b6, o6, a6, cap6, rfl, hc6, hx6⟩ := S9.out k hkr
        rw [(HROW.out k hkr).1] at hc6
        have hml : m = (ALL.getD k []).length := (HROW.out k hkr).1.symm
        have htk := (HROW.out k hkr).2
        have l6 := World.block_lt_of_cell? wo _ hc6
        simp only at l6
        rcases k with _ | j
        · have e1' : (0 : Int) < z := by omega
          obtain ⟨M, hM⟩ : ∃ M, M = ALL.getD 0 [] := ⟨_, rfl⟩
          rw [← hM] at hml htk hx6
          have HX6 := Lib.hid hx6; clear hx6
          have HML := Lib.hid hml; clear hml
          have HTK := Lib.hid htk; clear htk
          clear hM hkr
          go_wp2_with fail
          have prd9 : wo.drew.heap[w1.heap.size]? = some (.cells #[.int .i64 Wn, .int .i64 Tn, .slice a m c] 28 (0, 0)) := pr9
          have Ad9 : Hid (BoolsAt wo.drew a xs) := A9
          have bd9 : Below w.heap.size w wo.drew := below_seq b9 (drew_below _)
          have d6 : wo.drew.cell? ⟨b6, o6, none⟩ = some (.slice a6 m cap6) := hc6
          refine wp_region_held_drew (S := (fun w' => w'.cell? ⟨w1.heap.size, 0, none⟩ = some (.int .i64 Wn) ∧ w'.cell? ⟨w1.heap.size, 1, none⟩ = some (.int .i64 Tn) ∧ w'.cell? ⟨w1.heap.size, 2, none⟩ = some (.slice a m c) ∧ w'.cell? ⟨b6, o6, none⟩ = some (.slice a6 m cap6))) (by kernel_rfl) (by first | go_keep | (dsimp only; go_keep)) (fun hHeld => ?_)
          refine wpAnyH_take (i := 0) (oi := _) (v := ?_) rfl (by kernel_rfl) (by kernel_rfl) (by kernel_rfl) (fun _ _ _ h => h) (Or.inl ⟨by rfl, ?_⟩) (by assumption) ?_
          rotate_left
          · (intro w' hSw; (try dsimp only at hSw); go_simp; try with_reducible rfl)
          try simp only [Act.put, List.setIfInBounds_toArray, List.set_cons_zero, List.set_cons_succ, List.getElem_toArray, List.getElem_cons_zero, List.getElem_cons_succ]
          refine wpAnyH_take (i := 1) (oi := _) (v := ?_) rfl (by kernel_rfl) (by kernel_rfl) (by kernel_rfl) (fun _ _ _ h => h) (Or.inl ⟨by rfl, ?_⟩) (by assumption) ?_
          rotate_left
          · (intro w' hSw; (try dsimp only at hSw); go_simp; try with_reducible rfl)
          try simp only [Act.put, List.setIfInBounds_toArray, List.set_cons_zero, List.set_cons_succ, List.getElem_toArray, List.getElem_cons_zero, List.getElem_cons_succ]
          refine wpAnyH_take (i := 2) (oi := _) (v := ?_) rfl (by kernel_rfl) (by kernel_rfl) (by kernel_rfl) (fun _ _ _ h => h) (Or.inl ⟨by rfl, ?_⟩) (by assumption) ?_
          rotate_left
          · (intro w' hSw; (try dsimp only at hSw); go_simp; try with_reducible rfl)
          try simp only [Act.put, List.setIfInBounds_toArray, List.set_cons_zero, List.set_cons_succ, List.getElem_toArray, List.getElem_cons_zero, List.getElem_cons_succ]
          refine wpAnyH_take (i := 3) (oi := _) (v := ?_) rfl (by kernel_rfl) (by kernel_rfl) (by kernel_rfl) (fun _ _ _ h => h) (Or.inl ⟨by rfl, ?_⟩) (by assumption) ?_
          rotate_left
          · (intro w' hSw; (try dsimp only at hSw); go_simp; try with_reducible rfl)
          try simp only [Act.put, List.setIfInBounds_toArray, List.set_cons_zero, List.set_cons_succ, List.getElem_toArray, List.getElem_cons_zero, List.getElem_cons_succ]
          refine wpAnyH_take (i := 4) (oi := _) (v := ?_) rfl (by kernel_rfl) (by kernel_rfl) (by kernel_rfl) (fun _ _ _ h => h) (Or.inl ⟨by rfl, ?_⟩) (by assumption) ?_
          rotate_left
          · (intro w' hSw; (try dsimp only at hSw); go_simp; try with_reducible rfl)
          try simp only [Act.put, List.setIfInBounds_toArray, List.set_cons_zero, List.set_cons_succ, List.getElem_toArray, List.getElem_cons_zero, List.getElem_cons_succ]
          refine wpAnyH_ready (rs := [5]) (by kernel_rfl) (by simp) ?_
          refine AllReadyH.cons (o := _) rfl (fun K hK => ?_) AllReadyH.nil
          go_simp
          go_at_call 33
          refine (iTilingOk_any _ _ _ _ _ xs _ _ _ M _ HM.out hm1 HML.out hm1 Ad9.out (show IntsAt wo.drew _ _ from HX6.out)).mono ?_
          rintro e w10 ⟨rfl, hb10⟩
          rw [HTK.out]
          have b10 := below_seq bd9 hb10
          have pr10 := heap_later prd9 hb10
          have A10 := Lib.hid (Ad9.out.below hb10)
          clear cr90 cr91 cr92 lr9
          obtain ⟨cr100, cr101, cr102⟩ := cells3 pr10
          have lr10 := heap_lt pr10
          have f6 := cell_later hb10 d6
          try go_wp2_with fail
          refine hK.out _ _ (by first | go_keep | (dsimp only; go_keep)) (fun hHeld2 => ?_)
          clear hK K
          try simp only [Act.put, List.setIfInBounds_toArray, List.set_cons_zero, List.set_cons_succ, List.getElem_toArray, List.getElem_cons_zero, List.getElem_cons_succ]
          refine wpAnyH_take (i := 6) (oi := _) (v := ?_) rfl (by kernel_rfl) (by kernel_rfl) (by kernel_rfl) (fun _ _ _ h => h) (Or.inl ⟨by rfl, ?_⟩) (by assumption) ?_
          rotate_left
          · (intro w' hSw; (try dsimp only at hSw); go_simp; try with_reducible rfl)
          try simp only [Act.put, List.setIfInBounds_toArray, List.set_cons_zero, List.set_cons_succ, List.getElem_toArray, List.getElem_cons_zero, List.getElem_cons_succ]
          refine wpAnyH_take (i := 7) (oi := _) (v := ?_) rfl (by kernel_rfl) (by kernel_rfl) (by kernel_rfl) (fun _ _ _ h => h) (Or.inl ⟨by rfl, ?_⟩) (by assumption) ?_
          rotate_left
          · (intro w' hSw; (try dsimp only at hSw); go_simp; try with_reducible rfl)
          try simp only [Act.put, List.setIfInBounds_toArray, List.set_cons_zero, List.set_cons_succ, List.getElem_toArray, List.getElem_cons_zero, List.getElem_cons_succ]
          refine wpAnyH_take (i := 8) (oi := _) (v := ?_) rfl (by kernel_rfl) (by kernel_rfl) (by kernel_rfl) (fun _ _ _ h => h) (Or.inl ⟨by rfl, ?_⟩) (by assumption) ?_
          rotate_left
          · (intro w' hSw; (try dsimp only at hSw); go_simp; try with_reducible rfl)
          try simp only [Act.put, List.setIfInBounds_toArray, List.set_cons_zero, List.set_cons_succ, List.getElem_toArray, List.getElem_cons_zero, List.getElem_cons_succ]
          refine wpAnyH_take (i := 9) (oi := _) (v := ?_) rfl (by kernel_rfl) (by kernel_rfl) (by kernel_rfl) (fun _ _ _ h => h) (Or.inl ⟨by rfl, ?_⟩) (by assumption) ?_
          rotate_left
          · (intro w' hSw; (try dsimp only at hSw); go_simp; try with_reducible rfl)
          try simp only [Act.put, List.setIfInBounds_toArray, List.set_cons_zero, List.set_cons_succ, List.getElem_toArray, List.getElem_cons_zero, List.getElem_cons_succ]
          refine wpAnyH_take (i := 10) (oi := _) (v := ?_) rfl (by kernel_rfl) (by kernel_rfl) (by kernel_rfl) (fun _ _ _ h => h) (Or.inl ⟨by rfl, ?_⟩) (by assumption) ?_
          rotate_left
          · (intro w' hSw; (try dsimp only at hSw); go_simp; try with_reducible rfl)
          try simp only [Act.put, List.setIfInBounds_toArray, List.set_cons_zero, List.set_cons_succ, List.getElem_toArray, List.getElem_cons_zero, List.getElem_cons_succ]
          refine wpAnyH_take (i := 11) (oi := _) (v := undef) rfl (by kernel_rfl) (by kernel_rfl) (by kernel_rfl) (fun _ _ _ h => h) (Or.inr ⟨by rfl, rfl⟩) (by assumption) ?_
          try simp only [Act.put, List.setIfInBounds_toArray, List.set_cons_zero, List.set_cons_succ, List.getElem_toArray, List.getElem_cons_zero, List.getElem_cons_succ]
          refine wpAnyH_take (i := 12) (oi := _) (v := undef) rfl (by kernel_rfl) (by kernel_rfl) (by kernel_rfl) (fun _ _ _ h => h) (Or.inr ⟨by rfl, rfl⟩) (by assumption) ?_
          try simp only [Act.put, List.setIfInBounds_toArray, List.set_cons_zero, List.set_cons_succ, List.getElem_toArray, List.getElem_cons_zero, List.getElem_cons_succ]
          refine wpAnyH_take (i := 13) (oi := _) (v := undef) rfl (by kernel_rfl) (by kernel_rfl) (by kernel_rfl) (fun _ _ _ h => h) (Or.inr ⟨by rfl, rfl⟩) (by assumption) ?_
          try simp only [Act.put, List.setIfInBounds_toArray, List.set_cons_zero, List.set_cons_succ, List.getElem_toArray, List.getElem_cons_zero, List.getElem_cons_succ]
          refine wpAnyH_take (i := 14) (oi := _) (v := undef) rfl (by kernel_rfl) (by kernel_rfl) (by kernel_rfl) (fun _ _ _ h => h) (Or.inr ⟨by rfl, rfl⟩) (by assumption) ?_
          try simp only [Act.put, List.setIfInBounds_toArray, List.set_cons_zero, List.set_cons_succ, List.getElem_toArray, List.getElem_cons_zero, List.getElem_cons_succ]
          refine wpAnyH_take (i := 15) (oi := _) (v := undef) rfl (by kernel_rfl) (by kernel_rfl) (by kernel_rfl) (fun _ _ _ h => h) (Or.inr ⟨by rfl, rfl⟩) (by assumption) ?_
          try simp only [Act.put, List.setIfInBounds_toArray, List.set_cons_zero, List.set_cons_succ, List.getElem_toArray, List.getElem_cons_zero, List.getElem_cons_succ]
          refine wpAnyH_take (i := 16) (oi := _) (v := undef) rfl (by kernel_rfl) (by kernel_rfl) (by kernel_rfl) (fun _ _ _ h => h) (Or.inr ⟨by rfl, rfl⟩) (by assumption) ?_
          try simp only [Act.put, List.setIfInBounds_toArray, List.set_cons_zero, List.set_cons_succ, List.getElem_toArray, List.getElem_cons_zero, List.getElem_cons_succ]
          refine wpAnyH_take (i := 17) (oi := _) (v := undef) rfl (by kernel_rfl) (by kernel_rfl) (by kernel_rfl) (fun _ _ _ h => h) (Or.inr ⟨by rfl, rfl⟩) (by assumption) ?_
          try simp only [Act.put, List.setIfInBounds_toArray, List.set_cons_zero, List.set_cons_succ, List.getElem_toArray, List.getElem_cons_zero, List.getElem_cons_succ]
          refine wpAnyH_take (i := 18) (oi := _) (v := undef) rfl (by kernel_rfl) (by kernel_rfl) (by kernel_rfl) (fun _ _ _ h => h) (Or.inr ⟨by rfl, rfl⟩) (by assumption) ?_
          try simp only [Act.put, List.setIfInBounds_toArray, List.set_cons_zero, List.set_cons_succ, List.getElem_toArray, List.getElem_cons_zero, List.getElem_cons_succ]
          refine wpAnyH_take (i := 19) (oi := _) (v := undef) rfl (by kernel_rfl) (by kernel_rfl) (by kernel_rfl) (fun _ _ _ h => h) (Or.inr ⟨by rfl, rfl⟩) (by assumption) ?_
          try simp only [Act.put, List.setIfInBounds_toArray, List.set_cons_zero, List.set_cons_succ, List.getElem_toArray, List.getElem_cons_zero, List.getElem_cons_succ]
          refine wpAnyH_take (i := 20) (oi := _) (v := undef) rfl (by kernel_rfl) (by kernel_rfl) (by kernel_rfl) (fun _ _ _ h => h) (Or.inr ⟨by rfl, rfl⟩) (by assumption) ?_
          try simp only [Act.put, List.setIfInBounds_toArray, List.set_cons_zero, List.set_cons_succ, List.getElem_toArray, List.getElem_cons_zero, List.getElem_cons_succ]
          refine wpAnyH_take (i := 21) (oi := _) (v := undef) rfl (by kernel_rfl) (by kernel_rfl) (by kernel_rfl) (fun _ _ _ h => h) (Or.inr ⟨by rfl, rfl⟩) (by assumption) ?_
          try simp only [Act.put, List.setIfInBounds_toArray, List.set_cons_zero, List.set_cons_succ, List.getElem_toArray, List.getElem_cons_zero, List.getElem_cons_succ]
          refine wpAnyH_take (i := 22) (oi := _) (v := ?_) rfl (by kernel_rfl) (by kernel_rfl) (by kernel_rfl) (fun _ _ _ h => h) (Or.inl ⟨by rfl, ?_⟩) (by assumption) ?_
          rotate_left
          · (intro w' hSw; (try dsimp only at hSw); go_simp; try with_reducible rfl)
          try simp only [Act.put, List.setIfInBounds_toArray, List.set_cons_zero, List.set_cons_succ, List.getElem_toArray, List.getElem_cons_zero, List.getElem_cons_succ]
          refine wpAnyH_take (i := 23) (oi := _) (v := ?_) rfl (by kernel_rfl) (by kernel_rfl) (by kernel_rfl) (fun _ _ _ h => h) (Or.inl ⟨by rfl, ?_⟩) (by assumption) ?_
          rotate_left
          · (intro w' hSw; (try dsimp only at hSw); go_simp; try with_reducible rfl)
          try simp only [Act.put, List.setIfInBounds_toArray, List.set_cons_zero, List.set_cons_succ, List.getElem_toArray, List.getElem_cons_zero, List.getElem_cons_succ]
          refine wpAnyH_done (by kernel_rfl) ?_ _
          have BO10 := Lib.hid (below_seq BO.out (below_seq (drew_below _) hb10))
          go_wp2
          go_roundw
          case rel => exact ⟨1, by omega, rfl, BO10.out⟩
          case measure => simp [intOf]; omega
        · have hjr : j < ALL.length := by omega
          obtain ⟨b7, o7, a7, cap7, e7, hc7, hx7⟩ := S9.out j hjr
          cases e7
          rw [(HROW.out j hjr).1] at hc7
          have hnl : m = (ALL.getD j []).length := (HROW.out j hjr).1.symm
          have hbf := HSORT.out j hkr
          obtain ⟨M, hM⟩ : ∃ M, M = ALL.getD (j + 1) [] := ⟨_, rfl⟩
          obtain ⟨K, hK⟩ : ∃ K, K = ALL.getD j [] := ⟨_, rfl⟩
          rw [← hM] at hml htk hx6 hbf
          rw [← hK] at hnl hx7 hbf
          have HX6 := Lib.hid hx6; clear hx6
          have HX7 := Lib.hid hx7; clear hx7
          have HML := Lib.hid hml; clear hml
          have HNL := Lib.hid hnl; clear hnl
          have HTK := Lib.hid htk; clear htk
          have HBF := Lib.hid hbf; clear hbf
          clear hM hK hkr hjr
          obtain ⟨k, hkj⟩ : ∃ k, k = j + 1 := ⟨_, rfl⟩
          rw [← hkj] at hc6 hlt hk e1 e0 ⊢
          have e2 : (0 : Int) < k := by omega
          have e2n : 0 < k := by omega
          have e2' : decide (0 < k) = true := by simpa using e2n
          have e3 : IntKind.i64.wrap ((k : Int) - 1) = (j : Int) := by rw [IntWalk.i64_in _ (by omega)]; omega
          have e4 : (j : Int) < z := by omega
          have e5 : (0 : Int) ≤ j := by omega
          clear hkj
          go_wp2_with fail
          have prd9 : wo.drew.heap[w1.heap.size]? = some (.cells #[.int .i64 Wn, .int .i64 Tn, .slice a m c] 28 (0, 0)) := pr9
          have Ad9 : Hid (BoolsAt wo.drew a xs) := A9
          have bd9 : Below w.heap.size w wo.drew := below_seq b9 (drew_below _)
          have d6 : wo.drew.cell? ⟨b6, o6 + k, none⟩ = some (.slice a6 m cap6) := hc6
          have d7 : wo.drew.cell? ⟨b6, o6 + j, none⟩ = some (.slice a7 m cap7) := hc7
          go_region_held3 (fun w' => w'.cell? ⟨w1.heap.size, 0, none⟩ = some (.int .i64 Wn) ∧ w'.cell? ⟨w1.heap.size, 1, none⟩ = some (.int .i64 Tn) ∧ w'.cell? ⟨w1.heap.size, 2, none⟩ = some (.slice a m c) ∧ w'.cell? ⟨b6, o6 + k, none⟩ = some (.slice a6 m cap6) ∧ w'.cell? ⟨b6, o6 + j, none⟩ = some (.slice a7 m cap7))
            (go_keep)
            (first
              | (go_at_call 47; refine (before_yes _ _ _ _ _ _ K M _ HNL.out HML.out hm1 hm1 (IntsAt.below (show IntsAt wo.drew _ _ from HX7.out) hb10) (IntsAt.below (show IntsAt wo.drew _ _ from HX6.out) hb10) HBF.out).mono ?_; rintro e w11 ⟨rfl, hb11⟩; have b11 := below_seq b10 hb11; have pr11 := heap_later pr10 hb11; have A11 := Lib.hid (A10.out.below hb11); clear cr100 cr101 cr102 lr10; obtain ⟨cr110, cr111, cr112⟩ := cells3 pr11; have lr11 := heap_lt pr11; have g6 := cell_later hb11 f6; have g7 := cell_later hb11 f7)
              | (go_at_call 33; refine (iTilingOk_any _ _ _ _ _ xs _ _ _ M _ HM.out hm1 HML.out hm1 Ad9.out (show IntsAt wo.drew _ _ from HX6.out)).mono ?_; rintro e w10 ⟨rfl, hb10⟩; rw [HTK.out]; have b10 := below_seq bd9 hb10; have pr10 := heap_later prd9 hb10; have A10 := Lib.hid (Ad9.out.below hb10); clear cr90 cr91 cr92 lr9; obtain ⟨cr100, cr101, cr102⟩ := cells3 pr10; have lr10 := heap_lt pr10; have f6 := cell_later hb10 d6; have f7 := cell_later hb10 d7))
          have BO11 := Lib.hid (below_seq BO.out (below_seq (drew_below _) (below_seq hb10 hb11)))
          clear e3
          go_wp2
          go_roundw
          case rel => exact ⟨k + 1, by omega, by go_num, BO11.out⟩
          case measure => simp [intOf]; omega
      · obtain rfl : k = z := by omega
        go_wp2_with fail
        refine (iRegionTurn_yes Wn Tn _ _ _ xs _ HM.out hm1 A9.out HRV.out HMW.out).mono ?_; rintro e w10 ⟨g10, rfl, ho10, hb10⟩
        rw [← HZ1.out] at ho10
        have b10 := below_seq b9 hb10
        have pr10 := heap_later pr9 hb10
        have A10 := Lib.hid (A9.out.below hb10)
        have B10 := Lib.hid (OwnsB.at ho10)
        clear cr90 cr91 cr92 lr9
        obtain ⟨cr100, cr101, cr102⟩ := cells3 pr10
        have lr10 := heap_lt pr10
        clear ho10
        go_wp2_with fail
        refine (iTilingsAll_ret _ _ _ _ _ Z1 _ HT1.out hm1 B10.out).mono ?_; rintro e w11 ⟨a11, cap11, rfl, -, hb11⟩
        rw [HZT.out]
        have b11 := below_seq b10 hb11
        have pr11 := heap_later pr10 hb11
        have A11 := Lib.hid (A10.out.below hb11)
        have B11 := Lib.hid (B10.out.below hb11)
        clear cr100 cr101 cr102 lr10
        obtain ⟨cr110, cr111, cr112⟩ := cells3 pr11
        have lr11 := heap_lt pr11
        go_wp2_with fail
        refine (iRegionFlip_yes Wn Tn _ _ _ xs _ HM.out hm1 A11.out HRV.out HMW.out).mono ?_; rintro e w12 ⟨g12, rfl, ho12, hb12⟩
        rw [← HZ2.out] at ho12
        have b12 := below_seq b11 hb12
        have pr12 := heap_later pr11 hb12
        have A12 := Lib.hid (A11.out.below hb12)
        have C12 := Lib.hid (OwnsB.at ho12)
        clear cr110 cr111 cr112 lr11
        obtain ⟨cr120, cr121, cr122⟩ := cells3 pr12
        have lr12 := heap_lt pr12
        clear ho12
        go_wp2_with fail
        refine (iTilingsAll_ret _ _ _ _ _ Z2 _ HF1.out hm1 C12.out).mono ?_; rintro e w13 ⟨a13, cap13, rfl, -, hb13⟩
        rw [HZF.out]
        have b13 := below_seq b12 hb13
        have pr13 := heap_later pr12 hb13
        have A13 := Lib.hid (A12.out.below hb13)
        have C13 := Lib.hid (C12.out.below hb13)
        clear cr120 cr121 cr122 lr12
        obtain ⟨cr130, cr131, cr132⟩ := cells3 pr13
        have lr13 := heap_lt pr13
        go_wp2
        go_ret
        exact ⟨rfl, b13⟩

end Go.Proofs.Ytlnnoeojgdeagaa
