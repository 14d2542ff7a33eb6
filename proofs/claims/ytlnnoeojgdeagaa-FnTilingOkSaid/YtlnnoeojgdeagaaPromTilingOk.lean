/- The law FnTilingOk: its walk. -/
import Derived.Test.YtlnnoeojgdeagaaDrawL2
import Derived.Test.YtlnnoeojgdeagaaSame
import Derived.Test.YtlnnoeojgdeagaaAllI
import Derived.Test.YtlnnoeojgdeagaaLaidN
import Derived.Test.YtlnnoeojgdeagaaDark
namespace Go.Proofs.Ytlnnoeojgdeagaa
open Go.RowKit
set_option linter.unusedVariables false
set_option maxRecDepth 100000
set_option linter.unusedSimpArgs false

set_option maxHeartbeats 4000000 in
theorem promTilingOk_walk (cb : Option Addr) (n cap : Nat) (zs : List Int) (w : World) (hn : n = zs.length) (hn' : n ≤ maxLen) (hcap : n ≤ cap) (hb : BytesAt w cb zs) :
    Calls Try.prog 6 #[.slice cb n cap] w fun e w' => e = .returned (.bool true) ∧ Below w.heap.size w w' := by
  have HN := Lib.hid hn; clear hn
  have HB := Lib.hid hb; clear hb
  by_cases hbig : 1048576 < n
  · unfold maxLen at hn'
    go_enter Try.func6, Try.ntmps6
    go_wp2
    go_ret
    exact ⟨rfl, Below.refl _ _⟩
  have hsm : n ≤ 1048576 := by omega
  clear hbig hn'
  go_enter Try.func6, Try.ntmps6
  go_wp2_with fail
  refine (drawTilingOk_any _ _ _ zs _ HN.out hsm hcap HB.out).mono ?_; rintro e w1 ⟨W0, T0, a, m, c, xs, la, q, lcap, L, rfl, hm, h36, hs, ho, hq, hq36, hi, b1⟩
  have HM := Lib.hid hm; clear hm
  have HQ := Lib.hid hq; clear hq
  have A1 := Lib.hid (OwnsB.at ho); clear ho
  have I1 := Lib.hid (OwnsI.at hi); clear hi
  obtain ⟨s0, s1, s2, s3⟩ := hs
  obtain ⟨ALL, hALL⟩ : ∃ ALL, ALL = allF W0 T0 xs := ⟨_, rfl⟩
  obtain ⟨z, hz⟩ : ∃ z, z = ALL.length := ⟨_, rfl⟩
  have hz4 : z ≤ 4096 := by rw [hz, hALL]; exact allF_count _ _ _
  have HCOL : Hid (∀ i, i < ALL.length → (ALL.getD i []).length ≤ 1048576) := by rw [hALL]; exact allF_col _ _ _
  have HALL := Lib.hid hALL; clear hALL
  have HZ := Lib.hid hz; clear hz
  obtain ⟨ok, hok⟩ : ∃ ok, tok W0 T0 xs L = ok := ⟨_, rfl⟩
  have HOK := Lib.hid hok; clear hok
  have hbb : (ok != ok) = false := by simp
  go_wp2_with fail
  refine (iTilingOk_any _ _ _ _ _ xs _ _ _ L _ HM.out (by omega) HQ.out (by omega) (A1.out.one _) (I1.out.one _)).mono ?_; rintro e w2 ⟨rfl, hb2⟩
  rw [HOK.out]
  have b2 := below_seq (below_seq b1 (below1 _ _)) hb2
  have pr2 := heap_later (heap_new w1 (.cells #[.int .i64 W0, .int .i64 T0, .slice a m c] 28)) hb2
  have A2 := Lib.hid ((A1.out.one (.cells #[.int .i64 W0, .int .i64 T0, .slice a m c] 28)).below hb2)
  have I2 := Lib.hid ((I1.out.one (.cells #[.int .i64 W0, .int .i64 T0, .slice a m c] 28)).below hb2)
  obtain ⟨cr20, cr21, cr22⟩ := cells3 pr2
  have lr2 := heap_lt pr2
  go_wp2_with fail
  refine (sTilingOk_any _ _ _ _ _ xs _ _ _ L _ HM.out (by omega) HQ.out (by omega) A2.out I2.out).mono ?_; rintro e w3 ⟨rfl, hb3⟩
  rw [HOK.out]
  have b3 := below_seq b2 hb3
  have pr3 := heap_later pr2 hb3
  have A3 := Lib.hid (A2.out.below hb3)
  have I3 := Lib.hid (I2.out.below hb3)
  clear cr20 cr21 cr22 lr2
  obtain ⟨cr30, cr31, cr32⟩ := cells3 pr3
  have lr3 := heap_lt pr3
  cases ok
  · go_wp2_with fail
    refine (alive_any _).mono ?_; rintro e w6 ⟨rfl, hb6⟩
    go_wp2
    go_ret
    exact ⟨rfl, below_seq b3 hb6⟩
  · have hl := tok_lokP HOK.out
    obtain ⟨Wn, Tn, rfl, rfl, hLl⟩ := lok_nat hl
    obtain ⟨hr, v1, v2, v3, v4, v5, v6⟩ := lok_parts hl
    have hqm : q = m := by rw [HQ.out, HM.out, v6, v5]
    have HBAL : Hid (bal Wn Tn xs = true) := tok_bal HOK.out
    obtain ⟨C, hC⟩ : ∃ C, C = cnt xs := ⟨_, rfl⟩
    have hc24 : C ≤ 24 := by rw [hC]; exact (rv_parts.1 hr).2.2.2.2.2
    have HMC : Hid (many Wn Tn xs = (C : Int)) := by show _ = _; unfold many; rw [hr, hC]; rfl
    obtain ⟨N, hN⟩ : ∃ N, N = laidN Wn Tn xs L := ⟨_, rfl⟩
    have hNC : 2 * N = C := by rw [hN, hC]; exact tok_twice HOK.out
    have HLN : Hid (laidN Wn Tn xs L = N) := hN.symm
    have HMEM : Hid (L ∈ ALL) := by show _ ∈ _; rw [HALL.out]; exact mem_allF HOK.out
    have HROW : Hid (∀ i, i < ALL.length → (ALL.getD i []).length = q) := fun i hi => by
      rw [HALL.out] at hi ⊢
      rw [(allF_row hi).1, hqm, HM.out]
    clear hl hLl hr v1 v2 v3 v4 v5 v6 hqm hC hN
    have hw2 : IntKind.i64.wrap (2 * N) = 2 * N := IntWalk.i64_in _ (by omega)
    have hNb : ((2 * N : Int) == C) = true := by simpa using hNC
    have hwC : IntKind.i64.wrap (C : Int) = C := IntWalk.i64_in _ (by omega)
    have hCb : ((C : Int) == C) = true := by simp
    go_wp2_with fail
    refine (iTilingsAll_ret _ _ _ _ _ xs _ HM.out (by omega) A3.out).mono ?_; rintro e w4 ⟨a4, cap4, rfl, ho4, hb4⟩
    rw [← HALL.out] at ho4 ⊢
    rw [← HZ.out] at ho4 ⊢
    have b4 := below_seq b3 hb4
    have pr4 := heap_later pr3 hb4
    have A4 := Lib.hid (A3.out.below hb4)
    have I4 := Lib.hid (I3.out.below hb4)
    have S4 := Lib.hid (OwnsSS.at ho4)
    clear cr30 cr31 cr32 lr3
    obtain ⟨cr40, cr41, cr42⟩ := cells3 pr4
    have lr4 := heap_lt pr4
    clear ho4
    go_wp2
    go_loopw [7, 8] (fun sv i wr => ∃ k : Nat, k ≤ z ∧ i = .int .i64 k ∧ sv = .bool ((List.range k).any fun j => decide (ALL.getD j [] = L)) ∧ Below w4.heap.size w4 wr) (fun _ i _ => z - (intOf i).toNat)
    case atStart => exact ⟨0, Nat.zero_le _, rfl, rfl, Below.refl _ _⟩
    case round =>
      rename World => wo
      clear cr40 cr41 cr42 lr4
      obtain ⟨k, hk, rfl, rfl, bo⟩ := hrel
      have BO := Lib.hid bo; clear bo
      obtain ⟨sm, hsm0⟩ : ∃ sm, (List.range k).any (fun j => decide (ALL.getD j [] = L)) = sm := ⟨_, rfl⟩
      rw [hsm0]
      by_cases hlt : k < z
      · have hkr : k < ALL.length := by rw [← HZ.out]; exact hlt
        obtain ⟨d, hd⟩ : ∃ d, decide (ALL.getD k [] = L) = d := ⟨_, rfl⟩
        have HS : Hid ((List.range (k + 1)).any (fun j => decide (ALL.getD j [] = L)) = (sm || d)) := by show _ = _; rw [List.range_succ, List.any_append, hsm0]; show (sm || (decide (ALL.getD k [] = L) || false)) = _; rw [hd, Bool.or_false]
        have e1 : (k : Int) < z := by omega
        have e0 : (0 : Int) ≤ k := by omega
        clear hsm0
        cases sm
        · obtain ⟨b6, o6, a6, cap6, rfl, hc6, hx6⟩ := (S4.out.below BO.out) k hkr
          rw [HROW.out k hkr] at hc6
          have hml : q = (ALL.getD k []).length := (HROW.out k hkr).symm
          obtain ⟨M, hM⟩ : ∃ M, M = ALL.getD k [] := ⟨_, rfl⟩
          rw [← hM] at hd hml hx6
          have HX6 := Lib.hid hx6; clear hx6
          have HML := Lib.hid hml; clear hml
          have HD := Lib.hid hd; clear hd
          clear hM hkr
          go_wp2_with fail
          refine (sameInts_any _ _ _ _ _ M L _ HML.out HQ.out (by omega) HX6.out (I4.out.below BO.out)).mono ?_; rintro e w5 ⟨rfl, hb5⟩
          rw [HD.out]
          have B5 := Lib.hid (below_seq BO.out hb5); clear hb5
          go_wp2
          go_roundw
          case rel => exact ⟨k + 1, by omega, by go_num, by rw [HS.out]; cases d <;> rfl, B5.out⟩
          case measure => simp [intOf]; omega
        · clear hd hkr
          go_wp2
          go_roundw
          case rel => exact ⟨k + 1, by omega, by go_num, by rw [HS.out]; rfl, BO.out⟩
          case measure => simp [intOf]; omega
      · obtain rfl : k = z := by omega
        have hst : sm = true := by
          rw [← hsm0, List.any_eq_true]
          obtain ⟨i, hi, he⟩ := List.mem_iff_getElem.1 HMEM.out
          exact ⟨i, List.mem_range.2 (by rw [HZ.out]; exact hi), by show decide (ALL.getD i [] = L) = true; rw [show ALL.getD i [] = L from by rw [← he]; simp [List.getD, hi]]; exact decide_eq_true rfl⟩
        subst hst
        clear hsm0
        have b5 := below_seq b4 BO.out
        have pr5 := heap_later pr4 BO.out
        have A5 := Lib.hid (A4.out.below BO.out)
        have I5 := Lib.hid (I4.out.below BO.out)
        obtain ⟨cr50, cr51, cr52⟩ := cells3 pr5
        have lr5 := heap_lt pr5
        go_wp2_with fail
        have prd5 : wo.drew.heap[w1.heap.size]? = some (.cells #[.int .i64 Wn, .int .i64 Tn, .slice a m c] 28 (0, 0)) := pr5
        have Ad5 : Hid (BoolsAt wo.drew a xs) := A5
        have Id5 : Hid (IntsAt wo.drew la L) := I5
        have bd5 : Below w.heap.size w wo.drew := below_seq b5 (drew_below _)
        go_region_held3 (fun w' => w'.cell? ⟨w1.heap.size, 0, none⟩ = some (.int .i64 Wn) ∧ w'.cell? ⟨w1.heap.size, 1, none⟩ = some (.int .i64 Tn) ∧ w'.cell? ⟨w1.heap.size, 2, none⟩ = some (.slice a m c))
          (go_keep)
          (first
            | (go_at_call 39; refine (iCellsMany_any _ _ _ _ _ xs _ HM.out (by omega) A7.out).mono ?_; rintro e w8 ⟨rfl, hb8⟩; rw [HMC.out]; have b8 := below_seq b7 hb8; have pr8 := heap_later pr7 hb8; have A8 := Lib.hid (A7.out.below hb8); have I8 := Lib.hid (I7.out.below hb8); obtain ⟨cr80, cr81, cr82⟩ := cells3 pr8; have lr8 := heap_lt pr8)
            | (go_at_call 38; refine (iLaidMany_any _ _ _ _ _ xs _ _ _ L _ HM.out (by omega) HQ.out (by omega) A6.out I6.out).mono ?_; rintro e w7 ⟨rfl, hb7⟩; rw [HLN.out]; have b7 := below_seq b6 hb7; have pr7 := heap_later pr6 hb7; have A7 := Lib.hid (A6.out.below hb7); have I7 := Lib.hid (I6.out.below hb7); obtain ⟨cr70, cr71, cr72⟩ := cells3 pr7; have lr7 := heap_lt pr7)
            | (go_at_call 37; refine (iBalanced_any _ _ _ _ _ xs _ HM.out (by omega) Ad5.out).mono ?_; rintro e w6 ⟨rfl, hb6⟩; rw [HBAL.out]; have b6 := below_seq bd5 hb6; have pr6 := heap_later prd5 hb6; have A6 := Lib.hid (Ad5.out.below hb6); have I6 := Lib.hid (Id5.out.below hb6); obtain ⟨cr60, cr61, cr62⟩ := cells3 pr6; have lr6 := heap_lt pr6))
        go_wp2
        go_ret
        exact ⟨rfl, b8⟩

end Go.Proofs.Ytlnnoeojgdeagaa
