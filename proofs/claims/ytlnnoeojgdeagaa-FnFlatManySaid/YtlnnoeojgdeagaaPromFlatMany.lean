/- The law FnFlatMany: its walk. -/
import Derived.Test.YtlnnoeojgdeagaaDrawL2
import Derived.Test.YtlnnoeojgdeagaaSame
import Derived.Test.YtlnnoeojgdeagaaAllI
import Derived.Test.YtlnnoeojgdeagaaLaidN
import Derived.Test.YtlnnoeojgdeagaaTurnRet
namespace Go.Proofs.Ytlnnoeojgdeagaa
open Go.RowKit
set_option linter.unusedVariables false
set_option maxRecDepth 100000
set_option linter.unusedSimpArgs false
theorem turnLF_yes {W T : Nat} {xs : List Bool} {L : List Int} (h : lok W T xs L = true) : turnLF W T xs L = turnedI W T L := by unfold turnLF; rw [if_pos h]; rfl

set_option maxHeartbeats 4000000 in
theorem promFlatMany_walk (cb : Option Addr) (n cap : Nat) (zs : List Int) (w : World) (hn : n = zs.length) (hn' : n ≤ maxLen) (hcap : n ≤ cap) (hb : BytesAt w cb zs) :
    Calls Try.prog 7 #[.slice cb n cap] w fun e w' => e = .returned (.bool true) ∧ Below w.heap.size w w' := by
  have HN := Lib.hid hn; clear hn
  have HB := Lib.hid hb; clear hb
  by_cases hbig : 1048576 < n
  · unfold maxLen at hn'
    go_enter Try.func7, Try.ntmps7
    go_wp2
    go_ret
    exact ⟨rfl, Below.refl _ _⟩
  have hsm : n ≤ 1048576 := by omega
  clear hbig hn'
  go_enter Try.func7, Try.ntmps7
  go_wp2_with fail
  refine (drawFlatMany_any _ _ _ zs _ HN.out hsm hcap HB.out).mono ?_; rintro e w1 ⟨W0, T0, a, m, c, xs, la, q, lcap, L, rfl, hm, h36, hs, ho, hq, hq36, hi, b1⟩
  have HM := Lib.hid hm; clear hm
  have HQ := Lib.hid hq; clear hq
  have A1 := Lib.hid (OwnsB.at ho); clear ho
  have I1 := Lib.hid (OwnsI.at hi); clear hi
  obtain ⟨s0, s1, s2, s3⟩ := hs
  obtain ⟨ALL, hALL⟩ : ∃ ALL, ALL = allF W0 T0 xs := ⟨_, rfl⟩
  obtain ⟨z, hz⟩ : ∃ z, z = ALL.length := ⟨_, rfl⟩
  have hz4 : z ≤ 4096 := by rw [hz, hALL]; exact allF_count _ _ _
  have HCOL : Hid (∀ i, i < ALL.length → (ALL.getD i []).length ≤ 1048576) := by rw [hALL]; exact allF_col _ _ _
  have HALL := Lib.hid hALL; clear hALL
  have HZ := Lib.hid hz; clear hz
  obtain ⟨F, hF⟩ : ∃ F, flatN W0 T0 xs L = F := ⟨_, rfl⟩
  have HF := Lib.hid hF; clear hF
  have hbb : (F != F) = false := by simp
  go_wp2_with fail
  refine (iFlatMany_any _ _ _ _ _ xs _ _ _ L _ HM.out (by omega) HQ.out (by omega) (A1.out.one _) (I1.out.one _)).mono ?_; rintro e w2 ⟨rfl, hb2⟩
  rw [HF.out]
  have b2 := below_seq (below_seq b1 (below1 _ _)) hb2
  have pr2 := heap_later (heap_new w1 (.cells #[.int .i64 W0, .int .i64 T0, .slice a m c] 28)) hb2
  have A2 := Lib.hid ((A1.out.one (.cells #[.int .i64 W0, .int .i64 T0, .slice a m c] 28)).below hb2)
  have I2 := Lib.hid ((I1.out.one (.cells #[.int .i64 W0, .int .i64 T0, .slice a m c] 28)).below hb2)
  obtain ⟨cr20, cr21, cr22⟩ := cells3 pr2
  have lr2 := heap_lt pr2
  go_wp2_with fail
  refine (sFlatMany_any _ _ _ _ _ xs _ _ _ L _ HM.out (by omega) HQ.out (by omega) A2.out I2.out).mono ?_; rintro e w3 ⟨rfl, hb3⟩
  rw [HF.out]
  have b3 := below_seq b2 hb3
  have pr3 := heap_later pr2 hb3
  have A3 := Lib.hid (A2.out.below hb3)
  have I3 := Lib.hid (I2.out.below hb3)
  clear cr20 cr21 cr22 lr2
  obtain ⟨cr30, cr31, cr32⟩ := cells3 pr3
  have lr3 := heap_lt pr3
  cases h : lok W0 T0 xs L
  · have hf1 : F = -1 := by rw [← HF.out]; unfold flatN; rw [h]; rfl
    subst hf1
    clear h
    go_wp2_with fail
    refine (alive_any _).mono ?_; rintro e w6 ⟨rfl, hb6⟩
    go_wp2
    go_ret
    exact ⟨rfl, below_seq b3 hb6⟩
  · obtain ⟨Wn, Tn, rfl, rfl, hLl⟩ := lok_nat h
    obtain ⟨hr, v1, v2, v3, v4, v5, v6⟩ := lok_parts h
    have hmW : m = Wn * Tn := by rw [HM.out]; exact v5
    have hqm : q = m := by rw [HQ.out, v6, hmW]
    subst hqm
    have HMW := Lib.hid hmW; clear hmW
    have HMT : Hid (q = Tn * Wn) := by show q = _; rw [HMW.out, Nat.mul_comm]
    obtain ⟨X, hX⟩ : ∃ X, X = turnedI Wn Tn L := ⟨_, rfl⟩
    obtain ⟨Z1, hZ1⟩ : ∃ Z1, Z1 = turned Wn Tn xs := ⟨_, rfl⟩
    have HX : Hid (q = X.length) := by show q = _; rw [hX, turnedI_len]; exact HMW.out
    have HT1 : Hid (q = Z1.length) := by show q = _; rw [hZ1, turned_len]; exact HMW.out
    have E1 : Hid (turnLF Wn Tn xs L = X) := by show _ = _; rw [turnLF_yes h, hX]
    have hF0 : 0 ≤ F := by rw [← HF.out]; unfold flatN; rw [if_pos h]; omega
    have hF36 : F ≤ 36 := by rw [← HF.out]; unfold flatN; rw [if_pos h]; have := wayN_le L 1 L.length; have := HQ.out; omega
    obtain ⟨N, hN⟩ : ∃ N, N = laidN Wn Tn xs L := ⟨_, rfl⟩
    obtain ⟨G, hG⟩ : ∃ G, flatN Tn Wn Z1 X = G := ⟨_, rfl⟩
    have hGF : G + F = N := by rw [← hG, ← HF.out, hN, hX, hZ1]; exact flat_turned h
    have HG := Lib.hid hG; clear hG
    have hG0 : 0 ≤ G := by rw [← HG.out, hX, hZ1]; unfold flatN; rw [if_pos (lok_turned h)]; omega
    have hG36 : G ≤ 36 := by rw [← HG.out]; unfold flatN; split <;> (have := wayN_le X 1 X.length; have := HX.out; omega)
    have HLN : Hid (laidN Wn Tn xs L = N) := hN.symm
    have HZ1 := Lib.hid hZ1
    have HRV := Lib.hid hr
    have HFE : Hid (∀ M, tok Wn Tn xs L = true → tok Wn Tn xs M = true → 0 ≤ flatN Wn Tn xs M ∧ flatN Wn Tn xs M ≤ q ∧ (flatN Wn Tn xs M - F) % 2 = 0) := fun M hL hM => by
      have h1 := flat_even hL hM
      rw [HF.out] at h1
      refine ⟨?_, ?_, h1⟩
      · unfold flatN; rw [if_pos (tok_lokP hM)]; omega
      · unfold flatN; rw [if_pos (tok_lokP hM)]
        have := wayN_le M 1 M.length
        obtain ⟨_, hl, _⟩ := lok_rv (tok_lokP hM)
        have := HM.out
        omega
    have HROW : Hid (∀ i, i < ALL.length → (ALL.getD i []).length = q ∧ tok Wn Tn xs (ALL.getD i []) = true) := fun i hi => by
      rw [HALL.out] at hi ⊢
      rw [HM.out]
      exact allF_row hi
    obtain ⟨ok, hok⟩ : ∃ ok, tok Wn Tn xs L = ok := ⟨_, rfl⟩
    have HOK := Lib.hid hok; clear hok
    clear h hLl hr v5 v6 hX hZ1 hN v1 v2 v3 v4
    have hm1 : q ≤ 1048576 := by omega
    have hNN : (N != N) = false := by simp
    have hwG : IntKind.i64.wrap (G + F) = G + F := IntWalk.i64_in _ (by omega)
    have hwN : IntKind.i64.wrap N = N := by rw [← hGF]; exact hwG
    have hGN : (G + F != N) = false := by rw [hGF]; simp
    go_wp2_with fail
    have prd3 : w3.drew.heap[w1.heap.size]? = some (.cells #[.int .i64 Wn, .int .i64 Tn, .slice a q c] 28 (0, 0)) := pr3
    have Ad3 : Hid (BoolsAt w3.drew a xs) := A3
    have Id3 : Hid (IntsAt w3.drew la L) := I3
    have bd3 : Below w.heap.size w w3.drew := below_seq b3 (drew_below _)
    go_region_held3 (fun w' => w'.cell? ⟨w1.heap.size, 0, none⟩ = some (.int .i64 Wn) ∧ w'.cell? ⟨w1.heap.size, 1, none⟩ = some (.int .i64 Tn) ∧ w'.cell? ⟨w1.heap.size, 2, none⟩ = some (.slice a q c))
      (go_keep)
      (first
        | (go_at_call 41; refine (iFlatMany_any _ _ _ _ _ Z1 _ _ _ X _ HT1.out hm1 HX.out hm1 B5.out X5.out).mono ?_; rintro e w6 ⟨rfl, hb6⟩; rw [HG.out]; have b6 := below_seq b5 hb6; have pr6 := heap_later pr5 hb6; have A6 := Lib.hid (A5.out.below hb6); have I6 := Lib.hid (I5.out.below hb6); have B6 := Lib.hid (B5.out.below hb6); have X6 := Lib.hid (X5.out.below hb6); obtain ⟨cr60, cr61, cr62⟩ := cells3 pr6; have lr6 := heap_lt pr6)
        | (go_at_call 44; refine (iTilingTurn_ret Wn Tn _ _ _ xs _ _ _ L _ HM.out hm1 HQ.out hm1 A4.out I4.out).mono ?_; rintro e w5 ⟨a5, cap5, rfl, ho5, hb5⟩; rw [E1.out] at ho5 ⊢; rw [← HX.out] at ho5 ⊢; have b5 := below_seq b4 hb5; have pr5 := heap_later pr4 hb5; have A5 := Lib.hid (A4.out.below hb5); have I5 := Lib.hid (I4.out.below hb5); have B5 := Lib.hid (B4.out.below hb5); have X5 := Lib.hid (OwnsI.at ho5); obtain ⟨cr50, cr51, cr52⟩ := cells3 pr5; have lr5 := heap_lt pr5)
        | (go_at_call 43; refine (iRegionTurn_yes Wn Tn _ _ _ xs _ HM.out hm1 Ad3.out HRV.out HMW.out).mono ?_; rintro e w4 ⟨g4, rfl, ho4, hb4⟩; rw [← HZ1.out] at ho4; have b4 := below_seq bd3 hb4; have pr4 := heap_later prd3 hb4; have A4 := Lib.hid (Ad3.out.below hb4); have I4 := Lib.hid (Id3.out.below hb4); have B4 := Lib.hid (OwnsB.at ho4); obtain ⟨cr40, cr41, cr42⟩ := cells3 pr4; have lr4 := heap_lt pr4))
    go_wp2_with fail
    refine (iLaidMany_any _ _ _ _ _ xs _ _ _ L _ HM.out hm1 HQ.out hm1 A6.out I6.out).mono ?_; rintro e w7 ⟨rfl, hb7⟩
    rw [HLN.out]
    have b7 := below_seq b6 hb7
    have pr7 := heap_later pr6 hb7
    have A7 := Lib.hid (A6.out.below hb7)
    have I7 := Lib.hid (I6.out.below hb7)
    clear cr60 cr61 cr62 lr6
    obtain ⟨cr70, cr71, cr72⟩ := cells3 pr7
    have lr7 := heap_lt pr7
    go_wp2_with fail
    refine (iTilingsAll_ret _ _ _ _ _ xs _ HM.out hm1 A7.out).mono ?_; rintro e w8 ⟨a8, cap8, rfl, ho8, hb8⟩
    rw [← HALL.out] at ho8 ⊢
    rw [← HZ.out] at ho8 ⊢
    have b8 := below_seq b7 hb8
    have pr8 := heap_later pr7 hb8
    have A8 := Lib.hid (A7.out.below hb8)
    have I8 := Lib.hid (I7.out.below hb8)
    have S8 := Lib.hid (OwnsSS.at ho8)
    clear cr70 cr71 cr72 lr7
    obtain ⟨cr80, cr81, cr82⟩ := cells3 pr8
    have lr8 := heap_lt pr8
    clear ho8 hGF hwG hwN hGN
    go_wp2
    go_loopw [8] (fun i wr => ∃ k : Nat, k ≤ z ∧ i = .int .i64 k ∧ Below w8.heap.size w8 wr) (fun i _ => z - (intOf i).toNat)
    case atStart => exact ⟨0, Nat.zero_le _, rfl, Below.refl _ _⟩
    case round =>
      rename World => wo
      clear cr80 cr81 cr82 lr8
      obtain ⟨k, hk, rfl, bo⟩ := hrel
      have b9 := below_seq b8 bo
      have pr9 := heap_later pr8 bo
      have A9 := Lib.hid (A8.out.below bo)
      have I9 := Lib.hid (I8.out.below bo)
      have S9 := Lib.hid (S8.out.below bo)
      have BO := Lib.hid bo; clear bo
      obtain ⟨cr90, cr91, cr92⟩ := cells3 pr9
      have lr9 := heap_lt pr9
      by_cases hlt : k < z
      · have e1 : (k : Int) < z := by omega
        have e0 : (0 : Int) ≤ k := by omega
        go_wp2_with fail
        refine (iTilingOk_any _ _ _ _ _ xs _ _ _ L _ HM.out hm1 HQ.out hm1 A9.out I9.out).mono ?_; rintro e w10 ⟨rfl, hb10⟩
        rw [HOK.out]
        have b10 := below_seq b9 hb10
        have pr10 := heap_later pr9 hb10
        have A10 := Lib.hid (A9.out.below hb10)
        have I10 := Lib.hid (I9.out.below hb10)
        clear cr90 cr91 cr92 lr9
        obtain ⟨cr100, cr101, cr102⟩ := cells3 pr10
        have lr10 := heap_lt pr10
        have S10 := Lib.hid (S9.out.below hb10)
        have BO10 := Lib.hid (below_seq BO.out hb10)
        cases ok
        · go_wp2
          go_ret
          exact ⟨rfl, b10⟩
        · have hkr : k < ALL.length := by rw [← HZ.out]; exact hlt
          obtain ⟨b6, o6, a6, cap6, rfl, hc6, hx6⟩ := S10.out k hkr
          rw [(HROW.out k hkr).1] at hc6
          have hml : q = (ALL.getD k []).length := (HROW.out k hkr).1.symm
          obtain ⟨M, hM⟩ : ∃ M, M = ALL.getD k [] := ⟨_, rfl⟩
          obtain ⟨g0, g36, ge⟩ := HFE.out M HOK.out (by rw [hM]; exact (HROW.out k hkr).2)
          obtain ⟨GM, hGM⟩ : ∃ GM, flatN Wn Tn xs M = GM := ⟨_, rfl⟩
          rw [hGM] at g0 g36 ge
          rw [← hM] at hml hx6
          have HX6 := Lib.hid hx6; clear hx6
          have HML := Lib.hid hml; clear hml
          have HGM := Lib.hid hGM; clear hGM
          have l6 := World.block_lt_of_cell? w10 _ hc6
          simp only at l6
          have hwg : IntKind.i64.wrap (GM - F) = GM - F := IntWalk.i64_in _ (by omega)
          have htg : Int.tmod (GM - F) 2 = 0 := Int.tmod_eq_zero_of_dvd (Int.dvd_of_emod_eq_zero ge)
          clear hM hkr
          go_wp2_with fail
          have prd10 : w10.drew.heap[w1.heap.size]? = some (.cells #[.int .i64 Wn, .int .i64 Tn, .slice a q c] 28 (0, 0)) := pr10
          have Ad10 : Hid (BoolsAt w10.drew a xs) := A10
          have Id10 : Hid (IntsAt w10.drew la L) := I10
          have bd10 : Below w.heap.size w w10.drew := below_seq b10 (drew_below _)
          have d6 : w10.drew.cell? ⟨b6, o6 + k, none⟩ = some (.slice a6 q cap6) := hc6
          go_region_held3 (fun w' => w'.cell? ⟨w1.heap.size, 0, none⟩ = some (.int .i64 Wn) ∧ w'.cell? ⟨w1.heap.size, 1, none⟩ = some (.int .i64 Tn) ∧ w'.cell? ⟨w1.heap.size, 2, none⟩ = some (.slice a q c) ∧ w'.cell? ⟨b6, o6 + k, none⟩ = some (.slice a6 q cap6))
            (go_keep)
            (first | (go_at_call 41; refine (iFlatMany_any _ _ _ _ _ xs _ _ _ M _ HM.out hm1 HML.out hm1 Ad10.out (show IntsAt w10.drew _ _ from HX6.out)).mono ?_; rintro e w11 ⟨rfl, hb11⟩; rw [HGM.out]; have b11 := below_seq bd10 hb11; have pr11 := heap_later prd10 hb11; have A11 := Lib.hid (Ad10.out.below hb11); have I11 := Lib.hid (Id10.out.below hb11); clear cr100 cr101 cr102 lr10; obtain ⟨cr110, cr111, cr112⟩ := cells3 pr11; have lr11 := heap_lt pr11; have f6 := cell_later hb11 d6))
          have BO11 := Lib.hid (below_seq BO10.out (below_seq (drew_below _) hb11))
          clear hwg htg
          go_wp2
          go_roundw
          case rel => exact ⟨k + 1, by omega, by go_num, BO11.out⟩
          case measure => simp [intOf]; omega
      · go_wp2
        go_ret
        exact ⟨rfl, b9⟩

end Go.Proofs.Ytlnnoeojgdeagaa
