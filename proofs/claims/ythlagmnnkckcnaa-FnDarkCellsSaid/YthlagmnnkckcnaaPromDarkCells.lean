/- The law FnDarkCells: its walk. -/
import Derived.Test.YthlagmnnkckcnaaDraw7
import Derived.Test.YthlagmnnkckcnaaSame
import Derived.Test.YthlagmnnkckcnaaOrder
import Derived.Test.YthlagmnnkckcnaaDarkC
import Derived.Test.YthlagmnnkckcnaaBeside
namespace Go.Proofs.Ythlagmnnkckcnaa
open Go.RowKit
set_option linter.unusedVariables false
set_option maxRecDepth 100000
set_option linter.unusedSimpArgs false

theorem mem_darkF {W T : Int} {xs : List Bool} {c : Int} : c ∈ darkF W T xs → rv W T xs = true ∧ ∃ k : Nat, c = k ∧ k < xs.length ∧ xs.getD k false = true ∧ dkAt W k = true := by
  unfold darkF darkK
  split
  · rename_i h
    intro hc
    obtain ⟨k, hk, rfl⟩ := List.mem_map.1 hc
    rw [List.mem_filter, List.mem_range, Bool.and_eq_true] at hk
    exact ⟨h, k, rfl, hk.1, hk.2.1, hk.2.2⟩
  · intro hc; cases hc
theorem darkK_asc (W : Int) (xs : List Bool) (k : Nat) : (darkK W xs k).Pairwise (· < ·) := by
  unfold darkK
  rw [List.pairwise_map]
  exact ((List.pairwise_lt_range).filter _).imp (fun h => by omega)
theorem darkF_asc (W T : Int) (xs : List Bool) : (darkF W T xs).Pairwise (· < ·) := by
  unfold darkF; split
  · exact darkK_asc _ _ _
  · exact List.Pairwise.nil
theorem asc_get {L : List Int} (h : L.Pairwise (· < ·)) {j : Nat} (hj : j + 1 < L.length) : L.getD j 0 < L.getD (j + 1) 0 := by
  have := List.pairwise_iff_getElem.1 h j (j + 1) (by omega) hj (by omega)
  simpa [List.getD, show j < L.length by omega, hj] using this
theorem darkF_many {W T : Int} {xs : List Bool} (h : rv W T xs = true) : ((darkF W T xs).length : Int) = dark W T xs := by
  unfold darkF dark darkK dkN
  rw [h, if_pos rfl, if_pos rfl, List.length_map, List.countP_eq_length_filter]
/-- No two dark cells are side by side. -/
theorem dark_apart {W T : Int} {xs : List Bool} {c : Int} (h : rv W T xs = true) (hc : c ∈ besF W T xs (darkF W T xs)) : (darkF W T xs).contains c = false := by
  rw [Bool.eq_false_iff]
  intro hd
  rw [List.contains_iff_mem] at hd
  obtain ⟨_, k, rfl, hk, hx, hdk⟩ := mem_darkF hd
  unfold besF besK at hc
  rw [h, if_pos rfl] at hc
  obtain ⟨i, hi, he⟩ := List.mem_map.1 hc
  obtain rfl : i = k := by omega
  rw [List.mem_filter, Bool.and_eq_true] at hi
  obtain ⟨d, hd4, h0, hm⟩ := near_iff.1 hi.2.2
  obtain ⟨_, k2, e2, hk2, hx2, hdk2⟩ := mem_darkF hm
  obtain ⟨v1, v2, v3, v4, v5, _⟩ := rv_true h
  obtain ⟨Wn, Tn, rfl, rfl, hl⟩ := rv_nat h
  have hs := step_dark (W := Wn) (T := Tn) (k := i) (way := (d : Int) + 1) (o := k2) (by omega) (by omega) (by rw [← hl]; exact hk) ⟨by omega, by omega⟩ e2
  rw [hdk, hdk2] at hs
  cases hs

set_option maxHeartbeats 4000000 in
theorem promDarkCells_walk (cb : Option Addr) (n cap : Nat) (zs : List Int) (w : World) (hn : n = zs.length) (hn' : n ≤ maxLen) (hcap : n ≤ cap) (hb : BytesAt w cb zs) :
    Calls Try.prog 3 #[.slice cb n cap] w fun e w' => e = .returned (.bool true) ∧ Below w.heap.size w w' := by
  have HN := Lib.hid hn; clear hn
  have HB := Lib.hid hb; clear hb
  by_cases hbig : 1048576 < n
  · unfold maxLen at hn'
    go_enter Try.func3, Try.ntmps3
    go_wp2
    go_ret
    exact ⟨rfl, Below.refl _ _⟩
  have hsm : n ≤ 1048576 := by omega
  clear hbig hn'
  go_enter Try.func3, Try.ntmps3
  go_wp2_with fail
  refine (drawDarkCells_any _ _ _ zs _ HN.out hsm hcap HB.out).mono ?_; rintro e w1 ⟨W0, T0, a, m, c, xs, rfl, hm, h36, hs, ho, b1⟩
  have HM := Lib.hid hm; clear hm
  have AX := Lib.hid (OwnsB.at ho); clear ho
  obtain ⟨s0, s1, s2, s3⟩ := hs
  have hI : Hid (∀ (w : World), BoolsAt w a xs → Calls Try.prog 14 #[.agg #[.int .i64 W0, .int .i64 T0, .slice a m c]] w (RetL w (darkF W0 T0 xs).length (darkF W0 T0 xs))) := fun w h => iDarkCells_ret W0 T0 a m c xs w HM.out (by omega) h
  have hS : Hid (∀ (w : World), BoolsAt w a xs → Calls Try.prog 16 #[.agg #[.int .i64 W0, .int .i64 T0, .slice a m c]] w (RetL w (darkF W0 T0 xs).length (darkF W0 T0 xs))) := fun w h => sDarkCells_ret W0 T0 a m c xs w HM.out (by omega) h
  have hlen := darkF_le W0 T0 xs
  rw [← HM.out] at hlen
  have hasc := darkF_asc W0 T0 xs
  have hno : rv W0 T0 xs = false → (darkF W0 T0 xs).length = 0 := fun h => by unfold darkF; rw [h]; rfl
  have hyes : rv W0 T0 xs = true → ((darkF W0 T0 xs).length : Int) = dark W0 T0 xs ∧ ∀ c, c ∈ besF W0 T0 xs (darkF W0 T0 xs) → (darkF W0 T0 xs).contains c = false := fun h => ⟨darkF_many h, fun c hc => dark_apart h hc⟩
  have HNO := Lib.hid hno; clear hno
  have HYES := Lib.hid hyes; clear hyes
  generalize darkF W0 T0 xs = L at hI hS hlen HNO HYES hasc
  have HASC := Lib.hid hasc; clear hasc
  obtain ⟨q, hq⟩ : ∃ q, q = L.length := ⟨_, rfl⟩
  rw [← hq] at hlen hI hS HNO HYES
  have HQ := Lib.hid hq; clear hq
  go_wp2_with fail
  refine (hI.out _ (AX.out.one _)).mono ?_; rintro e w2 ⟨la, lcap, rfl, ho2, hb2⟩
  have b2 := below_seq (below_seq b1 (below1 _ _)) hb2
  have p2 := heap_later (heap_new w1 _) hb2
  have A2 := Lib.hid ((AX.out.one (.cells #[.int .i64 W0, .int .i64 T0, .slice a m c] 25)).below hb2)
  have L2 := Lib.hid (OwnsI.at ho2); clear ho2
  obtain ⟨c0, c1, c2⟩ := cells3 p2
  go_wp2_with fail
  refine (hS.out _ A2.out).mono ?_; rintro e w3 ⟨lb, lcb, rfl, ho3, hb3⟩
  have b3 := below_seq b2 hb3
  have p3 := heap_later p2 hb3
  have A3 := Lib.hid (A2.out.below hb3)
  have L3 := Lib.hid (L2.out.below hb3)
  have M3 := Lib.hid (OwnsI.at ho3); clear ho3
  clear c0 c1 c2
  obtain ⟨c0, c1, c2⟩ := cells3 p3
  go_wp2_with fail
  refine (sameInts_any _ _ _ _ _ L L _ HQ.out HQ.out (by omega) L3.out M3.out).mono ?_; rintro e w4 ⟨rfl, hb4⟩
  have hdl : decide (L = L) = true := by simp
  rw [hdl]
  clear hdl
  have b4 := below_seq b3 hb4
  have p4 := heap_later p3 hb4
  have A4 := Lib.hid (A3.out.below hb4)
  have L4 := Lib.hid (L3.out.below hb4)
  clear c0 c1 c2
  obtain ⟨c0, c1, c2⟩ := cells3 p4
  go_wp2_with fail
  refine (sRegionValid_any _ _ _ _ _ xs _ HM.out (by omega) A4.out).mono ?_; rintro e w5 ⟨rfl, hb5⟩
  have b5 := below_seq b4 hb5
  have p5 := heap_later p4 hb5
  have A5 := Lib.hid (A4.out.below hb5)
  have L5 := Lib.hid (L4.out.below hb5)
  clear c0 c1 c2
  obtain ⟨rvb, hrv⟩ : ∃ b, b = rv W0 T0 xs := ⟨_, rfl⟩
  rw [← hrv]
  cases rvb
  · have hq0 := HNO.out hrv.symm
    subst hq0
    clear hrv
    obtain ⟨c0, c1, c2⟩ := cells3 p5
    go_wp2_with fail
    refine (alive_any _).mono ?_; rintro e w6 ⟨rfl, hb6⟩
    go_wp2
    go_ret
    exact ⟨rfl, below_seq b5 hb6⟩
  · obtain ⟨hqd, hnc⟩ := HYES.out hrv.symm
    have HNC := Lib.hid hnc; clear hnc
    have HQD := Lib.hid hqd; clear hqd
    clear hrv HYES HNO
    obtain ⟨c0, c1, c2⟩ := cells3 p5
    have hbl := besF_le W0 T0 xs L
    rw [← HM.out] at hbl
    go_wp2_with fail
    refine (iCellsBeside_ret _ _ _ _ _ xs _ _ _ L _ HM.out (by omega) HQ.out (by omega) A5.out L5.out).mono ?_; rintro e w6 ⟨na, ncap, rfl, ho6, hb6⟩
    have b6 := below_seq b5 hb6
    have p6 := heap_later p5 hb6
    have A6 := Lib.hid (A5.out.below hb6)
    have L6 := Lib.hid (L5.out.below hb6)
    have N6 := Lib.hid (OwnsI.at ho6)
    clear ho6 c0 c1 c2
    generalize besF W0 T0 xs L = B at hbl HNC N6 ⊢
    obtain ⟨nq, hnq⟩ : ∃ nq, nq = B.length := ⟨_, rfl⟩
    rw [← hnq] at hbl ⊢
    have HNQ := Lib.hid hnq; clear hnq
    have P6 := Lib.hid p6; clear p6
    go_wp2
    go_loop [6] (fun i => ∃ k : Nat, k ≤ nq ∧ i = .int .i64 k) (fun i => nq - (intOf i).toNat)
    case atStart => exact ⟨0, Nat.zero_le _, rfl⟩
    case round =>
      obtain ⟨k, hk, rfl⟩ := hrel
      by_cases hlt : k < nq
      · have hkl : k < B.length := by rw [← HNQ.out]; exact hlt
        obtain ⟨bk, off, rfl, hc⟩ := N6.out k hkl
        obtain ⟨v, hv⟩ : ∃ v, v = B.getD k 0 := ⟨_, rfl⟩
        rw [← hv] at hc
        have hno := HNC.out v (by rw [hv, List.getD_eq_getElem?_getD, List.getElem?_eq_getElem hkl, Option.getD_some]; exact List.getElem_mem hkl)
        have HV := Lib.hid hv; clear hv
        have HNO := Lib.hid hno; clear hno
        have e1 : (k : Int) < nq := by omega
        have e0 : (0 : Int) ≤ k := by omega
        go_wp2_with fail
        refine (hasInt_any _ _ _ L _ _ HQ.out (by omega) L6.out).mono ?_; rintro e w7 ⟨rfl, hw7⟩
        subst hw7
        rw [HNO.out]
        go_wp2
        go_round
        case rel => exact ⟨k + 1, by omega, by go_num⟩
        case measure => simp [intOf]; omega
      · obtain rfl : k = nq := by omega
        obtain ⟨c0, c1, c2⟩ := cells3 P6.out
        go_wp2_with fail
        refine (iDarkMany_any _ _ _ _ _ xs _ HM.out (by omega) A6.out).mono ?_; rintro e w7 ⟨rfl, hb7⟩
        rw [← HQD.out]
        have b7 := below_seq b6 hb7
        have L7 := Lib.hid (L6.out.below hb7)
        go_wp2_with fail
        refine (ascend_yes _ _ _ L _ HQ.out (by omega) L7.out (fun j hj => asc_get HASC.out (by rw [← HQ.out]; exact hj))).mono ?_; rintro e w8 ⟨rfl, hb8⟩
        go_wp2
        go_ret
        exact ⟨rfl, below_seq b7 hb8⟩

end Go.Proofs.Ythlagmnnkckcnaa
