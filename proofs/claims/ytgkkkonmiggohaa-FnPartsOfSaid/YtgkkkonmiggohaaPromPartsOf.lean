/- The law FnPartsOf: its walk. -/
import Derived.Test.YtgkkkonmiggohaaProm
import Derived.Test.YtgkkkonmiggohaaSame
import Derived.Test.YtgkkkonmiggohaaParts
import Derived.Test.YtgkkkonmiggohaaPartsS
namespace Go.Proofs.Ytgkkkonmiggohaa
open Go.RowKit
set_option linter.unusedVariables false
set_option maxRecDepth 100000
set_option linter.unusedSimpArgs false
/-- Neighbours have the same mark; a mark is its own. -/
theorem marks_adj {N : Nat} {s : Nat → Bool} {adj : Nat → Nat → Bool} {M : List Int} (ha : ∀ j k, adj j k = adj k j) (h : Marks N s adj M) {i k : Nat} (hi : i < N) (hk : k < N) (si : s i = true) (sk : s k = true) (hik : adj i k = true) : M.getD i 0 = M.getD k 0 := by
  obtain ⟨a, ea, ca, la⟩ := (h.2 i hi).2 si
  obtain ⟨b, eb, cb, lb⟩ := (h.2 k hk).2 sk
  have h1 := lb a (.step ca hik hk sk)
  have h2 := la b (.step cb (by rw [ha]; exact hik) hi si)
  rw [ea, eb]; omega
theorem marks_self {N : Nat} {s : Nat → Bool} {adj : Nat → Nat → Bool} {M : List Int} (h : Marks N s adj M) {k : Nat} (hk : k < N) (sk : s k = true) : ∃ j : Nat, M.getD k 0 = j ∧ j ≤ k ∧ j < N ∧ M.getD j 0 = j := by
  obtain ⟨j, ej, cj, lj⟩ := (h.2 k hk).2 sk
  obtain ⟨j2, ej2, cj2, lj2⟩ := (h.2 j cj.left.1).2 cj.left.2
  refine ⟨j, ej, lj k (.refl hk sk), cj.left.1, ?_⟩
  have h1 := lj2 j (.refl cj.left.1 cj.left.2)
  have h2 := lj j2 (cj2.trans cj)
  rw [ej2]; omega

set_option maxHeartbeats 4000000 in
theorem promPartsOf_walk (cb : Option Addr) (n cap : Nat) (zs : List Int) (w : World) (hn : n = zs.length) (hn' : n ≤ maxLen) (hcap : n ≤ cap) (hb : BytesAt w cb zs) :
    Calls Try.prog 4 #[.slice cb n cap] w fun e w' => e = .returned (.bool true) ∧ Below w.heap.size w w' := by
  have HN := Lib.hid hn; clear hn
  have HB := Lib.hid hb; clear hb
  by_cases hbig : 1048576 < n
  · unfold maxLen at hn'
    go_enter Try.func4, Try.ntmps4
    go_wp2
    go_ret
    exact ⟨rfl, Below.refl _ _⟩
  have hsm : n ≤ 1048576 := by omega
  clear hbig hn'
  go_enter Try.func4, Try.ntmps4
  go_wp2_with fail
  refine (drawPartsOf_any _ _ _ zs _ HN.out hsm hcap HB.out).mono ?_; rintro e w1 ⟨W0, T0, a, m, c, xs, rfl, hm, h36, hs, ho, b1⟩
  have HM := Lib.hid hm; clear hm
  have AX := Lib.hid (OwnsB.at ho); clear ho
  obtain ⟨s0, s1, s2, s3⟩ := hs
  have hI : Hid (∀ (w : World), BoolsAt w a xs → Calls Try.prog 13 #[.agg #[.int .i64 W0, .int .i64 T0, .slice a m c]] w (RetL w (partsF W0 T0 xs).length (partsF W0 T0 xs))) := fun w h => iPartsOf_ret W0 T0 a m c xs w HM.out (by omega) h
  have hS : Hid (∀ (w : World), BoolsAt w a xs → Calls Try.prog 15 #[.agg #[.int .i64 W0, .int .i64 T0, .slice a m c]] w (RetL w (partsF W0 T0 xs).length (partsF W0 T0 xs))) := fun w h => sPartsOf_ret W0 T0 a m c xs w HM.out (by omega) h
  have hlen := partsF_len W0 T0 xs
  rw [← HM.out] at hlen
  have hno : rv W0 T0 xs = false → (partsF W0 T0 xs).length = 0 := fun h => by unfold partsF; rw [h]; rfl
  have hyes : rv W0 T0 xs = true → (partsF W0 T0 xs).length = m ∧ Marks m (fun i => xs.getD i false) (adjW W0 false) (partsF W0 T0 xs) := fun h => by
    have e : partsF W0 T0 xs = marksL m (fun i => xs.getD i false) (adjW W0 false) := by unfold partsF; rw [h, if_pos rfl, HM.out]
    rw [e]; exact ⟨marksL_len _ _ _, marksL_marks _ _ _⟩
  have HNO := Lib.hid hno; clear hno
  have HYES := Lib.hid hyes; clear hyes
  generalize partsF W0 T0 xs = L at hI hS hlen HNO HYES
  obtain ⟨q, hq⟩ : ∃ q, q = L.length := ⟨_, rfl⟩
  rw [← hq] at hlen hI hS HNO HYES
  have HQ := Lib.hid hq; clear hq
  go_wp2_with fail
  refine (hI.out _ (AX.out.one _)).mono ?_; rintro e w2 ⟨la, lcap, rfl, ho2, hb2⟩
  have b2 := below_seq (below_seq b1 (below1 _ _)) hb2
  have p2 := heap_later (heap_new w1 _) hb2
  have A2 := Lib.hid ((AX.out.one (.cells #[.int .i64 W0, .int .i64 T0, .slice a m c] 25)).below hb2)
  have L2 := Lib.hid (OwnsI.at ho2); clear ho2
  obtain ⟨c0, c1, c2⟩ := cells3 p2
  go_wp2_with fail
  refine (hS.out _ A2.out).mono ?_; rintro e w3 ⟨lb, lcb, rfl, ho3, hb3⟩
  have b3 := below_seq b2 hb3
  have p3 := heap_later p2 hb3
  have A3 := Lib.hid (A2.out.below hb3)
  have L3 := Lib.hid (L2.out.below hb3)
  have M3 := Lib.hid (OwnsI.at ho3); clear ho3
  clear c0 c1 c2
  obtain ⟨c0, c1, c2⟩ := cells3 p3
  go_wp2_with fail
  refine (sameInts_any _ _ _ _ _ L L _ HQ.out HQ.out (by omega) L3.out M3.out).mono ?_; rintro e w4 ⟨rfl, hb4⟩
  have hdl : decide (L = L) = true := by simp
  rw [hdl]
  clear hdl
  have b4 := below_seq b3 hb4
  have p4 := heap_later p3 hb4
  have A4 := Lib.hid (A3.out.below hb4)
  have L4 := Lib.hid (L3.out.below hb4)
  clear c0 c1 c2
  obtain ⟨c0, c1, c2⟩ := cells3 p4
  go_wp2_with fail
  refine (sRegionValid_any _ _ _ _ _ xs _ HM.out (by omega) A4.out).mono ?_; rintro e w5 ⟨rfl, hb5⟩
  have b5 := below_seq b4 hb5
  have p5 := heap_later p4 hb5
  have A5 := Lib.hid (A4.out.below hb5)
  have L5 := Lib.hid (L4.out.below hb5)
  clear c0 c1 c2
  obtain ⟨rvb, hrv⟩ : ∃ b, b = rv W0 T0 xs := ⟨_, rfl⟩
  rw [← hrv]
  cases rvb
  · have hq0 := HNO.out hrv.symm
    subst hq0
    clear hrv
    obtain ⟨c0, c1, c2⟩ := cells3 p5
    go_wp2_with fail
    refine (alive_any _).mono ?_; rintro e w6 ⟨rfl, hb6⟩
    go_wp2
    go_ret
    exact ⟨rfl, below_seq b5 hb6⟩
  · obtain ⟨hqm, hmk⟩ := HYES.out hrv.symm
    obtain ⟨v1, v2, v3, v4, v5, _⟩ := rv_true hrv.symm
    subst hqm
    have HMK := Lib.hid hmk; clear hmk
    clear hrv v5 HYES HNO
    have P5 := Lib.hid p5; clear p5
    go_wp2
    go_loopw [5] (fun i wr => ∃ k : Nat, k ≤ q ∧ i = .int .i64 k ∧ Below w5.heap.size w5 wr) (fun i _ => q - (intOf i).toNat)
    case atStart => exact ⟨0, Nat.zero_le _, rfl, Below.refl _ _⟩
    case round =>
      obtain ⟨k, hk, rfl, hbel⟩ := hrel
      rename World => wr
      have BEL := Lib.hid hbel; clear hbel
      obtain ⟨c0, c1, c2⟩ := cells3 (heap_later P5.out BEL.out)
      by_cases hlt : k < q
      · have LR := Lib.hid (L5.out.below BEL.out)
        have AR := Lib.hid (A5.out.below BEL.out)
        obtain ⟨lbk, lo, rfl, hcl⟩ := LR.out k (by rw [← HQ.out]; exact hlt)
        obtain ⟨abk, ao, rfl, hcx⟩ := AR.out k (by rw [← HM.out]; exact hlt)
        have e1 : (k : Int) < q := by omega
        have e0 : (0 : Int) ≤ k := by omega
        have e3 : ((k : Int)).toNat = k := by omega
        have hW0 : W0 ≠ 0 := by omega
        obtain ⟨xk, hxk⟩ : ∃ b, b = xs.getD k false := ⟨_, rfl⟩
        rw [← hxk] at hcx
        cases xk
        · have hl1 := (HMK.out.2 k hlt).1 hxk.symm
          rw [hl1] at hcl
          clear hxk hl1
          have d1 : decide ((k : Int) < -1) = false := decide_eq_false (by omega)
          have d2 : ¬ (k : Int) < -1 := by omega
          go_wp2
          go_big_quiet (fail)
          go_upto_region 14 with fail
          simp only [List.append]
          go_big_quiet (fail)
          go_wp2
          go_roundw
          case rel => exact ⟨k + 1, by omega, by go_num, below_seq BEL.out (drewN_below _ _)⟩
          case measure => simp [intOf]; omega
        · obtain ⟨j, hj1, hj2, hj3, hj4⟩ := marks_self HMK.out hlt hxk.symm
          have HXK := Lib.hid hxk; clear hxk
          rw [hj1] at hcl
          have hcj := LR.out.cellAt (i := j) (by rw [← HQ.out]; exact hj3)
          rw [hj4] at hcj
          have HJ1 := Lib.hid hj1; clear hj1 hj4
          have g1 : (j : Int) ≤ k := by omega
          have g2 : (0 : Int) ≤ j := by omega
          have g3 : ((j : Int)).toNat = j := by omega
          have g4 : (j : Int) < q := by omega
          have d1 : decide ((k : Int) < (j : Int)) = false := decide_eq_false (by omega)
          have d2 : decide (k < j) = false := decide_eq_false (by omega)
          have d3 : decide ((0 : Int) ≤ (j : Int)) = true := decide_eq_true g2
          go_wp2
          go_big_quiet (fail)
          go_upto_region 14 with fail
          simp only [List.append]
          obtain ⟨x, hx⟩ : ∃ x, x = (k : Int) % W0 := ⟨_, rfl⟩
          have x0 : 0 ≤ x := by rw [hx]; exact Int.emod_nonneg _ hW0
          have T1 : (k : Int).tmod W0 = x := by rw [hx]; exact Int.tmod_eq_emod_of_nonneg e0
          have hk1 : 0 < x → 1 ≤ k := by
            intro h
            rcases Nat.eq_zero_or_pos k with h0 | h0
            · rw [h0] at hx; simp at hx; omega
            · exact h0
          have HX := Lib.hid hx; clear hx
          have C1 : Hid (x = 0 ∨ (0 < x ∧ 1 ≤ k ∧ xs.getD (k - 1) false = false) ∨ (0 < x ∧ 1 ≤ k ∧ xs.getD (k - 1) false = true ∧ L.getD (k - 1) 0 = j)) := by
            show _ ∨ _
            by_cases h : 0 < x
            · right
              cases hs : xs.getD (k - 1) false
              · left; exact ⟨h, hk1 h, rfl⟩
              · right
                refine ⟨h, hk1 h, rfl, ?_⟩
                rw [← HJ1.out]
                exact (marks_adj (adjW_symm W0 false) HMK.out (by have := hk1 h; omega) hlt hs HXK.out.symm (by rw [adjW_symm]; exact adjW_left v1 (by rw [← HX.out]; exact h) (hk1 h)))
            · left; omega
          have C2 : Hid ((k : Int) < W0 ∨ (W0 ≤ (k : Int) ∧ xs.getD ((k : Int) - W0).toNat false = false) ∨ (W0 ≤ (k : Int) ∧ xs.getD ((k : Int) - W0).toNat false = true ∧ L.getD ((k : Int) - W0).toNat 0 = j)) := by
            show _ ∨ _
            by_cases h : W0 ≤ (k : Int)
            · right
              cases hs : xs.getD ((k : Int) - W0).toNat false
              · left; exact ⟨h, rfl⟩
              · right
                refine ⟨h, rfl, ?_⟩
                rw [← HJ1.out]
                exact (marks_adj (adjW_symm W0 false) HMK.out (by omega) hlt hs HXK.out.symm (by rw [adjW_symm]; exact adjW_down v1 (by omega)))
            · left; omega
          have CL : ∀ i : Nat, i < q → wr.cell? ⟨lbk, lo + i, none⟩ = some (.int .i64 (L.getD i 0)) := fun i h => LR.out.cellAt (by rw [← HQ.out]; exact h)
          have CX : ∀ i : Nat, i < q → wr.cell? ⟨abk, ao + i, none⟩ = some (.bool (xs.getD i false)) := fun i h => AR.out.cellAt (by rw [← HM.out]; exact h)
          have CLH := Lib.hid CL; clear CL
          have CXH := Lib.hid CX; clear CX
          have jj : ((j : Int) != (j : Int)) = false := by simp
          rcases C1.out with h1 | ⟨h1, h2, h3⟩ | ⟨h1, h2, h3, h4⟩
          all_goals rcases C2.out with k1 | ⟨k1, k3⟩ | ⟨k1, k3, k4⟩
          all_goals
            clear C1 C2
            try (have f1 : (k : Int) - 1 < q := by omega
                 have f2 : 0 ≤ (k : Int) - 1 := by omega
                 have f3 : ((k : Int) - 1).toNat = k - 1 := by omega
                 have f4 := CXH.out (k - 1) (by omega)
                 rw [h3] at f4)
            try (have f5 := CLH.out (k - 1) (by omega)
                 rw [h4] at f5)
            try (have f6 : (k : Int) - W0 < q := by omega
                 have f7 : 0 ≤ (k : Int) - W0 := by omega
                 have f8 := CXH.out ((k : Int) - W0).toNat (by omega)
                 rw [k3] at f8)
            try (have f9 := CLH.out ((k : Int) - W0).toNat (by omega)
                 rw [k4] at f9)
            try (have d5 : decide (0 < x) = true := decide_eq_true h1)
            try (have d5 : decide (0 < x) = false := decide_eq_false (by omega))
            try (have d6 : decide (W0 ≤ (k : Int)) = true := decide_eq_true k1)
            try (have d6 : decide (W0 ≤ (k : Int)) = false := decide_eq_false (by omega))
            go_big_quiet (fail)
            go_wp2
            go_roundw
            case rel => exact ⟨k + 1, by omega, by go_num, below_seq BEL.out (drewN_below _ _)⟩
            case measure => simp [intOf]; omega
      · obtain rfl : k = q := by omega
        go_wp2
        go_ret
        exact ⟨rfl, below_seq b5 BEL.out⟩
end Go.Proofs.Ytgkkkonmiggohaa
