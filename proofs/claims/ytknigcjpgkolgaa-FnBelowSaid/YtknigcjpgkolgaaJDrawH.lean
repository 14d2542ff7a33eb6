/- Contracts of spec.l20Heights and of the draws that use it, or two tilings. -/
import Derived.Test.YtknigcjpgkolgaaJHtsQ
namespace Go.Proofs.Ytknigcjpgkolgaa
open Go.RowKit
set_option linter.unusedVariables false
set_option maxRecDepth 100000
set_option linter.unusedSimpArgs false

set_option maxHeartbeats 1000000 in
theorem iLaidBare_ret (W T : Int) (a : Option Addr) (n cap : Nat) (xs : List Bool) (w : World) (hn : n = xs.length) (hn' : n ≤ 1048576) (ha : BoolsAt w a xs) :
    Calls Try.prog 74 #[.agg #[.int .i64 W, .int .i64 T, .slice a n cap]] w (RetL w (bareL W T xs).length (bareL W T xs)) := by
  have HN := Lib.hid hn; clear hn
  have HA := Lib.hid ha; clear ha
  obtain ⟨i0, hi, hz0, hz1, hz2⟩ := info_parts infoInt
  cases h : rv W T xs
  · have e : bareL W T xs = [] := by unfold bareL; rw [h]; rfl
    rw [e]
    have H := Lib.hid h; clear h e
    go_enter Try.func74, Try.ntmps74
    go_wp2_with fail
    refine (iRegionValid_any _ _ _ _ _ xs _ HN.out hn' (HA.out.one _)).mono ?_; rintro e w1 ⟨rfl, hb1⟩
    rw [H.out]
    go_wp2
    go_ret
    exact ⟨none, 0, rfl, OwnsI.nil _ _, below_seq (below1 _ _) hb1⟩
  · have e : bareL W T xs = List.replicate n 0 := by unfold bareL; rw [h, ← HN.out]; rfl
    rw [e, List.length_replicate]
    have H := Lib.hid h; clear h e
    go_enter Try.func74, Try.ntmps74
    go_wp2_with fail
    refine (iRegionValid_any _ _ _ _ _ xs _ HN.out hn' (HA.out.one _)).mono ?_; rintro e w1 ⟨rfl, hb1⟩
    have p1 := heap_later (heap_new w _) hb1
    have b1 := below_seq (below1 w _) hb1
    have z1 : w.heap.size ≤ w1.heap.size := b1.size
    rw [H.out]
    obtain ⟨c0, c1, c2⟩ := cells3 p1
    go_wp2_with (at_make; refine wpList_make_full _ rfl _ _ 26 rfl w.heap.size 3 i0 (.int .i64 0) 1 Try.underlying26 hi hz0 hz1 _ _ _ _ n rfl rfl rfl rfl (by rw [hz2]; omega) (by unfold maxLen; omega) z1 ?_; intro w2 hown hgrow)
    go_ret
    rw [show (Value.int .i64 0).cells = #[.int .i64 0] from rfl, toList_madeCells_one] at hown
    exact ⟨_, n, rfl, OwnsI.ofRow hown (by simp) (by simp), below_grown b1 hgrow (Nat.le_refl _) (by simp)⟩

end Go.Proofs.Ytknigcjpgkolgaa

namespace Go.Proofs.Ytknigcjpgkolgaa
open Go.RowKit
set_option linter.unusedVariables false
set_option maxRecDepth 100000
set_option linter.unusedSimpArgs false

end Go.Proofs.Ytknigcjpgkolgaa

namespace Go.Proofs.Ytknigcjpgkolgaa
open Go.RowKit
set_option linter.unusedVariables false
set_option maxRecDepth 100000
set_option linter.unusedSimpArgs false

theorem hts_unique {W T : Int} {xs : List Bool} {L H H' : List Int} {N f : Nat} (hs : simpleB W T xs = true) (hN : (W + 1) * (T + 1) = (N : Int)) (hf : frstK W T xs N = f) (h : HtsOf W T xs L H N) (h' : HtsOf W T xs L H' N) : H = H' := by
  obtain ⟨v1, v2, v3, v4, v5, v6⟩ := rv_true (simpleB_rv hs)
  have all := corners_all hs hf (fun k => H.getD k 0 = H'.getD k 0) (by rw [h.first f hf, h'.first f hf]) (fun k nth hu => by
    obtain ⟨t0, t1, t2⟩ := sTo_lt v1 hu
    have a := h.side k nth (by omega) hu
    have b := h'.side k nth (by omega) hu
    omega)
  refine ext_getD (by rw [h.len, h'.len]) fun k hk => ?_
  rw [h.len] at hk
  cases ha : hAt W T xs k
  · rw [h.off k hk ha, h'.off k hk ha]
  · exact all k ha
end Go.Proofs.Ytknigcjpgkolgaa

namespace Go.Proofs.Ytknigcjpgkolgaa
open Go.RowKit
set_option linter.unusedVariables false
set_option maxRecDepth 100000
set_option linter.unusedSimpArgs false

theorem hasCell_is (W T x y : Int) (a : Option Addr) (n cap : Nat) (xs : List Bool) (w : World) {v : Bool} (hn : n = xs.length) (hW0 : 0 ≤ W) (hW1 : W ≤ 100) (hT0 : 0 ≤ T) (hT1 : T ≤ 100) (hWT : (n : Int) = W * T) (ha : BoolsAt w a xs) (h : atB W T xs x y = v) :
    Calls Try.prog 119 #[.agg #[.int .i64 W, .int .i64 T, .slice a n cap], .int .i64 x, .int .i64 y] w fun e w' => e = .returned (.bool v) ∧ Below w.heap.size w w' := by
  subst h; exact hasCell_any W T x y a n cap xs w hn hW0 hW1 hT0 hT1 hWT ha

set_option maxHeartbeats 4000000 in
theorem heightMay_any (W T : Int) (a : Option Addr) (n cap : Nat) (xs : List Bool) (k : Nat) (v : Int) (w : World) (hn : n = xs.length) (hW0 : 1 ≤ W) (hW1 : W ≤ 6) (hT0 : 1 ≤ T) (hT1 : T ≤ 6) (hWT : (n : Int) = W * T) (hk : (k : Int) < (W + 1) * (T + 1)) (ha : BoolsAt w a xs) :
    Calls Try.prog 80 #[.agg #[.int .i64 W, .int .i64 T, .slice a n cap], .int .i64 k, .int .i64 v] w fun e w' => e = .returned (.bool (hMay W T xs k v)) ∧ Below w.heap.size w w' := by
  obtain ⟨kx0, kx1, ky0, ke⟩ := kxy hW0 k
  have ky1 := ky_le hW0 hk
  have hcb := corn_bd hW0 hW1 hT0 hT1
  have hk49 : (k : Int) ≤ 49 := by omega
  have HN := Lib.hid hn; clear hn
  have HA := Lib.hid ha; clear ha
  have HWT := Lib.hid hWT; clear hWT
  have hM : hMay W T xs k v = if (atB W T xs (kx W k) (ky W k) || atB W T xs (kx W k - 1) (ky W k) || atB W T xs (kx W k) (ky W k - 1) || atB W T xs (kx W k - 1) (ky W k - 1)) then inB v (-60) 60 else v == 99 := rfl
  have r1 : (k : Int) % (W + 1) = kx W k := rfl
  have r2 : (k : Int) / (W + 1) = ky W k := rfl
  have r1' : (k : Int).tmod (W + 1) = kx W k := Int.tmod_eq_emod_of_nonneg (by omega)
  have r2' : (k : Int).tdiv (W + 1) = ky W k := Int.tdiv_eq_ediv_of_nonneg (by omega)
  obtain ⟨x, hx⟩ : ∃ x, kx W k = x := ⟨_, rfl⟩
  obtain ⟨y, hy⟩ : ∃ y, ky W k = y := ⟨_, rfl⟩
  rw [hx] at r1 r1' kx0 kx1; rw [hy] at r2 r2' ky0 ky1
  rw [hx, hy] at hM
  have r3 : IntKind.i64.wrap (W + 1) = W + 1 := by rw [IntKind.wrap_i64]; omega
  have r4 : W + 1 ≠ 0 := by omega
  have r5 : ((W + 1 : Int) == 0) = false := by simpa using r4
  have r6 : IntKind.i64.wrap x = x := by rw [IntKind.wrap_i64]; omega
  have r7 : IntKind.i64.wrap y = y := by rw [IntKind.wrap_i64]; omega
  clear hx hy ke hk
  obtain ⟨wA, hwA⟩ : ∃ wA, wA = w.alloc (.cells #[.int .i64 W, .int .i64 T, .slice a n cap] 25) := ⟨_, rfl⟩
  have pA : wA.heap[w.heap.size]? = some (.cells #[.int .i64 W, .int .i64 T, .slice a n cap] 25 (0, 0)) := by rw [hwA]; exact heap_new _ _
  have bA : Below w.heap.size w wA := by rw [hwA]; exact below1 _ _
  obtain ⟨d0, d1, d2⟩ := cells3 pA
  have hq : ∀ q : Nat, (wA.drewN q).heap[w.heap.size]? = some (.cells #[.int .i64 W, .int .i64 T, .slice a n cap] 25 (0, 0)) := fun q => pA
  have HQ := Lib.hid hq; clear hq
  cases h1 : atB W T xs (x) (y)
  ·
    cases h2 : atB W T xs (x - 1) (y)
    ·
      cases h3 : atB W T xs (x) (y - 1)
      ·
        cases h4 : atB W T xs (x - 1) (y - 1)
        ·
          have HM : Hid (hMay W T xs k v = (v == 99)) := by show _ = _; rw [hM, h1, h2, h3, h4]; rfl
          rw [HM.out]
          have H1 := Lib.hid h1
          have H2 := Lib.hid h2
          have H3 := Lib.hid h3
          have H4 := Lib.hid h4
          clear hM h1 h2 h3 h4
          go_enter Try.func80, Try.ntmps80
          go_wp2_with fail
          rw [← hwA]; clear hwA
          go_quiet (fail)
          clear r1 r2 r1' r2' r3 r4 r5 r6 r7
          have p0 := HQ.out nq; have b0 := below_seq bA (drewN_below wA nq)
          obtain ⟨c00, c01, c02⟩ := cells3 p0
          go_wp2_with fail
          refine (hasCell_is _ _ _ _ _ _ _ xs _ HN.out (by omega) (by omega) (by omega) (by omega) HWT.out (HA.out.below b0) H1.out).mono ?_; rintro e w1 ⟨rfl, hb1⟩
          have p1 := heap_later p0 hb1; have b1 := below_seq b0 hb1
          obtain ⟨c10, c11, c12⟩ := cells3 p1
          go_wp2_with fail
          refine (hasCell_is _ _ _ _ _ _ _ xs _ HN.out (by omega) (by omega) (by omega) (by omega) HWT.out (HA.out.below b1) H2.out).mono ?_; rintro e w2 ⟨rfl, hb2⟩
          have p2 := heap_later p1 hb2; have b2 := below_seq b1 hb2
          obtain ⟨c20, c21, c22⟩ := cells3 p2
          go_wp2_with fail
          refine (hasCell_is _ _ _ _ _ _ _ xs _ HN.out (by omega) (by omega) (by omega) (by omega) HWT.out (HA.out.below b2) H3.out).mono ?_; rintro e w3 ⟨rfl, hb3⟩
          have p3 := heap_later p2 hb3; have b3 := below_seq b2 hb3
          obtain ⟨c30, c31, c32⟩ := cells3 p3
          go_wp2_with fail
          refine (hasCell_is _ _ _ _ _ _ _ xs _ HN.out (by omega) (by omega) (by omega) (by omega) HWT.out (HA.out.below b3) H4.out).mono ?_; rintro e w4 ⟨rfl, hb4⟩
          have p4 := heap_later p3 hb4; have b4 := below_seq b3 hb4
          go_wp2
          go_ret
          exact ⟨rfl, b4⟩
        · have HM : Hid (hMay W T xs k v = inB v (-60) 60) := by show _ = _; rw [hM, h1, h2, h3, h4]; simp
          rw [HM.out]
          have H1 := Lib.hid h1
          have H2 := Lib.hid h2
          have H3 := Lib.hid h3
          have H4 := Lib.hid h4
          clear hM h1 h2 h3 h4
          by_cases g1 : -60 ≤ v
          · by_cases g2 : v ≤ 60
            all_goals
              go_enter Try.func80, Try.ntmps80
              go_wp2_with fail
              rw [← hwA]; clear hwA
              go_quiet (fail)
              clear r1 r2 r1' r2' r3 r4 r5 r6 r7
              have p0 := HQ.out nq; have b0 := below_seq bA (drewN_below wA nq)
              obtain ⟨c00, c01, c02⟩ := cells3 p0
              go_wp2_with fail
              refine (hasCell_is _ _ _ _ _ _ _ xs _ HN.out (by omega) (by omega) (by omega) (by omega) HWT.out (HA.out.below b0) H1.out).mono ?_; rintro e w1 ⟨rfl, hb1⟩
              have p1 := heap_later p0 hb1; have b1 := below_seq b0 hb1
              obtain ⟨c10, c11, c12⟩ := cells3 p1
              go_wp2_with fail
              refine (hasCell_is _ _ _ _ _ _ _ xs _ HN.out (by omega) (by omega) (by omega) (by omega) HWT.out (HA.out.below b1) H2.out).mono ?_; rintro e w2 ⟨rfl, hb2⟩
              have p2 := heap_later p1 hb2; have b2 := below_seq b1 hb2
              obtain ⟨c20, c21, c22⟩ := cells3 p2
              go_wp2_with fail
              refine (hasCell_is _ _ _ _ _ _ _ xs _ HN.out (by omega) (by omega) (by omega) (by omega) HWT.out (HA.out.below b2) H3.out).mono ?_; rintro e w3 ⟨rfl, hb3⟩
              have p3 := heap_later p2 hb3; have b3 := below_seq b2 hb3
              obtain ⟨c30, c31, c32⟩ := cells3 p3
              go_wp2_with fail
              refine (hasCell_is _ _ _ _ _ _ _ xs _ HN.out (by omega) (by omega) (by omega) (by omega) HWT.out (HA.out.below b3) H4.out).mono ?_; rintro e w4 ⟨rfl, hb4⟩
              have p4 := heap_later p3 hb4; have b4 := below_seq b3 hb4
              go_wp2
              go_ret
              exact ⟨ret_bool (by simp [inB]; omega), b4⟩
          · go_enter Try.func80, Try.ntmps80
            go_wp2_with fail
            rw [← hwA]; clear hwA
            go_quiet (fail)
            clear r1 r2 r1' r2' r3 r4 r5 r6 r7
            have p0 := HQ.out nq; have b0 := below_seq bA (drewN_below wA nq)
            obtain ⟨c00, c01, c02⟩ := cells3 p0
            go_wp2_with fail
            refine (hasCell_is _ _ _ _ _ _ _ xs _ HN.out (by omega) (by omega) (by omega) (by omega) HWT.out (HA.out.below b0) H1.out).mono ?_; rintro e w1 ⟨rfl, hb1⟩
            have p1 := heap_later p0 hb1; have b1 := below_seq b0 hb1
            obtain ⟨c10, c11, c12⟩ := cells3 p1
            go_wp2_with fail
            refine (hasCell_is _ _ _ _ _ _ _ xs _ HN.out (by omega) (by omega) (by omega) (by omega) HWT.out (HA.out.below b1) H2.out).mono ?_; rintro e w2 ⟨rfl, hb2⟩
            have p2 := heap_later p1 hb2; have b2 := below_seq b1 hb2
            obtain ⟨c20, c21, c22⟩ := cells3 p2
            go_wp2_with fail
            refine (hasCell_is _ _ _ _ _ _ _ xs _ HN.out (by omega) (by omega) (by omega) (by omega) HWT.out (HA.out.below b2) H3.out).mono ?_; rintro e w3 ⟨rfl, hb3⟩
            have p3 := heap_later p2 hb3; have b3 := below_seq b2 hb3
            obtain ⟨c30, c31, c32⟩ := cells3 p3
            go_wp2_with fail
            refine (hasCell_is _ _ _ _ _ _ _ xs _ HN.out (by omega) (by omega) (by omega) (by omega) HWT.out (HA.out.below b3) H4.out).mono ?_; rintro e w4 ⟨rfl, hb4⟩
            have p4 := heap_later p3 hb4; have b4 := below_seq b3 hb4
            go_wp2
            go_ret
            exact ⟨ret_bool (by simp [inB]; omega), b4⟩
      · have HM : Hid (hMay W T xs k v = inB v (-60) 60) := by show _ = _; rw [hM, h1, h2, h3]; simp
        rw [HM.out]
        have H1 := Lib.hid h1
        have H2 := Lib.hid h2
        have H3 := Lib.hid h3
        clear hM h1 h2 h3
        by_cases g1 : -60 ≤ v
        · by_cases g2 : v ≤ 60
          all_goals
            go_enter Try.func80, Try.ntmps80
            go_wp2_with fail
            rw [← hwA]; clear hwA
            go_quiet (fail)
            clear r1 r2 r1' r2' r3 r4 r5 r6 r7
            have p0 := HQ.out nq; have b0 := below_seq bA (drewN_below wA nq)
            obtain ⟨c00, c01, c02⟩ := cells3 p0
            go_wp2_with fail
            refine (hasCell_is _ _ _ _ _ _ _ xs _ HN.out (by omega) (by omega) (by omega) (by omega) HWT.out (HA.out.below b0) H1.out).mono ?_; rintro e w1 ⟨rfl, hb1⟩
            have p1 := heap_later p0 hb1; have b1 := below_seq b0 hb1
            obtain ⟨c10, c11, c12⟩ := cells3 p1
            go_wp2_with fail
            refine (hasCell_is _ _ _ _ _ _ _ xs _ HN.out (by omega) (by omega) (by omega) (by omega) HWT.out (HA.out.below b1) H2.out).mono ?_; rintro e w2 ⟨rfl, hb2⟩
            have p2 := heap_later p1 hb2; have b2 := below_seq b1 hb2
            obtain ⟨c20, c21, c22⟩ := cells3 p2
            go_wp2_with fail
            refine (hasCell_is _ _ _ _ _ _ _ xs _ HN.out (by omega) (by omega) (by omega) (by omega) HWT.out (HA.out.below b2) H3.out).mono ?_; rintro e w3 ⟨rfl, hb3⟩
            have p3 := heap_later p2 hb3; have b3 := below_seq b2 hb3
            go_wp2
            go_ret
            exact ⟨ret_bool (by simp [inB]; omega), b3⟩
        · go_enter Try.func80, Try.ntmps80
          go_wp2_with fail
          rw [← hwA]; clear hwA
          go_quiet (fail)
          clear r1 r2 r1' r2' r3 r4 r5 r6 r7
          have p0 := HQ.out nq; have b0 := below_seq bA (drewN_below wA nq)
          obtain ⟨c00, c01, c02⟩ := cells3 p0
          go_wp2_with fail
          refine (hasCell_is _ _ _ _ _ _ _ xs _ HN.out (by omega) (by omega) (by omega) (by omega) HWT.out (HA.out.below b0) H1.out).mono ?_; rintro e w1 ⟨rfl, hb1⟩
          have p1 := heap_later p0 hb1; have b1 := below_seq b0 hb1
          obtain ⟨c10, c11, c12⟩ := cells3 p1
          go_wp2_with fail
          refine (hasCell_is _ _ _ _ _ _ _ xs _ HN.out (by omega) (by omega) (by omega) (by omega) HWT.out (HA.out.below b1) H2.out).mono ?_; rintro e w2 ⟨rfl, hb2⟩
          have p2 := heap_later p1 hb2; have b2 := below_seq b1 hb2
          obtain ⟨c20, c21, c22⟩ := cells3 p2
          go_wp2_with fail
          refine (hasCell_is _ _ _ _ _ _ _ xs _ HN.out (by omega) (by omega) (by omega) (by omega) HWT.out (HA.out.below b2) H3.out).mono ?_; rintro e w3 ⟨rfl, hb3⟩
          have p3 := heap_later p2 hb3; have b3 := below_seq b2 hb3
          go_wp2
          go_ret
          exact ⟨ret_bool (by simp [inB]; omega), b3⟩
    · have HM : Hid (hMay W T xs k v = inB v (-60) 60) := by show _ = _; rw [hM, h1, h2]; simp
      rw [HM.out]
      have H1 := Lib.hid h1
      have H2 := Lib.hid h2
      clear hM h1 h2
      by_cases g1 : -60 ≤ v
      · by_cases g2 : v ≤ 60
        all_goals
          go_enter Try.func80, Try.ntmps80
          go_wp2_with fail
          rw [← hwA]; clear hwA
          go_quiet (fail)
          clear r1 r2 r1' r2' r3 r4 r5 r6 r7
          have p0 := HQ.out nq; have b0 := below_seq bA (drewN_below wA nq)
          obtain ⟨c00, c01, c02⟩ := cells3 p0
          go_wp2_with fail
          refine (hasCell_is _ _ _ _ _ _ _ xs _ HN.out (by omega) (by omega) (by omega) (by omega) HWT.out (HA.out.below b0) H1.out).mono ?_; rintro e w1 ⟨rfl, hb1⟩
          have p1 := heap_later p0 hb1; have b1 := below_seq b0 hb1
          obtain ⟨c10, c11, c12⟩ := cells3 p1
          go_wp2_with fail
          refine (hasCell_is _ _ _ _ _ _ _ xs _ HN.out (by omega) (by omega) (by omega) (by omega) HWT.out (HA.out.below b1) H2.out).mono ?_; rintro e w2 ⟨rfl, hb2⟩
          have p2 := heap_later p1 hb2; have b2 := below_seq b1 hb2
          go_wp2
          go_ret
          exact ⟨ret_bool (by simp [inB]; omega), b2⟩
      · go_enter Try.func80, Try.ntmps80
        go_wp2_with fail
        rw [← hwA]; clear hwA
        go_quiet (fail)
        clear r1 r2 r1' r2' r3 r4 r5 r6 r7
        have p0 := HQ.out nq; have b0 := below_seq bA (drewN_below wA nq)
        obtain ⟨c00, c01, c02⟩ := cells3 p0
        go_wp2_with fail
        refine (hasCell_is _ _ _ _ _ _ _ xs _ HN.out (by omega) (by omega) (by omega) (by omega) HWT.out (HA.out.below b0) H1.out).mono ?_; rintro e w1 ⟨rfl, hb1⟩
        have p1 := heap_later p0 hb1; have b1 := below_seq b0 hb1
        obtain ⟨c10, c11, c12⟩ := cells3 p1
        go_wp2_with fail
        refine (hasCell_is _ _ _ _ _ _ _ xs _ HN.out (by omega) (by omega) (by omega) (by omega) HWT.out (HA.out.below b1) H2.out).mono ?_; rintro e w2 ⟨rfl, hb2⟩
        have p2 := heap_later p1 hb2; have b2 := below_seq b1 hb2
        go_wp2
        go_ret
        exact ⟨ret_bool (by simp [inB]; omega), b2⟩
  · have HM : Hid (hMay W T xs k v = inB v (-60) 60) := by show _ = _; rw [hM, h1]; simp
    rw [HM.out]
    have H1 := Lib.hid h1
    clear hM h1
    by_cases g1 : -60 ≤ v
    · by_cases g2 : v ≤ 60
      all_goals
        go_enter Try.func80, Try.ntmps80
        go_wp2_with fail
        rw [← hwA]; clear hwA
        go_quiet (fail)
        clear r1 r2 r1' r2' r3 r4 r5 r6 r7
        have p0 := HQ.out nq; have b0 := below_seq bA (drewN_below wA nq)
        obtain ⟨c00, c01, c02⟩ := cells3 p0
        go_wp2_with fail
        refine (hasCell_is _ _ _ _ _ _ _ xs _ HN.out (by omega) (by omega) (by omega) (by omega) HWT.out (HA.out.below b0) H1.out).mono ?_; rintro e w1 ⟨rfl, hb1⟩
        have p1 := heap_later p0 hb1; have b1 := below_seq b0 hb1
        go_wp2
        go_ret
        exact ⟨ret_bool (by simp [inB]; omega), b1⟩
    · go_enter Try.func80, Try.ntmps80
      go_wp2_with fail
      rw [← hwA]; clear hwA
      go_quiet (fail)
      clear r1 r2 r1' r2' r3 r4 r5 r6 r7
      have p0 := HQ.out nq; have b0 := below_seq bA (drewN_below wA nq)
      obtain ⟨c00, c01, c02⟩ := cells3 p0
      go_wp2_with fail
      refine (hasCell_is _ _ _ _ _ _ _ xs _ HN.out (by omega) (by omega) (by omega) (by omega) HWT.out (HA.out.below b0) H1.out).mono ?_; rintro e w1 ⟨rfl, hb1⟩
      have p1 := heap_later p0 hb1; have b1 := below_seq b0 hb1
      go_wp2
      go_ret
      exact ⟨ret_bool (by simp [inB]; omega), b1⟩

set_option maxHeartbeats 1000000 in
theorem riseMay_any (k kt r cl wy d : Int) (b : Bool) (w : World) (hr : r = 1 ∨ r = -1) :
    Calls Try.prog 81 #[.agg #[.int .i64 k, .int .i64 kt, .int .i64 r, .bool b, .int .i64 cl, .int .i64 wy], .int .i64 d] w fun e w' => e = .returned (.bool (d == r || (b && d == -3 * r))) ∧ Below w.heap.size w w' := by
  have p1 := heap_new w (.cells #[.int .i64 k, .int .i64 kt, .int .i64 r, .bool b, .int .i64 cl, .int .i64 wy] 57)
  have HR := Lib.hid hr; clear hr
  by_cases h1 : d = r
  · subst h1
    go_enter Try.func81, Try.ntmps81
    go_wp2
    go_ret
    exact ⟨ret_bool (by simp), below1 _ _⟩
  · have e1 : (d == r) = false := by simpa using h1
    have E1 := Lib.hid e1
    clear h1
    cases b
    · go_enter Try.func81, Try.ntmps81
      go_wp2
      go_ret
      exact ⟨ret_bool (by rw [E1.out]; rfl), below1 _ _⟩
    · go_enter Try.func81, Try.ntmps81
      go_wp2_with fail
      refine (jumpOf_any _ _ _ _ _ _ _ HR.out).mono ?_; rintro e w2 ⟨rfl, hb2⟩
      go_wp2
      go_ret
      exact ⟨ret_bool (by rw [E1.out]; rfl), below_seq (below1 _ _) hb2⟩
end Go.Proofs.Ytknigcjpgkolgaa

namespace Go.Proofs.Ytknigcjpgkolgaa
open Go.RowKit
set_option linter.unusedVariables false
set_option maxRecDepth 100000
set_option linter.unusedSimpArgs false

theorem hsMay_succ (W T : Int) (xs : List Bool) (H : List Int) (k : Nat) : hsMay W T xs H (k + 1) = (hsMay W T xs H k && hMay W T xs k (H.getD k 0)) := by
  unfold hsMay; rw [List.range_succ, List.all_append]; simp
theorem hsMay_no {W T : Int} {xs : List Bool} {H : List Int} {k n : Nat} (hk : k < n) (h : hMay W T xs k (H.getD k 0) = false) : hsMay W T xs H n = false := by
  unfold hsMay; rw [List.all_eq_false]; exact ⟨k, List.mem_range.2 hk, by rw [h]; exact Bool.false_ne_true⟩
theorem hsMay_at {W T : Int} {xs : List Bool} {H : List Int} {k n : Nat} (hk : k < n) (h : hsMay W T xs H n = true) : hMay W T xs k (H.getD k 0) = true := by
  unfold hsMay at h; rw [List.all_eq_true] at h; exact h k (List.mem_range.2 hk)
/-- The sides before the i-th one are right. -/
def sdsTo (W T : Int) (xs : List Bool) (H : List Int) (l : List (Nat × Bool)) (i : Nat) : Bool := (l.take i).all fun s => rMay W T xs s.1 s.2 (H.getD (sTo W s.1 s.2).toNat 0 - H.getD s.1 0)
theorem sdsTo_succ {W T : Int} {xs : List Bool} {H : List Int} {l : List (Nat × Bool)} {i : Nat} (hi : i < l.length) : sdsTo W T xs H l (i + 1) = (sdsTo W T xs H l i && rMay W T xs l[i].1 l[i].2 (H.getD (sTo W l[i].1 l[i].2).toNat 0 - H.getD l[i].1 0)) := by
  unfold sdsTo; rw [List.take_succ_eq_append_getElem hi, List.all_append]; simp
theorem sdsTo_all {W T : Int} {xs : List Bool} {H : List Int} {n : Nat} : sdsTo W T xs H (sidesK W T xs n) (sidesK W T xs n).length = sdsOk W T xs H n := by
  rw [Bool.eq_iff_iff, sdsOk_iff]
  unfold sdsTo
  rw [List.take_length, List.all_eq_true]
theorem sdsTo_no {W T : Int} {xs : List Bool} {H : List Int} {n i : Nat} (hi : i < (sidesK W T xs n).length) (h : rMay W T xs (sidesK W T xs n)[i].1 (sidesK W T xs n)[i].2 (H.getD (sTo W (sidesK W T xs n)[i].1 (sidesK W T xs n)[i].2).toNat 0 - H.getD (sidesK W T xs n)[i].1 0) = false) : sdsOk W T xs H n = false := by
  cases hs : sdsOk W T xs H n
  · rfl
  · rw [sdsOk_iff] at hs
    have := hs _ (List.getElem_mem hi)
    rw [h] at this; cases this

theorem inB_rng {v : Int} (h : inB v (-60) 60 = true) : -60 ≤ v ∧ v ≤ 60 := by simpa [inB] using h

set_option maxHeartbeats 8000000 in
theorem iHeightsOk_any (W T : Int) (a : Option Addr) (n cap : Nat) (xs : List Bool) (la : Option Addr) (m lcap : Nat) (H : List Int) (w : World) (hn : n = xs.length) (hn' : n ≤ 1048576) (hm : m = H.length) (hm' : m ≤ 1048576) (ha : BoolsAt w a xs) (hl : IntsAt w la H) :
    Calls Try.prog 23 #[.agg #[.int .i64 W, .int .i64 T, .slice a n cap], .slice la m lcap] w fun e w' => e = .returned (.bool (hokB W T xs H)) ∧ Below w.heap.size w w' := by
  have HN := Lib.hid hn; clear hn
  have HM := Lib.hid hm; clear hm
  have HA := Lib.hid ha; clear ha
  have HL := Lib.hid hl; clear hl
  cases h : simpleB W T xs
  · have e : hokB W T xs H = false := by unfold hokB; rw [h]; rfl
    rw [e]
    have HS := Lib.hid h; clear h e
    go_enter Try.func23, Try.ntmps23
    go_wp2_with fail
    refine (iSimple_any _ _ _ _ _ xs _ HN.out hn' (HA.out.one _)).mono ?_; rintro e w1 ⟨rfl, hb1⟩
    rw [HS.out]
    go_wp2
    go_ret
    exact ⟨rfl, below_seq (below1 _ _) hb1⟩
  have hr := simpleB_rv h
  obtain ⟨v1, v2, v3, v4, v5, _⟩ := rv_true hr
  have hcb := corn_bd v1 v2 v3 v4
  obtain ⟨N, hN⟩ := Int.eq_ofNat_of_zero_le (show 0 ≤ (W + 1) * (T + 1) by omega)
  have HC : Hid (cornN W T xs = (N : Int)) := by show _ = _; unfold cornN; rw [hr, if_pos rfl, hN]
  have hfr := simple_first h hN
  have hfl := (frstK_lt W T xs N).2
  rw [hN] at hcb
  have hN49 : N ≤ 49 := by omega
  have HWT : Hid ((n : Int) = W * T) := by show _ = _; rw [HN.out]; exact v5
  have HR := Lib.hid hr; have HS := Lib.hid h; have HNN := Lib.hid hN
  clear hr h hN hcb v5
  by_cases hmn : m = N
  · subst hmn
    have hE : hokB W T xs H = (hsMay W T xs H m && sdsOk W T xs H m && (H.getD (frstK W T xs m).toNat 0 == 0)) := by
      unfold hokB; rw [HS.out, ← HM.out, HNN.out]; simp
    have HE := Lib.hid hE; clear hE
    obtain ⟨fk, hfk⟩ := Int.eq_ofNat_of_zero_le hfr
    rw [hfk] at hfl
    have hfm : fk < m := by omega
    obtain ⟨hd, rest, hsd⟩ := sidesK_head hfr
    rw [hfk, Int.toNat_natCast] at hsd
    have HFK := Lib.hid hfk; clear hfk hfr hfl
    have HSD := Lib.hid hsd; clear hsd
    have hpos : 0 < m := by omega
    obtain ⟨lb, lo, rfl, -⟩ := HL.out 0 (by rw [← HM.out]; exact hpos)
    go_enter Try.func23, Try.ntmps23
    go_wp2_with fail
    refine (iSimple_any _ _ _ _ _ xs _ HN.out hn' (HA.out.one _)).mono ?_; rintro e w1 ⟨rfl, hb1⟩
    rw [HS.out]
    have p1 := heap_later (heap_new w (.cells #[.int .i64 W, .int .i64 T, .slice a n cap] 25)) hb1
    have b1 := below_seq (below1 w (.cells #[.int .i64 W, .int .i64 T, .slice a n cap] 25)) hb1
    clear hb1
    obtain ⟨c0, c1, c2⟩ := cells3 p1
    go_wp2_with fail
    refine (iCornerMany_any _ _ _ _ _ xs _ HN.out hn' (HA.out.below b1)).mono ?_; rintro e w2 ⟨rfl, hb2⟩
    rw [HC.out]
    have p2 := heap_later p1 hb2
    have b2 := below_seq b1 hb2
    clear hb2 p1 b1 c0 c1 c2
    go_wp2
    go_loopw [5, 6, 22] (fun _ _ i wr => ∃ k : Nat, k ≤ m ∧ i = .int .i64 k ∧ hsMay W T xs H k = true ∧ wr.heap[w.heap.size]? = some (.cells #[.int .i64 W, .int .i64 T, .slice a n cap] 25 (0, 0)) ∧ Below w.heap.size w wr) (fun _ _ i _ => m - (intOf i).toNat)
    case atStart => exact ⟨0, Nat.zero_le _, rfl, rfl, p2, b2⟩
    case round =>
      clear p2 b2
      rename World => wo
      obtain ⟨k, hk, rfl, hg, pr, hbel⟩ := hrel
      have HG := Lib.hid hg; clear hg
      have BEL := Lib.hid hbel; clear hbel
      obtain ⟨c0, c1, c2⟩ := cells3 pr
      by_cases hlt : k < m
      · have hcv := (HL.out.below BEL.out).cellAt (i := k) (by rw [← HM.out]; exact hlt)
        obtain ⟨v, hv⟩ : ∃ v, v = H.getD k 0 := ⟨_, rfl⟩
        rw [← hv] at hcv
        have e1 : (k : Int) < m := by omega
        have hkN : (k : Int) < (W + 1) * (T + 1) := by rw [HNN.out]; omega
        have HKN := Lib.hid hkN; clear hkN
        have hs := Lib.hid (hsMay_succ W T xs H k)
        cases hmay : hMay W T xs k v
        · have HF : Hid (hsMay W T xs H m = false) := hsMay_no hlt (by rw [← hv]; exact hmay)
          have HMY := Lib.hid hmay; clear hmay hv
          go_wp2_with fail
          refine (heightMay_any _ _ _ _ _ xs k v _ HN.out v1 v2 v3 v4 HWT.out HKN.out (HA.out.below BEL.out)).mono ?_; rintro e w3 ⟨rfl, hb3⟩
          rw [HMY.out]
          go_wp2
          go_ret
          exact ⟨ret_bool (by rw [HE.out, HF.out]; rfl), below_seq BEL.out hb3⟩
        · have HT : Hid (hsMay W T xs H (k + 1) = true) := by show _ = _; rw [hs.out, HG.out, ← hv, hmay]; rfl
          have HMY := Lib.hid hmay; clear hmay hv
          go_wp2_with fail
          refine (heightMay_any _ _ _ _ _ xs k v _ HN.out v1 v2 v3 v4 HWT.out HKN.out (HA.out.below BEL.out)).mono ?_; rintro e w3 ⟨rfl, hb3⟩
          rw [HMY.out]
          have p3 := heap_later pr hb3
          have b3 := below_seq BEL.out hb3
          go_wp2
          go_roundw
          case rel => exact ⟨k + 1, by omega, by go_num, HT.out, p3, b3⟩
          case measure => simp [intOf]; omega
      · obtain rfl : k = m := by omega
        obtain ⟨l, hl⟩ : ∃ l, l = sidesK W T xs k := ⟨_, rfl⟩
        have hll : 0 < l.length := by rw [hl, HSD.out]; simp
        have hl0 : l.getD 0 (0, false) = (fk, hd) := by rw [hl, HSD.out]; rfl
        have HSO : Hid (sdsTo W T xs H l l.length = sdsOk W T xs H k) := by show _ = _; rw [hl]; exact sdsTo_all
        have HNO : Hid (∀ i (hi : i < l.length), rMay W T xs l[i].1 l[i].2 (H.getD (sTo W l[i].1 l[i].2).toNat 0 - H.getD l[i].1 0) = false → sdsOk W T xs H k = false) := by
          intro i hi; subst hl; exact sdsTo_no hi
        have HMEM : Hid (∀ i (hi : i < l.length), l[i].1 < k ∧ sUsed W T xs l[i].1 l[i].2 = true) := by
          intro i hi; subst hl; exact sidesK_mem.1 (List.getElem_mem hi)
        have hlq : l.length ≤ 100 := by have := sidesK_len W T xs k; rw [← hl] at this; omega
        go_wp2_with fail
        refine (sidesOf_any _ _ _ _ _ xs k _ HN.out hn' HR.out HNN.out (HA.out.below BEL.out)).mono ?_; rintro e w3 ⟨v3', rfl, ho3, hb3⟩
        rw [← hl] at ho3
        clear hl
        obtain ⟨g, cap3, hv⟩ := OwnsSd.pos ho3 hll
        obtain ⟨q, hq⟩ : ∃ q, q = l.length := ⟨_, rfl⟩
        rw [← hq] at hv hlq hll
        subst hv
        have HQ := Lib.hid hq; clear hq
        have HL0 := Lib.hid hl0; clear hl0
        have O3 := Lib.hid ho3; clear ho3
        have B3 := Lib.hid (below_seq BEL.out hb3)
        clear hb3 pr c0 c1 c2
        go_wp2
        go_loopw [9, 37] (fun _ ci wr => ∃ i : Nat, i ≤ q ∧ ci = .int .i64 i ∧ sdsTo W T xs H l i = true ∧ OwnsSd wr wo.heap.size (.slice (some ⟨g, 0, none⟩) q cap3) W T xs l ∧ Below w.heap.size w wr) (fun _ ci _ => q - (intOf ci).toNat)
        case atStart => exact ⟨0, Nat.zero_le _, rfl, rfl, O3.out, B3.out⟩
        case round =>
          rename World => wq
          obtain ⟨i, hi, rfl, hst, hoi, hbi⟩ := hrel
          have HST := Lib.hid hst; clear hst
          have OI := Lib.hid hoi; clear hoi
          have BI := Lib.hid hbi; clear hbi
          by_cases hlt2 : i < q
          · have hil : i < l.length := by rw [← HQ.out]; exact hlt2
            obtain ⟨hkk, hus⟩ := HMEM.out i hil
            have hcell := OwnsSd.cellAt OI.out hil
            have hnx := sdsTo_succ (W := W) (T := T) (xs := xs) (H := H) hil
            have hno := HNO.out i hil
            obtain ⟨s, hs⟩ : ∃ s, s = l[i] := ⟨_, rfl⟩
            rw [← hs] at hkk hus hcell hnx hno
            clear hs
            obtain ⟨kk, nth⟩ := s
            (try simp only at hkk); (try simp only at hus); (try simp only at hcell); (try simp only at hnx); (try simp only at hno)
            obtain ⟨t0, t1, t2⟩ := sTo_lt v1 hus
            rw [HNN.out] at t2
            obtain ⟨kt, hkt⟩ := Int.eq_ofNat_of_zero_le t0
            rw [hkt] at t1 t2 hnx hno
            rw [Int.toNat_natCast] at hnx hno
            have htm : kt < k := by omega
            have ha1 := hsMay_at hkk HG.out
            have ha2 := hsMay_at htm HG.out
            unfold hMay at ha1 ha2
            rw [(hAt_iff v1).2 (Or.inl ⟨nth, hus⟩), if_pos rfl] at ha1
            rw [(hAt_iff v1).2 (Or.inr ⟨kk, nth, hus, hkt⟩), if_pos rfl] at ha2
            obtain ⟨x0, x1⟩ := inB_rng ha1
            obtain ⟨y0, y1⟩ := inB_rng ha2
            have gx := (HL.out.below BI.out).cellAt (i := kk) (by rw [← HM.out]; exact hkk)
            have gy := (HL.out.below BI.out).cellAt (i := kt) (by rw [← HM.out]; exact htm)
            obtain ⟨x, hx⟩ : ∃ x, x = H.getD kk 0 := ⟨_, rfl⟩
            obtain ⟨y, hy⟩ : ∃ y, y = H.getD kt 0 := ⟨_, rfl⟩
            rw [← hx] at x0 x1 gx hnx hno; rw [← hy] at y0 y1 gy hnx hno
            clear hx hy ha1 ha2
            have hr1 := rise_one W kk nth
            have HRM : Hid (rMay W T xs kk nth (y - x) = ((y - x) == sRise W kk nth || (sBoth W T xs kk nth && (y - x) == -3 * sRise W kk nth))) := rfl
            obtain ⟨rs, hrs⟩ : ∃ rs, rs = sRise W kk nth := ⟨_, rfl⟩
            obtain ⟨bo, hbo⟩ : ∃ bo, bo = sBoth W T xs kk nth := ⟨_, rfl⟩
            obtain ⟨cl, hcl⟩ : ∃ cl, cl = (if sBoth W T xs kk nth then sCell W kk nth else 0) := ⟨_, rfl⟩
            obtain ⟨wy, hwy⟩ : ∃ wy, wy = (if sBoth W T xs kk nth then sWay nth else 0) := ⟨_, rfl⟩
            have HEC : sdC W T xs (kk, nth) = [.int .i64 kk, .int .i64 kt, .int .i64 rs, .bool bo, .int .i64 cl, .int .i64 wy] := by unfold sdC; rw [hrs, hbo, hcl, hwy, ← hkt]
            rw [HEC] at hcell
            rw [← hrs] at hr1
            rw [← hrs, ← hbo] at HRM
            have f0 : wq.cell? ⟨g, i * 6, none⟩ = _ := hcell 0 _ rfl
            have f1 := hcell 1 _ rfl
            have f2 := hcell 2 _ rfl
            have f3 := hcell 3 _ rfl
            have f4 := hcell 4 _ rfl
            have f5 := hcell 5 _ rfl
            clear hrs hbo hcl hwy HEC hcell hus t0 hkt
            have HR1 := Lib.hid hr1; clear hr1
            have HNX := Lib.hid hnx; clear hnx
            have HNO2 := Lib.hid hno; clear hno
            have s1 : IntKind.i64.wrap (y - x) = y - x := by rw [IntKind.wrap_i64]; omega
            have k1 : (kk : Int) < k := by omega
            have k2 : (kt : Int) < k := by omega
            have i1 : (i : Int) < q := by omega
            cases hrm : rMay W T xs kk nth (y - x)
            · have HRV : Hid (((y - x) == rs || (bo && (y - x) == -3 * rs)) = false) := HRM.out.symm.trans hrm
              have HNE : Hid (sdsOk W T xs H k = false) := HNO2.out hrm
              clear hrm
              have PB : (wq.alloc (Obj.cells #[.int .i64 kk, .int .i64 kt, .int .i64 rs, .bool bo, .int .i64 cl, .int .i64 wy] 57)).drew.heap[wq.heap.size]? = some _ := heap_new wq (Obj.cells #[.int .i64 kk, .int .i64 kt, .int .i64 rs, .bool bo, .int .i64 cl, .int .i64 wy] 57)
              obtain ⟨h0, h1, h2, h3, h4, h5⟩ := cells6 PB
              have gx2 : (wq.alloc (Obj.cells #[.int .i64 kk, .int .i64 kt, .int .i64 rs, .bool bo, .int .i64 cl, .int .i64 wy] 57)).drew.cell? ⟨lb, lo + kk, none⟩ = some (.int .i64 x) := cell_later (below_seq (below1 wq (Obj.cells #[.int .i64 kk, .int .i64 kt, .int .i64 rs, .bool bo, .int .i64 cl, .int .i64 wy] 57)) (drew_below _)) gx
              have gy2 : (wq.alloc (Obj.cells #[.int .i64 kk, .int .i64 kt, .int .i64 rs, .bool bo, .int .i64 cl, .int .i64 wy] 57)).drew.cell? ⟨lb, lo + kt, none⟩ = some (.int .i64 y) := cell_later (below_seq (below1 wq (Obj.cells #[.int .i64 kk, .int .i64 kt, .int .i64 rs, .bool bo, .int .i64 cl, .int .i64 wy] 57)) (drew_below _)) gy
              have BB := Lib.hid (below_seq BI.out (below1 wq (Obj.cells #[.int .i64 kk, .int .i64 kt, .int .i64 rs, .bool bo, .int .i64 cl, .int .i64 wy] 57)))
              go_wp2
              go_region_held3 (fun w' => w'.cell? ⟨wq.heap.size, 0, none⟩ = some (.int .i64 kk) ∧ w'.cell? ⟨wq.heap.size, 1, none⟩ = some (.int .i64 kt) ∧ w'.cell? ⟨wq.heap.size, 2, none⟩ = some (.int .i64 rs) ∧ w'.cell? ⟨wq.heap.size, 3, none⟩ = some (.bool bo) ∧ w'.cell? ⟨wq.heap.size, 4, none⟩ = some (.int .i64 cl) ∧ w'.cell? ⟨wq.heap.size, 5, none⟩ = some (.int .i64 wy) ∧ w'.cell? ⟨lb, lo + kk, none⟩ = some (.int .i64 x) ∧ w'.cell? ⟨lb, lo + kt, none⟩ = some (.int .i64 y))
                (go_keep)
                (first
                  | (go_at_call 81; refine (riseMay_any _ _ _ _ _ _ _ _ HR1.out).mono ?_; rintro e w4 ⟨rfl, hb4⟩; rw [HRV.out]; have p4 := heap_later PB hb4; obtain ⟨e0, e1, e2, e3, e4, e5⟩ := cells6 p4; have gx4 := cell_later hb4 gx2; have gy4 := cell_later hb4 gy2))
              go_wp2
              go_ret
              exact ⟨ret_bool (by rw [HE.out, HNE.out]; simp), below_seq BB.out (below_seq (drew_below _) hb4)⟩
            · have HRV : Hid (((y - x) == rs || (bo && (y - x) == -3 * rs)) = true) := HRM.out.symm.trans hrm
              have HTR : Hid (sdsTo W T xs H l (i + 1) = true) := by show _ = _; rw [HNX.out, HST.out, hrm]; rfl
              clear hrm
              have PB : (wq.alloc (Obj.cells #[.int .i64 kk, .int .i64 kt, .int .i64 rs, .bool bo, .int .i64 cl, .int .i64 wy] 57)).drew.heap[wq.heap.size]? = some _ := heap_new wq (Obj.cells #[.int .i64 kk, .int .i64 kt, .int .i64 rs, .bool bo, .int .i64 cl, .int .i64 wy] 57)
              obtain ⟨h0, h1, h2, h3, h4, h5⟩ := cells6 PB
              have gx2 : (wq.alloc (Obj.cells #[.int .i64 kk, .int .i64 kt, .int .i64 rs, .bool bo, .int .i64 cl, .int .i64 wy] 57)).drew.cell? ⟨lb, lo + kk, none⟩ = some (.int .i64 x) := cell_later (below_seq (below1 wq (Obj.cells #[.int .i64 kk, .int .i64 kt, .int .i64 rs, .bool bo, .int .i64 cl, .int .i64 wy] 57)) (drew_below _)) gx
              have gy2 : (wq.alloc (Obj.cells #[.int .i64 kk, .int .i64 kt, .int .i64 rs, .bool bo, .int .i64 cl, .int .i64 wy] 57)).drew.cell? ⟨lb, lo + kt, none⟩ = some (.int .i64 y) := cell_later (below_seq (below1 wq (Obj.cells #[.int .i64 kk, .int .i64 kt, .int .i64 rs, .bool bo, .int .i64 cl, .int .i64 wy] 57)) (drew_below _)) gy
              have BB := Lib.hid (below_seq BI.out (below1 wq (Obj.cells #[.int .i64 kk, .int .i64 kt, .int .i64 rs, .bool bo, .int .i64 cl, .int .i64 wy] 57)))
              go_wp2
              go_region_held3 (fun w' => w'.cell? ⟨wq.heap.size, 0, none⟩ = some (.int .i64 kk) ∧ w'.cell? ⟨wq.heap.size, 1, none⟩ = some (.int .i64 kt) ∧ w'.cell? ⟨wq.heap.size, 2, none⟩ = some (.int .i64 rs) ∧ w'.cell? ⟨wq.heap.size, 3, none⟩ = some (.bool bo) ∧ w'.cell? ⟨wq.heap.size, 4, none⟩ = some (.int .i64 cl) ∧ w'.cell? ⟨wq.heap.size, 5, none⟩ = some (.int .i64 wy) ∧ w'.cell? ⟨lb, lo + kk, none⟩ = some (.int .i64 x) ∧ w'.cell? ⟨lb, lo + kt, none⟩ = some (.int .i64 y))
                (go_keep)
                (first
                  | (go_at_call 81; refine (riseMay_any _ _ _ _ _ _ _ _ HR1.out).mono ?_; rintro e w4 ⟨rfl, hb4⟩; rw [HRV.out]; have p4 := heap_later PB hb4; obtain ⟨e0, e1, e2, e3, e4, e5⟩ := cells6 p4; have gx4 := cell_later hb4 gx2; have gy4 := cell_later hb4 gy2))
              have O4 := Lib.hid (OwnsSd.below (OwnsSd.below OI.out (below_seq (below1 wq (Obj.cells #[.int .i64 kk, .int .i64 kt, .int .i64 rs, .bool bo, .int .i64 cl, .int .i64 wy] 57)) (drew_below _))) hb4)
              go_wp2
              go_roundw
              case rel => exact ⟨i + 1, by omega, by go_num, HTR.out, O4.out, below_seq BB.out (below_seq (drew_below _) hb4)⟩
              case measure => simp [intOf]; omega
          · obtain rfl : i = q := by omega
            have HSD2 : Hid (sdsOk W T xs H k = true) := by show _ = _; rw [← HSO.out, ← HQ.out]; exact HST.out
            have hil : 0 < l.length := by rw [← HQ.out]; exact hll
            have hcell := OwnsSd.cellAt OI.out hil
            have hl1 : l[0] = (fk, hd) := by rw [← HL0.out]; simp [List.getD, hil]
            rw [hl1] at hcell
            have f0 := hcell 0 (.int .i64 fk) rfl
            have gf := (HL.out.below BI.out).cellAt (i := fk) (by rw [← HM.out]; exact hfm)
            obtain ⟨z, hz⟩ : ∃ z, z = H.getD fk 0 := ⟨_, rfl⟩
            rw [← hz] at gf
            have HEE : Hid (hokB W T xs H = (z == 0)) := by show _ = _; rw [HE.out, HG.out, HSD2.out, HFK.out, Int.toNat_natCast, ← hz]; rfl
            have fk1 : (fk : Int) < k := by omega
            clear hcell hl1 hz
            go_wp2_with fail
            refine (firstCorner_any g i cap3 fk _ hll (by omega) (by simpa using f0)).mono ?_; rintro e w5 ⟨rfl, rfl⟩
            go_wp2
            go_ret
            exact ⟨ret_bool HEE.out.symm, BI.out⟩
  · have e : hokB W T xs H = false := by
      unfold hokB
      rw [HNN.out, show decide ((H.length : Int) = (N : Int)) = false by rw [← HM.out]; simp; omega]; simp
    rw [e]
    have n1 : ((m : Int) != N) = true := by simp; omega
    have n2 : ((m : Int) == N) = false := by simp; omega
    have n3 : (m == N) = false := by simpa using hmn
    have n4 : (m != N) = true := by simpa using hmn
    clear e hfr hfl
    go_enter Try.func23, Try.ntmps23
    go_wp2_with fail
    refine (iSimple_any _ _ _ _ _ xs _ HN.out hn' (HA.out.one _)).mono ?_; rintro e w1 ⟨rfl, hb1⟩
    rw [HS.out]
    have p1 := heap_later (heap_new w (.cells #[.int .i64 W, .int .i64 T, .slice a n cap] 25)) hb1
    have b1 := below_seq (below1 w (.cells #[.int .i64 W, .int .i64 T, .slice a n cap] 25)) hb1
    obtain ⟨c0, c1, c2⟩ := cells3 p1
    go_wp2_with fail
    refine (iCornerMany_any _ _ _ _ _ xs _ HN.out hn' (HA.out.below b1)).mono ?_; rintro e w2 ⟨rfl, hb2⟩
    rw [HC.out]
    go_wp2
    go_ret
    exact ⟨rfl, below_seq b1 hb2⟩
end Go.Proofs.Ytknigcjpgkolgaa

namespace Go.Proofs.Ytknigcjpgkolgaa
open Go.RowKit
set_option linter.unusedVariables false
set_option maxRecDepth 100000
set_option linter.unusedSimpArgs false

/-- A region and two lists were drawn of a code. -/
def DrawnRLL (w : World) (e : Ending) (w' : World) : Prop :=
  ∃ (W T : Int) (a : Option Addr) (n cap : Nat) (xs : List Bool) (la : Option Addr) (m lcap : Nat) (L : List Int) (lb : Option Addr) (q bcap : Nat) (M : List Int), e = .returned (.tuple #[.agg #[.int .i64 W, .int .i64 T, .slice a n cap], .slice la m lcap, .slice lb q bcap]) ∧
    n = xs.length ∧ n ≤ 36 ∧ (0 ≤ W ∧ W ≤ 6 ∧ 0 ≤ T ∧ T ≤ 6) ∧ OwnsB w' w.heap.size (.slice a n cap) xs ∧ m = L.length ∧ m ≤ 49 ∧ OwnsI w' w.heap.size (.slice la m lcap) L ∧ q = M.length ∧ q ≤ 49 ∧ OwnsI w' w.heap.size (.slice lb q bcap) M ∧ Below w.heap.size w w'
theorem own_set3 {w : World} {B : Nat} {v : Value} {xs : List Int} (h : OwnsI w B v xs) {b : Nat} (hb : b < B) (x y z : Value) : OwnsI (((w.setCell ⟨b, 0, none⟩ x).setCell ⟨b, 1, none⟩ y).setCell ⟨b, 2, none⟩ z) B v xs :=
  ((h.setBelow (p := ⟨b, 0, none⟩) hb x).setBelow (p := ⟨b, 1, none⟩) hb y).setBelow (p := ⟨b, 2, none⟩) hb z
end Go.Proofs.Ytknigcjpgkolgaa
