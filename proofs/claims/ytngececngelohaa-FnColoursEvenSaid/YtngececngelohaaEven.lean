/- Contracts of slices.Min and slices.Max at short lists of integers and of both functions ColoursEven. No statement is proved here. -/
import Derived.Test.YtngececngelohaaColr
namespace Go.Proofs.Ytngececngelohaa
open Go.RowKit
set_option linter.unusedVariables false
set_option maxRecDepth 100000
set_option linter.unusedSimpArgs false

set_option maxHeartbeats 1000000 in
theorem minI_any (g N cap B : Nat) (f : Nat → Int) (w : World) (h : RowI w B g N cap f) (h0 : 0 < N) (h1 : N ≤ 1048576) :
    Calls Try.prog 25 #[.slice (some ⟨g, 0, none⟩) N cap] w fun e w' => ∃ v, e = .returned (.int .i64 v) ∧ (∀ i, i < N → v ≤ f i) ∧ (∃ i, i < N ∧ v = f i) ∧ w' = w := by
  have HR := Lib.hid h; clear h
  have hc0 := HR.out.cell h0
  have e0 : ¬ (N : Int) < 1 := by omega
  have e1 : (0 : Int) < N := by omega
  go_enter Try.func25, Try.ntmps25
  go_wp2
  go_loop [3, 4] (fun m i => ∃ (k : Nat) (v : Int), 1 ≤ k ∧ k ≤ N ∧ i = .int .i64 k ∧ m = .int .i64 v ∧ (∀ i, i < k → v ≤ f i) ∧ ∃ i, i < k ∧ v = f i) (fun _ i => N - (intOf i).toNat)
  case atStart => exact ⟨1, f 0, Nat.le_refl _, h0, rfl, rfl, fun i hi => (by obtain rfl : i = 0 := (by omega); exact Int.le_refl _), ⟨0, by omega, rfl⟩⟩
  case round =>
    obtain ⟨k, v, hk1, hk, rfl, rfl, hle, hex⟩ := hrel
    have HLE := Lib.hid hle; clear hle
    have HEX := Lib.hid hex; clear hex
    by_cases hlt : k < N
    · have hck := HR.out.cell hlt
      have k1 : (k : Int) < N := by omega
      have k2 : (0 : Int) ≤ k := by omega
      by_cases hv : f k < v
      · have hv' : decide (f k < v) = true := decide_eq_true hv
        go_wp2
        go_round
        case rel => exact ⟨k + 1, f k, by omega, by omega, by go_num, by simp [hv], fun i hi => (by rcases Nat.lt_or_ge i k with h | h; exact (by have := HLE.out i h; omega); exact (by rw [show i = k by omega]; exact Int.le_refl _)), ⟨k, by omega, rfl⟩⟩
        case measure => simp [intOf]; omega
      · have hv' : decide (f k < v) = false := decide_eq_false hv
        go_wp2
        go_round
        case rel => exact ⟨k + 1, v, by omega, by omega, by go_num, by simp [hv], fun i hi => (by rcases Nat.lt_or_ge i k with h | h; exact HLE.out i h; exact (by rw [show i = k by omega]; omega)), by obtain ⟨i, h1, h2⟩ := HEX.out; exact ⟨i, by omega, h2⟩⟩
        case measure => simp [intOf]; omega
    · obtain rfl : k = N := by omega
      go_wp2
      go_ret
      exact ⟨v, rfl, HLE.out, HEX.out, rfl⟩

set_option maxHeartbeats 1000000 in
theorem maxI_any (g N cap B : Nat) (f : Nat → Int) (w : World) (h : RowI w B g N cap f) (h0 : 0 < N) (h1 : N ≤ 1048576) :
    Calls Try.prog 26 #[.slice (some ⟨g, 0, none⟩) N cap] w fun e w' => ∃ v, e = .returned (.int .i64 v) ∧ (∀ i, i < N → f i ≤ v) ∧ (∃ i, i < N ∧ v = f i) ∧ w' = w := by
  have HR := Lib.hid h; clear h
  have hc0 := HR.out.cell h0
  have e0 : ¬ (N : Int) < 1 := by omega
  have e1 : (0 : Int) < N := by omega
  go_enter Try.func26, Try.ntmps26
  go_wp2
  go_loop [3, 4] (fun m i => ∃ (k : Nat) (v : Int), 1 ≤ k ∧ k ≤ N ∧ i = .int .i64 k ∧ m = .int .i64 v ∧ (∀ i, i < k → f i ≤ v) ∧ ∃ i, i < k ∧ v = f i) (fun _ i => N - (intOf i).toNat)
  case atStart => exact ⟨1, f 0, Nat.le_refl _, h0, rfl, rfl, fun i hi => (by obtain rfl : i = 0 := (by omega); exact Int.le_refl _), ⟨0, by omega, rfl⟩⟩
  case round =>
    obtain ⟨k, v, hk1, hk, rfl, rfl, hle, hex⟩ := hrel
    have HLE := Lib.hid hle; clear hle
    have HEX := Lib.hid hex; clear hex
    by_cases hlt : k < N
    · have hck := HR.out.cell hlt
      have k1 : (k : Int) < N := by omega
      have k2 : (0 : Int) ≤ k := by omega
      by_cases hv : v < f k
      · have hv' : decide (v < f k) = true := decide_eq_true hv
        go_wp2
        go_round
        case rel => exact ⟨k + 1, f k, by omega, by omega, by go_num, by simp [hv], fun i hi => (by rcases Nat.lt_or_ge i k with h | h; exact (by have := HLE.out i h; omega); exact (by rw [show i = k by omega]; exact Int.le_refl _)), ⟨k, by omega, rfl⟩⟩
        case measure => simp [intOf]; omega
      · have hv' : decide (v < f k) = false := decide_eq_false hv
        go_wp2
        go_round
        case rel => exact ⟨k + 1, v, by omega, by omega, by go_num, by simp [hv], fun i hi => (by rcases Nat.lt_or_ge i k with h | h; exact HLE.out i h; exact (by rw [show i = k by omega]; omega)), by obtain ⟨i, h1, h2⟩ := HEX.out; exact ⟨i, by omega, h2⟩⟩
        case measure => simp [intOf]; omega
    · obtain rfl : k = N := by omega
      go_wp2
      go_ret
      exact ⟨v, rfl, HLE.out, HEX.out, rfl⟩

/-- Whether all colours are as many. -/
def evenTo (W : Int) (xs : List Bool) (r : Int) (k : Nat) : Bool := (List.range k).all fun s => colN W xs r s xs.length == colN W xs r 0 xs.length
def evenF (W T : Int) (xs : List Bool) (r : Int) : Bool := rv W T xs && barB r && evenTo W xs r r.toNat
theorem evenTo_iff {W : Int} {xs : List Bool} {r : Int} {k : Nat} : evenTo W xs r k = true ↔ ∀ s, s < k → colN W xs r s xs.length = colN W xs r 0 xs.length := by
  unfold evenTo; simp [List.all_eq_true]
theorem evenTo_succ (W : Int) (xs : List Bool) (r : Int) (k : Nat) : evenTo W xs r (k + 1) = (evenTo W xs r k && (colN W xs r k xs.length == colN W xs r 0 xs.length)) := by
  unfold evenTo; rw [List.range_succ, List.all_append]; simp

set_option maxHeartbeats 2000000 in
theorem iColoursEven_any (W T r : Int) (a : Option Addr) (n cap : Nat) (xs : List Bool) (w : World) (hn : n = xs.length) (hn' : n ≤ 1048576) (ha : BoolsAt w a xs) :
    Calls Try.prog 10 #[.agg #[.int .i64 W, .int .i64 T, .slice a n cap], .int .i64 r] w fun e w' => e = .returned (.bool (evenF W T xs r)) ∧ Below w.heap.size w w' := by
  have HN := Lib.hid hn; clear hn
  have HA := Lib.hid ha; clear ha
  cases h : rv W T xs
  · have e : evenF W T xs r = false := by unfold evenF; rw [h]; rfl
    rw [e]
    have H := Lib.hid h; clear h e
    go_enter Try.func10, Try.ntmps10
    go_wp2_with fail
    refine (iRegionValid_any _ _ _ _ _ xs _ HN.out hn' (HA.out.one _)).mono ?_; rintro e w1 ⟨rfl, hb1⟩
    rw [H.out]
    go_wp2
    go_ret
    exact ⟨rfl, below_seq (below1 _ _) hb1⟩
  · obtain ⟨v1, v2, v3, v4, v5, _⟩ := rv_true h
    have HV := Lib.hid v5; clear v5
    cases hb : barB r
    · have e : evenF W T xs r = false := by unfold evenF; rw [h, hb]; rfl
      rw [e]
      have H := Lib.hid h; clear h e
      have HB := Lib.hid hb; clear hb
      go_enter Try.func10, Try.ntmps10
      go_wp2_with fail
      refine (iRegionValid_any _ _ _ _ _ xs _ HN.out hn' (HA.out.one _)).mono ?_; rintro e w1 ⟨rfl, hb1⟩
      rw [H.out]
      go_wp2_with fail
      refine (barOk_any _ _).mono ?_; rintro e w2 ⟨rfl, rfl⟩
      rw [HB.out]
      go_wp2
      go_ret
      exact ⟨rfl, below_seq (below1 _ _) hb1⟩
    · have hr : 1 ≤ r ∧ r ≤ 4 := by simpa [barB] using hb
      obtain ⟨r1, r4⟩ := hr
      have e : evenF W T xs r = evenTo W xs r r.toNat := by unfold evenF; rw [h, hb]; rfl
      rw [e]
      have H := Lib.hid h; clear h e
      have HB := Lib.hid hb; clear hb
      go_enter Try.func10, Try.ntmps10
      go_wp2_with fail
      refine (iRegionValid_any _ _ _ _ _ xs _ HN.out hn' (HA.out.one _)).mono ?_; rintro e w1 ⟨rfl, hb1⟩
      rw [H.out]
      have p1 := heap_later (heap_new w (.cells #[.int .i64 W, .int .i64 T, .slice a n cap] 30)) hb1
      have b1 := below_seq (below1 _ _) hb1
      clear hb1
      have l1 := heap_lt p1
      obtain ⟨c0, c1, c2⟩ := cells3 p1
      go_wp2_with fail
      refine (barOk_any _ _).mono ?_; rintro e w2 ⟨rfl, hw2⟩
      subst hw2
      rw [HB.out]
      go_wp2_with fail
      refine (coloursOf_any _ _ _ _ _ _ xs _ HN.out hn' v1 v2 r1 r4 (HA.out.below b1)).mono ?_; rintro e w3 ⟨g, cap', rfl, hr3, hb3⟩
      have HR3 := Lib.hid hr3; clear hr3
      have B3 := Lib.hid (below_seq b1 hb3)
      clear hb3 c0 c1 c2
      go_wp2_with fail
      refine (minI_any _ _ _ _ _ _ HR3.out (by omega) (by omega)).mono ?_; rintro e w4 ⟨v, rfl, hm1, hm2, hw4⟩
      subst hw4
      go_wp2_with fail
      refine (maxI_any _ _ _ _ _ _ HR3.out (by omega) (by omega)).mono ?_; rintro e w5 ⟨u, rfl, hM1, hM2, hw5⟩
      subst hw5
      have he : (v == u) = evenTo W xs r r.toNat := by
        apply Bool.eq_iff_iff.2
        rw [evenTo_iff, beq_iff_eq, ← HN.out]
        constructor
        · intro h s hs
          have q1 := hm1 s hs; have q2 := hM1 s hs
          have q3 := hm1 0 (by omega); have q4 := hM1 0 (by omega)
          simp only [Int.ofNat_zero] at q3 q4
          omega
        · intro h
          obtain ⟨i, hi, rfl⟩ := hm2
          obtain ⟨j, hj, rfl⟩ := hM2
          rw [h i hi, h j hj]
      clear hm1 hm2 hM1 hM2
      go_wp2
      go_ret
      exact ⟨rfl, B3.out⟩

set_option maxHeartbeats 2000000 in
theorem sColoursEven_any (W T r : Int) (a : Option Addr) (n cap : Nat) (xs : List Bool) (w : World) (hn : n = xs.length) (hn' : n ≤ 1048576) (ha : BoolsAt w a xs) :
    Calls Try.prog 11 #[.agg #[.int .i64 W, .int .i64 T, .slice a n cap], .int .i64 r] w fun e w' => e = .returned (.bool (evenF W T xs r)) ∧ Below w.heap.size w w' := by
  have HN := Lib.hid hn; clear hn
  have HA := Lib.hid ha; clear ha
  cases h : rv W T xs
  · have e : evenF W T xs r = false := by unfold evenF; rw [h]; rfl
    rw [e]
    have H := Lib.hid h; clear h e
    go_enter Try.func11, Try.ntmps11
    go_wp2_with fail
    refine (sRegionValid_any _ _ _ _ _ xs _ HN.out hn' (HA.out.one _)).mono ?_; rintro e w1 ⟨rfl, hb1⟩
    rw [H.out]
    go_wp2
    go_ret
    exact ⟨rfl, below_seq (below1 _ _) hb1⟩
  · cases hb : barB r
    · have e : evenF W T xs r = false := by unfold evenF; rw [h, hb]; rfl
      rw [e]
      have H := Lib.hid h; clear h e
      have hb' : inB r 1 4 = false := by rw [← hb]; simp [inB, barB]
      have HB := Lib.hid hb'; clear hb hb'
      go_enter Try.func11, Try.ntmps11
      go_wp2_with fail
      refine (sRegionValid_any _ _ _ _ _ xs _ HN.out hn' (HA.out.one _)).mono ?_; rintro e w1 ⟨rfl, hb1⟩
      rw [H.out]
      go_wp2_with fail
      refine (l1In_same7 _ _ _ _ HB.out).mono ?_; rintro e w2 ⟨rfl, rfl⟩
      go_wp2
      go_ret
      exact ⟨rfl, below_seq (below1 _ _) hb1⟩
    · have hr : 1 ≤ r ∧ r ≤ 4 := by simpa [barB] using hb
      obtain ⟨r1, r4⟩ := hr
      have e : evenF W T xs r = evenTo W xs r r.toNat := by unfold evenF; rw [h, hb]; rfl
      rw [e]
      have hcol : ∀ s : Int, 0 ≤ s → s < r → colF W T xs r s = colN W xs r s n := by
        intro s h0 h1
        unfold colF colOk
        rw [h, hb, decide_eq_true h0, decide_eq_true h1, HN.out]; rfl
      have HCOL := Lib.hid hcol; clear hcol
      have H := Lib.hid h; clear h e
      have hb' : inB r 1 4 = true := by rw [← hb]; simp [inB, barB]
      have HB := Lib.hid hb'; clear hb hb'
      obtain ⟨N, rfl⟩ := Int.eq_ofNat_of_zero_le (show 0 ≤ r by omega)
      simp only [Int.toNat_natCast]
      go_enter Try.func11, Try.ntmps11
      go_wp2_with fail
      refine (sRegionValid_any _ _ _ _ _ xs _ HN.out hn' (HA.out.one _)).mono ?_; rintro e w1 ⟨rfl, hb1⟩
      rw [H.out]
      have p1 := heap_later (heap_new w (.cells #[.int .i64 W, .int .i64 T, .slice a n cap] 30)) hb1
      have b1 := below_seq (below1 _ _) hb1
      clear hb1
      have l1 := heap_lt p1
      go_wp2_with fail
      refine (l1In_same7 _ _ _ _ HB.out).mono ?_; rintro e w2 ⟨rfl, rfl⟩
      go_wp2_with fail
      go_loopw [5] (fun i wr => ∃ k : Nat, k ≤ N ∧ i = .int .i64 k ∧ evenTo W xs N k = true ∧ wr.heap[w.heap.size]? = some (.cells #[.int .i64 W, .int .i64 T, .slice a n cap] 30 (0, 0)) ∧ Below w.heap.size w wr) (fun i _ => N - (intOf i).toNat)
      case atStart => exact ⟨0, Nat.zero_le _, rfl, rfl, p1, b1⟩
      case round =>
        rename World => wo
        obtain ⟨k, hk, rfl, hev, pr, hbel⟩ := hrel
        have HEV := Lib.hid hev; clear hev
        have BEL := Lib.hid hbel; clear hbel
        obtain ⟨c0, c1, c2⟩ := cells3 pr
        have PR := Lib.hid pr
        have l2 := heap_lt pr
        clear pr
        by_cases hlt : k < N
        · have e1 : (k : Int) < N := by omega
          have h1 := HCOL.out k (by omega) e1
          have h2 := HCOL.out 0 (by omega) (by omega)
          have HC1 := Lib.hid h1; clear h1
          have HC2 := Lib.hid h2; clear h2
          have hd := drew_below wo
          go_wp2_with fail
          go_region_held3 (fun w' => w'.cell? ⟨w.heap.size, 0, none⟩ = some (.int .i64 W) ∧ w'.cell? ⟨w.heap.size, 1, none⟩ = some (.int .i64 T) ∧ w'.cell? ⟨w.heap.size, 2, none⟩ = some (.slice a n cap))
            (go_keep)
            (first
              | (go_at_call 28; refine (sColourMany_any W T N 0 a n cap xs _ HN.out hn' (HA.out.below (below_seq BEL.out (below_seq hd hbA)))).mono ?_; rintro e wB ⟨rfl, hbB⟩; have p3 := heap_later p2 hbB; obtain ⟨f0, f1, f2⟩ := cells3 p3)
              | (go_at_call 28; refine (sColourMany_any W T N k a n cap xs _ HN.out hn' (HA.out.below (below_seq BEL.out hd))).mono ?_; rintro e wA ⟨rfl, hbA⟩; have p2 := heap_later (heap_later PR.out hd) hbA; obtain ⟨d0, d1, d2⟩ := cells3 p2))
          have BB := Lib.hid (below_seq (below_seq BEL.out hd) (below_seq hbA hbB))
          rw [HC1.out, HC2.out]
          by_cases hq : colN W xs N k n = colN W xs N 0 n
          · have HQ : Hid (evenTo W xs N (k + 1) = true) := by show _ = _; rw [evenTo_succ, HEV.out, ← HN.out, hq]; simp
            rw [hq]
            go_wp2
            go_roundw
            case rel => exact ⟨k + 1, by omega, by go_num, HQ.out, p3, BB.out⟩
            case measure => simp [intOf]; omega
          · have HQ : Hid (evenTo W xs N N = false) := by
              show _ = _
              rw [Bool.eq_false_iff]
              intro h
              exact hq (by rw [HN.out]; exact evenTo_iff.1 h k hlt)
            have hq' : ((colN W xs N k n : Int) != (colN W xs N 0 n : Int)) = true := by rw [bne_iff_ne]; intro h; exact hq (by exact_mod_cast h)
            go_wp2
            go_ret
            exact ⟨ret_bool HQ.out.symm, BB.out⟩
        · obtain rfl : k = N := by omega
          go_wp2
          go_ret
          exact ⟨ret_bool HEV.out.symm, BEL.out⟩

end Go.Proofs.Ytngececngelohaa
