/- Contracts of impl.barOk, impl.coloursOf and of both functions ColourMany. No statement is proved here. -/
import Derived.Test.YtngececngelohaaDark
import Derived.Test.YtngececngelohaaInts
namespace Go.Proofs.Ytngececngelohaa
open Go.RowKit
set_option linter.unusedVariables false
set_option maxRecDepth 100000
set_option linter.unusedSimpArgs false

/-- Whether the k-th cell has a colour, in a field that is W cells wide. -/
def clAt (W r s : Int) (k : Nat) : Bool := ((k : Int) % W + (k : Int) / W) % r == s
def colN (W : Int) (xs : List Bool) (r s : Int) (k : Nat) : Nat := (List.range k).countP fun i => xs.getD i false && clAt W r s i
theorem colN_succ (W : Int) (xs : List Bool) (r s : Int) (k : Nat) : colN W xs r s (k + 1) = colN W xs r s k + if xs.getD k false && clAt W r s k then 1 else 0 := by
  unfold colN
  rw [List.range_succ, List.countP_append]
  simp [List.countP_cons]
theorem colN_le (W : Int) (xs : List Bool) (r s : Int) (k : Nat) : colN W xs r s k ≤ k := by
  have := List.countP_le_length (p := fun i => xs.getD i false && clAt W r s i) (l := List.range k)
  rw [List.length_range] at this; exact this
def barB (r : Int) : Bool := decide (1 ≤ r) && decide (r ≤ 4)
def colOk (W T : Int) (xs : List Bool) (r s : Int) : Bool := rv W T xs && barB r && decide (0 ≤ s) && decide (s < r)
def colF (W T : Int) (xs : List Bool) (r s : Int) : Int := if colOk W T xs r s then colN W xs r s xs.length else -1

theorem l1In_same7 (n lo hi : Int) (w : World) {b : Bool} (h : inB n lo hi = b) :
    Calls Try.prog 18 #[.int .i64 n, .int .i64 lo, .int .i64 hi] w fun e w' => e = .returned (.bool b) ∧ w = w' :=
  (l1In_any n lo hi w).mono fun _ _ ⟨he, hw⟩ => ⟨by rw [he, h], hw⟩
theorem alloc_size1 (w : World) (o : Obj) : (w.alloc o).heap.size = w.heap.size + 1 := by simp

theorem RowI.lower {w : World} {B B' g N cap : Nat} {f : Nat → Int} (h : RowI w B g N cap f) (hB : B' ≤ B) : RowI w B' g N cap f :=
  ⟨h.1, h.2.elim Or.inl (fun ⟨g, cap, cur, hv, hg, r⟩ => Or.inr ⟨g, cap, cur, hv, Nat.le_trans hB hg, r⟩)⟩

theorem barOk_any (r : Int) (w : World) : Calls Try.prog 23 #[.int .i64 r] w fun e w' => e = .returned (.bool (barB r)) ∧ w' = w := by
  by_cases h1 : 1 ≤ r
  · by_cases h2 : r ≤ 4
    all_goals
      go_enter Try.func23, Try.ntmps23
      go_wp2
      go_ret
      exact ⟨ret_bool (by simp [barB, h1, h2]), rfl⟩
  · go_enter Try.func23, Try.ntmps23
    go_wp2
    go_ret
    exact ⟨ret_bool (by simp [barB]; omega), rfl⟩

set_option maxHeartbeats 2000000 in
theorem coloursOf_any (W T r : Int) (a : Option Addr) (n cap : Nat) (xs : List Bool) (w : World) (hn : n = xs.length) (hn' : n ≤ 1048576) (hW : 1 ≤ W) (hW6 : W ≤ 6) (h1 : 1 ≤ r) (h4 : r ≤ 4) (ha : BoolsAt w a xs) :
    Calls Try.prog 24 #[.agg #[.int .i64 W, .int .i64 T, .slice a n cap], .int .i64 r] w fun e w' => ∃ g cap', e = .returned (.slice (some ⟨g, 0, none⟩) r.toNat cap') ∧ RowI w' w.heap.size g r.toNat cap' (fun s => (colN W xs r s n : Int)) ∧ Below w.heap.size w w' := by
  have HN := Lib.hid hn; clear hn
  have HA := Lib.hid ha; clear ha
  obtain ⟨i0, hi, hz0, hz1, hz2⟩ := info_parts infoInt
  obtain ⟨N, rfl⟩ := Int.eq_ofNat_of_zero_le (show 0 ≤ r by omega)
  have hr4 : N ≤ 4 := by omega
  go_enter Try.func24, Try.ntmps24
  go_wp2_with (at_make; refine wpList_make_full _ rfl _ _ 39 rfl (w.heap.size + 1) 3 i0 (.int .i64 0) 1 Try.underlying39 hi hz0 hz1 _ _ _ _ N rfl rfl rfl rfl (by rw [hz2]; omega) (by unfold maxLen; omega) (by simp) ?_; intro w2 hown hgrow; rw [show (Value.int .i64 0).cells = #[.int .i64 0] from rfl, toList_madeCells_one, alloc_size1] at hown; have HR2 := Lib.hid ((RowI.of (OwnsI.ofRow (xs := List.replicate N 0) hown (by simp) (by simp)) (by simp)).congr (f' := fun s => (colN W xs N s 0 : Int)) (fun i hi => by simp [hi, colN])); have p2 := heap_grown (heap_new w (.cells #[.int .i64 W, .int .i64 T, .slice a n cap] 30)) hgrow (by simp); have b2 := below_grown (below1 w _) hgrow (Nat.le_refl _) (by simp); clear hown hgrow; obtain ⟨c0, c1, c2⟩ := cells3 p2; have l2 := heap_lt p2)
  clear c0 c1 c2
  go_loopw [6, 7, 13] (fun _ _ i wr => ∃ k : Nat, k ≤ n ∧ i = .int .i64 k ∧ RowI wr (w.heap.size + 1) (w.heap.size + 1) N N (fun s => (colN W xs N s k : Int)) ∧ wr.heap[w.heap.size]? = some (.cells #[.int .i64 W, .int .i64 T, .slice a n cap] 30 (0, 0)) ∧ Below w.heap.size w wr) (fun _ _ i _ => n - (intOf i).toNat)
  case atStart => exact ⟨0, Nat.zero_le _, rfl, HR2.out, p2, b2⟩
  case round =>
    rename World => wo
    obtain ⟨k, hk, rfl, ho, pr, hbel⟩ := hrel
    have HO := Lib.hid ho; clear ho
    have BEL := Lib.hid hbel; clear hbel
    obtain ⟨c0, c1, c2⟩ := cells3 pr
    have l1 := heap_lt pr
    by_cases hlt : k < n
    · have e1 : (k : Int) < n := by omega
      have e0 : (0 : Int) ≤ k := by omega
      have hW0 : W ≠ 0 := by omega
      have hN0 : (N : Int) ≠ 0 := by omega
      obtain ⟨m1, m2, m3, m4⟩ := divmod_bd (W := W) (k := k) hW
      obtain ⟨b, off, rfl, hc⟩ := (HA.out.below BEL.out) k (by rw [← HN.out]; exact hlt)
      cases hx : xs.getD k false
      · rw [hx] at hc
        have hs : ∀ s : Int, colN W xs N s (k + 1) = colN W xs N s k := fun s => by rw [colN_succ, hx]; simp
        have HS := Lib.hid hs; clear hs
        have HX := Lib.hid hx; clear hx
        go_wp2
        go_roundw
        case rel => exact ⟨k + 1, by omega, by go_num, HO.out.congr (fun i hi => by rw [HS.out]), pr, BEL.out⟩
        case measure => simp [intOf]; omega
      · rw [hx] at hc
        obtain ⟨S, hS⟩ := Int.eq_ofNat_of_zero_le (Int.emod_nonneg ((k : Int) % W + (k : Int) / W) hN0)
        have hSN : S < N := by have := Int.emod_lt_of_pos ((k : Int) % W + (k : Int) / W) (show (0 : Int) < N by omega); omega
        have hs : ∀ s : Nat, (colN W xs N s (k + 1) : Int) = if s = S then (colN W xs N S k : Int) + 1 else colN W xs N s k := by
          intro s
          rw [colN_succ, hx]
          have : clAt W N s k = decide (s = S) := by unfold clAt; rw [hS]; apply Bool.eq_iff_iff.2; simp; constructor <;> intro h <;> omega
          rw [this]
          by_cases h : s = S
          · subst h; simp
          · simp [h]
        have hcell := HO.out.cell (k := S) hSN
        have hfree := HO.out.free S
        have hcl := colN_le W xs N S k
        have T1 : ((k : Int) % W + (k : Int) / W) % N = S := hS
        have HS := Lib.hid hs; clear hs
        have HX := Lib.hid hx; clear hx
        have s2 : (S : Int) < N := by omega
        have s3 : ((S : Int)).toNat = S := by omega
        clear hS
        go_wp2_with fail
        go_region
        go_wp2_with fail
        have h := (HO.out.set S ((colN W xs N S k : Int) + 1)).1
        refine ⟨⟨k + 1, by omega, by go_num, ?_, heap_set_other pr (p := ⟨w.heap.size + 1, S, none⟩) (by simp) (.int .i64 ((colN W xs N S k : Int) + 1)), (BEL.out.setCell (p := ⟨w.heap.size + 1, S, none⟩) (by simp) _).drew⟩, by simp [intOf]; omega⟩
        exact RowI.congr h (fun i hi => (HS.out i).symm)
    · obtain rfl : k = n := by omega
      go_wp2
      go_ret
      exact ⟨w.heap.size + 1, N, by simp, RowI.lower HO.out (by omega), BEL.out⟩

set_option maxHeartbeats 2000000 in
theorem sColourMany_any (W T r s : Int) (a : Option Addr) (n cap : Nat) (xs : List Bool) (w : World) (hn : n = xs.length) (hn' : n ≤ 1048576) (ha : BoolsAt w a xs) :
    Calls Try.prog 28 #[.agg #[.int .i64 W, .int .i64 T, .slice a n cap], .int .i64 r, .int .i64 s] w fun e w' => e = .returned (.int .i64 (colF W T xs r s)) ∧ Below w.heap.size w w' := by
  have HN := Lib.hid hn; clear hn
  have HA := Lib.hid ha; clear ha
  cases h : rv W T xs
  · have e : colF W T xs r s = -1 := by unfold colF colOk; rw [h]; rfl
    rw [e]
    have H := Lib.hid h; clear h e
    go_enter Try.func28, Try.ntmps28
    go_wp2_with fail
    refine (sRegionValid_any _ _ _ _ _ xs _ HN.out hn' (HA.out.one _)).mono ?_; rintro e w1 ⟨rfl, hb1⟩
    rw [H.out]
    go_wp2
    go_ret
    exact ⟨rfl, below_seq (below1 _ _) hb1⟩
  · obtain ⟨v1, v2, v3, v4, v5, _⟩ := rv_true h
    have HV := Lib.hid v5; clear v5
    cases hb : barB r
    · have e : colF W T xs r s = -1 := by unfold colF colOk; rw [h, hb]; rfl
      rw [e]
      have H := Lib.hid h; clear h e
      have hb' : inB r 1 4 = false := by rw [← hb]; simp [inB, barB]
      have HB := Lib.hid hb'; clear hb hb'
      go_enter Try.func28, Try.ntmps28
      go_wp2_with fail
      refine (sRegionValid_any _ _ _ _ _ xs _ HN.out hn' (HA.out.one _)).mono ?_; rintro e w1 ⟨rfl, hb1⟩
      rw [H.out]
      go_wp2_with (go_at_call 18; refine (l1In_same7 _ _ _ _ HB.out).mono ?_; rintro e w2 ⟨rfl, rfl⟩)
      go_ret
      exact ⟨rfl, below_seq (below1 _ _) hb1⟩
    · have hr : 1 ≤ r ∧ r ≤ 4 := by simpa [barB] using hb
      obtain ⟨r1, r4⟩ := hr
      have hb' : inB r 1 4 = true := by rw [← hb]; simp [inB, barB]
      cases hs : (decide (0 ≤ s) && decide (s < r))
      · have e : colF W T xs r s = -1 := by unfold colF colOk; rw [h, hb, Bool.true_and, Bool.true_and, hs]; rfl
        rw [e]
        have hs' : inB s 0 (r - 1) = false := by rw [← hs]; unfold inB; congr 1; apply Bool.eq_iff_iff.2; simp; omega
        have H := Lib.hid h; clear h e hs
        have HB := Lib.hid hb'; clear hb hb'
        have HS := Lib.hid hs'; clear hs'
        go_enter Try.func28, Try.ntmps28
        go_wp2_with fail
        refine (sRegionValid_any _ _ _ _ _ xs _ HN.out hn' (HA.out.one _)).mono ?_; rintro e w1 ⟨rfl, hb1⟩
        rw [H.out]
        go_wp2_with fail
        refine (l1In_same7 _ _ _ _ HB.out).mono ?_; rintro e w2 ⟨rfl, rfl⟩
        go_wp2_with fail
        refine (l1In_same7 _ _ _ _ HS.out).mono ?_; rintro e w3 ⟨rfl, rfl⟩
        go_wp2
        go_ret
        exact ⟨rfl, below_seq (below1 _ _) hb1⟩
      · have hs2 : 0 ≤ s ∧ s < r := by simpa using hs
        obtain ⟨s0, s1⟩ := hs2
        have e : colF W T xs r s = colN W xs r s n := by unfold colF colOk; rw [h, hb, Bool.true_and, Bool.true_and, hs, if_pos rfl, HN.out]
        rw [e]
        have hs' : inB s 0 (r - 1) = true := by rw [← hs]; unfold inB; congr 1; apply Bool.eq_iff_iff.2; simp; omega
        have H := Lib.hid h; clear h e hs
        have HB := Lib.hid hb'; clear hb hb'
        have HS := Lib.hid hs'; clear hs'
        go_enter Try.func28, Try.ntmps28
        go_wp2_with fail
        refine (sRegionValid_any _ _ _ _ _ xs _ HN.out hn' (HA.out.one _)).mono ?_; rintro e w1 ⟨rfl, hb1⟩
        rw [H.out]
        have p1 := heap_later (heap_new w (.cells #[.int .i64 W, .int .i64 T, .slice a n cap] 30)) hb1
        have b1 := below_seq (below1 _ _) hb1
        clear hb1
        have l1 := heap_lt p1
        obtain ⟨c0, c1, c2⟩ := cells3 p1
        go_wp2_with fail
        refine (l1In_same7 _ _ _ _ HB.out).mono ?_; rintro e w2 ⟨rfl, rfl⟩
        go_wp2_with fail
        refine (l1In_same7 _ _ _ _ HS.out).mono ?_; rintro e w3 ⟨rfl, rfl⟩
        go_wp2
        go_loopw [7, 8] (fun c i wr => ∃ k : Nat, k ≤ n ∧ i = .int .i64 k ∧ c = .int .i64 (colN W xs r s k) ∧ ∃ q, wr = w1.drewN q) (fun _ i _ => n - (intOf i).toNat)
        case atStart => exact ⟨0, Nat.zero_le _, rfl, rfl, 0, rfl⟩
        case round =>
          obtain ⟨k, hk, rfl, rfl, q, rfl⟩ := hrel
          by_cases hlt : k < n
          · obtain ⟨b, off, rfl, hc⟩ := (HA.out.below b1) k (by rw [← HN.out]; exact hlt)
            obtain ⟨m1, m2, m3, m4⟩ := divmod_bd (W := W) (k := k) v1
            have hsu := colN_succ W xs r s k
            have hle := colN_le W xs r s k
            have e1 : (k : Int) < n := by omega
            have e0 : (0 : Int) ≤ k := by omega
            have hW0 : W ≠ 0 := by omega
            have hr0 : r ≠ 0 := by omega
            cases hx : xs.getD k false
            · rw [hx] at hc hsu
              have HSU := Lib.hid hsu; clear hsu
              have HX := Lib.hid hx; clear hx
              go_wp2
              go_quiet (fail)
              go_wp2
              go_roundw
              case rel => exact ⟨k + 1, by omega, by go_num, by rw [HSU.out]; simp, _, rfl⟩
              case measure => simp [intOf]; omega
            · rw [hx] at hc hsu
              have HX := Lib.hid hx; clear hx
              cases hd : clAt W r s k
              all_goals
                rw [hd] at hsu
                have hd' : (((k : Int) % W + (k : Int) / W) % r == s) = _ := hd
                have HSU := Lib.hid hsu; clear hsu
                have HD := Lib.hid hd; clear hd
                go_wp2
                go_quiet (fail)
                go_wp2
                go_roundw
                case rel => exact ⟨k + 1, by omega, by go_num, by rw [HSU.out]; simp, _, rfl⟩
                case measure => simp [intOf]; omega
          · obtain rfl : k = n := by omega
            go_wp2
            go_ret
            exact ⟨rfl, below_seq b1 (drewN_below _ _)⟩

end Go.Proofs.Ytngececngelohaa
