/- Contracts of spec.RegionSet. -/
import Derived.Test.YtlgmnceicnhhnaaSet
import Derived.Deep.AppendLies
import Derived.Test.YtlgmnceicnhhnaaTill2
namespace Go.Proofs.Ytlgmnceicnhhnaa
open Go.RowKit
set_option linter.unusedVariables false
set_option maxRecDepth 100000
set_option linter.unusedSimpArgs false

set_option maxHeartbeats 1000000 in
theorem sRegionSet_no (W T cell : Int) (has : Bool) (a : Option Addr) (n cap : Nat) (xs : List Bool) (w : World) (hn : n = xs.length) (hn' : n ≤ 1048576) (ha : BoolsAt w a xs) (h : setIn W T xs cell = false) :
    Calls Try.prog 24 #[.agg #[.int .i64 W, .int .i64 T, .slice a n cap], .int .i64 cell, .bool has] w fun e w' => e = .returned (.tuple #[.agg #[.int .i64 0, .int .i64 0, .slice none 0 0], .bool false]) ∧ Below w.heap.size w w' := by
  have HN := Lib.hid hn; clear hn
  have A2 := Lib.hid (ha.two (.cells #[.int .i64 W, .int .i64 T, .slice a n cap] 25) (.cells #[.int .i64 0, .int .i64 0, .slice none 0 0] 25)); clear ha
  cases hr : rv W T xs
  · clear h
    go_enter Try.func24, Try.ntmps24
    go_wp2_with fail
    refine (sRegionValid_any _ _ _ _ _ xs _ HN.out hn' A2.out).mono ?_; rintro e w1 ⟨rfl, hb1⟩
    have b1 := below_seq (below2 w _ _) hb1
    have q1 := heap_later (heap_new2 w _ _) hb1
    obtain ⟨d0, d1, d2⟩ := cells3 q1
    have e0 := free3 q1 0
    have e1 := free3 q1 1
    have e2 := free3 q1 2
    go_wp2
    exact bodyPost_ret (v := .tuple #[.agg #[.int .i64 0, .int .i64 0, .slice none 0 0], .bool false]) (by simp [results, Try.results24, go_sem, d0, d1, d2]) rfl ⟨rfl, below_set3 b1 (by omega) _ _ _⟩
  · have hin : inB cell 0 ((n : Int) - 1) = false := by
      cases hb : inB cell 0 ((n : Int) - 1)
      · rfl
      · have hh : 0 ≤ cell ∧ cell ≤ (n : Int) - 1 := by simpa [inB] using hb
        have hh' : 0 ≤ cell ∧ cell < (xs.length : Int) := by rw [← HN.out]; omega
        simp [setIn, hr, hh'] at h
    clear h
    go_enter Try.func24, Try.ntmps24
    go_wp2_with fail
    refine (sRegionValid_any _ _ _ _ _ xs _ HN.out hn' A2.out).mono ?_; rintro e w1 ⟨rfl, hb1⟩
    have b1 := below_seq (below2 w _ _) hb1
    have p1 := heap_later (heap_later (heap_new w _) (below1 _ _)) hb1
    have q1 := heap_later (heap_new2 w _ _) hb1
    obtain ⟨c0, c1, c2⟩ := cells3 p1
    obtain ⟨d0, d1, d2⟩ := cells3 q1
    have e0 := free3 q1 0
    have e1 := free3 q1 1
    have e2 := free3 q1 2
    go_wp2_with fail
    refine (l1In_any _ _ _ _).mono ?_; rintro e w2 ⟨rfl, rfl⟩
    go_wp2
    exact bodyPost_ret (v := .tuple #[.agg #[.int .i64 0, .int .i64 0, .slice none 0 0], .bool false]) (by simp [results, Try.results24, go_sem, d0, d1, d2]) rfl ⟨rfl, below_set3 b1 (by omega) _ _ _⟩

theorem OwnsB.setNe {w : World} {B g n cap : Nat} {xs : List Bool} (h : OwnsB w B (.slice (some ⟨g, 0, none⟩) n cap) xs) {p : Addr} (hp : p.block ≠ g) (x : Value) : OwnsB (w.setCell p x) B (.slice (some ⟨g, 0, none⟩) n cap) xs := by
  rcases h.2 with ⟨h1, _⟩ | ⟨g', cap', cur, h1, hB, hc, r⟩
  · simp at h1
  · have hg : g = g' := by injection h1 with e; injection e with e; injection e
    exact ⟨h.1, Or.inr ⟨g', cap', cur, h1, hB, heap_set_other hc (fun e => hp (by rw [← e, hg])) _, r⟩⟩
theorem OwnsB.set3Ne {w : World} {B g n cap : Nat} {xs : List Bool} (h : OwnsB w B (.slice (some ⟨g, 0, none⟩) n cap) xs) {b : Nat} (hb : b ≠ g) (x y z : Value) : OwnsB (((w.setCell ⟨b, 0, none⟩ x).setCell ⟨b, 1, none⟩ y).setCell ⟨b, 2, none⟩ z) B (.slice (some ⟨g, 0, none⟩) n cap) xs :=
  ((h.setNe (p := ⟨b, 0, none⟩) hb x).setNe (p := ⟨b, 1, none⟩) hb y).setNe (p := ⟨b, 2, none⟩) hb z

theorem ne_own {x y : Nat} (h : x ≠ y) : (some x : Option Nat) ≠ some y := fun e => h (Option.some.inj e)

theorem emptyRow (w : World) {B : Nat} (hB : B ≤ w.heap.size) : (w.alloc (.cells #[] 4)).ownsRow B 4 1 (.slice (some ⟨w.heap.size, 0, none⟩) 0 0) 0 [] :=
  World.ownsRow_made w #[] 0 hB (Nat.zero_le _) rfl

theorem emptyRowAt (w : World) {B k : Nat} (hk : w.heap.size = k) (hB : B ≤ w.heap.size) : (w.alloc (.cells #[] 4)).ownsRow B 4 1 (.slice (some ⟨k, 0, none⟩) 0 0) 0 [] := by subst hk; exact emptyRow w hB

set_option maxHeartbeats 2000000 in
theorem sRegionSet_in (W T cell : Int) (has : Bool) (a : Option Addr) (n cap : Nat) (xs : List Bool) (w : World) (hn : n = xs.length) (hn' : n ≤ 1048576) (ha : BoolsAt w a xs) (h : setIn W T xs cell = true) :
    Calls Try.prog 24 #[.agg #[.int .i64 W, .int .i64 T, .slice a n cap], .int .i64 cell, .bool has] w fun e w' => ∃ g cg,
      e = .returned (.tuple #[if rv W T (setB xs cell.toNat has) then .agg #[.int .i64 W, .int .i64 T, .slice (some ⟨g, 0, none⟩) n cg] else .agg #[.int .i64 0, .int .i64 0, .slice none 0 0], .bool (rv W T (setB xs cell.toNat has))]) ∧
      OwnsB w' (w.heap.size + 2) (.slice (some ⟨g, 0, none⟩) n cg) (setB xs cell.toNat has) ∧ Below w.heap.size w w' := by
  obtain ⟨i0, hi, hz0, hz1, hz2⟩ := info_parts infoBool
  have h0 : rv W T xs = true ∧ 0 ≤ cell ∧ cell < xs.length := by simpa [setIn] using h
  obtain ⟨hr, hc0, hc1⟩ := h0
  obtain ⟨v1, v2, v3, v4, v5, _⟩ := rv_true hr
  have hwt := mul_bd v1 v2 v3 v4
  have hnW : (n : Int) = W * T := by rw [hn]; exact v5
  have hp : 0 < n := by omega
  rw [← hn] at hc1
  have HNW := Lib.hid hnW; clear hnW v5 h
  have HN := Lib.hid hn; clear hn
  obtain ⟨b, off, rfl, hsrc⟩ := ha.addr (by rw [← HN.out]; exact hp)
  have hbl : b < w.heap.size := World.block_lt_of_cell? w _ (hsrc 0 (by rw [← HN.out]; exact hp))
  have HSRC := Lib.hid hsrc; clear hsrc
  have A2 := Lib.hid (ha.two (.cells #[.int .i64 W, .int .i64 T, .slice (some ⟨b, off, none⟩) n cap] 25) (.cells #[.int .i64 0, .int .i64 0, .slice none 0 0] 25)); clear ha
  obtain ⟨c, hcc⟩ : ∃ c : Nat, cell = c := ⟨cell.toNat, by omega⟩
  subst hcc
  rw [Int.toNat_natCast]
  have hcn : c < n := by omega
  have hin : inB (c : Int) 0 ((n : Int) - 1) = true := by simp [inB]; omega
  cases hv : rv W T (setB xs c has)
  all_goals
    go_enter Try.func24, Try.ntmps24
    go_wp2_with fail
    refine (sRegionValid_any _ _ _ _ _ xs _ HN.out hn' A2.out).mono ?_; rintro e w1 ⟨rfl, hb1⟩
    have b1 := below_seq (below2 w _ _) hb1
    have p1 := heap_later (heap_later (heap_new w _) (below1 _ _)) hb1
    have q1 := heap_later (heap_new2 w _ _) hb1
    obtain ⟨c0, c1, c2⟩ := cells3 p1
    have lp := heap_lt p1
    have lq := heap_lt q1
    go_wp2_with fail
    refine (l1In_any _ _ _ _).mono ?_; rintro e w2 ⟨rfl, rfl⟩
    go_wp2
    have hsl : (xs.map Value.bool).length = n * 1 := by rw [List.length_map, ← HN.out]; simp
    have HSL := Lib.hid hsl; clear hsl
    have SC := fun (w' : World) (hb : Below w1.heap.size w1 w') => src_cells (w := w') (b := b) (off := off) (xs := xs) (fun i hi => (hb.cell (p := ⟨b, off + i, none⟩) (show b < w1.heap.size by omega)).trans ((b1.cell (p := ⟨b, off + i, none⟩) hbl).trans (HSRC.out i hi)))
    have HSC := Lib.hid SC; clear SC
    refine cut_region (fun a0 a' w' => ∃ (v22 v23 v24 v25 v26 v27 v28 v29 v30 : Value) (b8 g cg : Nat), a' = ((((((((((a0.put (some 22) v22).put (some 23) v23).put (some 24) v24).put (some 25) v25).put (some 26) v26).put (some 27) v27).put (some 28) v28).put (some 29) v29).put (some 30) v30).put (some 8) (.pointer (some ⟨b8, 0, none⟩))) ∧ w'.heap[b8]? = some (.cells #[.int .i64 W, .int .i64 T, .slice (some ⟨g, 0, none⟩) n cg] 25 (0, 0)) ∧ OwnsB w' (w.heap.size + 2) (.slice (some ⟨g, 0, none⟩) n cg) xs ∧ w'.heap[w.heap.size + 1]? = some (.cells #[.int .i64 0, .int .i64 0, .slice none 0 0] 25 (0, 0)) ∧ Below w.heap.size w w' ∧ b8 ≠ g) ?_ ?_
    · have HSD := Lib.hid (show (fun w' : World => w'.cell? ⟨w.heap.size, 0, none⟩ = some (.int .i64 W) ∧ w'.cell? ⟨w.heap.size, 1, none⟩ = some (.int .i64 T) ∧ w'.cell? ⟨w.heap.size, 2, none⟩ = some (.slice (some ⟨b, off, none⟩) n cap)) w1.drew from ⟨c0, c1, c2⟩)
      refine wp_region_till (fun w' : World => w'.cell? ⟨w.heap.size, 0, none⟩ = some (.int .i64 W) ∧ w'.cell? ⟨w.heap.size, 1, none⟩ = some (.int .i64 T) ∧ w'.cell? ⟨w.heap.size, 2, none⟩ = some (.slice (some ⟨b, off, none⟩) n cap)) 10 (by kernel_rfl) ?_
      refine Till.take (i := 0) (v := ?_) rfl (by kernel_rfl) (by kernel_rfl) (by kernel_rfl) (by kernel_rfl) (fun _ _ _ h => nomatch h.1) (Or.inl ⟨by kernel_rfl, ?_⟩) HSD.out ?_
      rotate_left
      · intro ws hsw
        obtain ⟨s1, s2, s3⟩ := hsw
        go_simp
        try with_reducible rfl
      try simp only [Act.put, List.setIfInBounds_toArray, List.set_cons_zero, List.set_cons_succ]
      refine Till.take (i := 1) (v := ?_) rfl (by kernel_rfl) (by kernel_rfl) (by kernel_rfl) (by kernel_rfl) (fun _ _ _ h => nomatch h.1) (Or.inl ⟨by kernel_rfl, ?_⟩) HSD.out ?_
      rotate_left
      · intro ws hsw
        obtain ⟨s1, s2, s3⟩ := hsw
        go_simp
        try with_reducible rfl
      try simp only [Act.put, List.setIfInBounds_toArray, List.set_cons_zero, List.set_cons_succ]
      refine Till.take (i := 2) (v := ?_) rfl (by kernel_rfl) (by kernel_rfl) (by kernel_rfl) (by kernel_rfl) (fun _ _ _ h => nomatch h.1) (Or.inl ⟨by kernel_rfl, ?_⟩) HSD.out ?_
      rotate_left
      · intro ws hsw
        obtain ⟨s1, s2, s3⟩ := hsw
        go_simp
        try with_reducible rfl
      try simp only [Act.put, List.setIfInBounds_toArray, List.set_cons_zero, List.set_cons_succ]
      refine Till.take (i := 3) (v := ?_) rfl (by kernel_rfl) (by kernel_rfl) (by kernel_rfl) (by kernel_rfl) (fun _ _ _ h => nomatch h.1) (Or.inl ⟨by kernel_rfl, ?_⟩) HSD.out ?_
      rotate_left
      · intro ws hsw
        obtain ⟨s1, s2, s3⟩ := hsw
        go_simp
        try with_reducible rfl
      try simp only [Act.put, List.setIfInBounds_toArray, List.set_cons_zero, List.set_cons_succ]
      refine Till.take (i := 5) (v := ?_) rfl (by kernel_rfl) (by kernel_rfl) (by kernel_rfl) (by kernel_rfl) (fun _ _ _ h => nomatch h.1) (Or.inl ⟨by kernel_rfl, ?_⟩) HSD.out ?_
      rotate_left
      · intro ws hsw
        obtain ⟨s1, s2, s3⟩ := hsw
        go_simp
        try with_reducible rfl
      try simp only [Act.put, List.setIfInBounds_toArray, List.set_cons_zero, List.set_cons_succ]
      refine Till.take (i := 6) (v := ?_) rfl (by kernel_rfl) (by kernel_rfl) (by kernel_rfl) (by kernel_rfl) (fun _ _ _ h => nomatch h.1) (Or.inl ⟨by kernel_rfl, ?_⟩) HSD.out ?_
      rotate_left
      · intro ws hsw
        obtain ⟨s1, s2, s3⟩ := hsw
        go_simp
        try with_reducible rfl
      try simp only [Act.put, List.setIfInBounds_toArray, List.set_cons_zero, List.set_cons_succ]
      refine Till.two (i := 4) (j := 9) (by kernel_rfl) rfl rfl (by rfl) (by rfl) (fun K hK => ?_) (fun K hK => ?_)
      · go_simp
        have WNA := Lib.hid (show Below w1.heap.size w1 (w1.alloc (.cells #[] 4)).drew from below_seq (below1 _ _) (drew_below _))
        refine hK.out _ _ (fun _ => ⟨cell_later WNA.out c0, cell_later WNA.out c1, cell_later WNA.out c2⟩) ?_
        clear hK K
        refine Till.two (i := 7) (j := 9) (by kernel_rfl) rfl rfl (by rfl) (by rfl) (fun K hK => ?_) (fun K hK => ?_)
        · refine step_append_lies _ rfl _ _ 23 rfl (w.heap.size + 2) 4 i0 (.bool false) 1 1 Try.underlying23 hi hz0 hz1 hz2 rfl (by decide) _ 0 [] rfl ((emptyRow w1 (by omega)).drew) ⟨b, off, none⟩ n cap (xs.map Value.bool) rfl HSL.out (HSC.out _ WNA.out) (bools_one xs) hp (by unfold maxLen; omega) (by omega) (by simp; omega) (w1.heap.size + 1) (by simp) ?_
          intro g' c' w5 hown' hgrow hor glt
          have p5 := heap_grown (heap_later p1 WNA.out) hgrow (ne_own (show w1.heap.size ≠ w.heap.size by omega))
          have q5 := heap_grown (heap_later q1 WNA.out) hgrow (ne_own (show w1.heap.size ≠ w.heap.size + 1 by omega))
          have B5 := Lib.hid (below_grown (below_seq b1 WNA.out) hgrow (Nat.le_refl _) (fun k e => by have e' : w1.heap.size = k := Option.some.inj e; omega))
          have O5 : Hid (OwnsB w5 (w.heap.size + 2) (.slice (some ⟨g', 0, none⟩) n c') xs) := by have h := OwnsB.ofRow (xs := xs) hown' (by simp) (by rw [← HN.out]; simp); rwa [Nat.zero_add] at h
          have S5 : (fun w' : World => w'.cell? ⟨w.heap.size, 0, none⟩ = some (.int .i64 W) ∧ w'.cell? ⟨w.heap.size, 1, none⟩ = some (.int .i64 T) ∧ w'.cell? ⟨w.heap.size, 2, none⟩ = some (.slice (some ⟨b, off, none⟩) n cap)) w5 := ⟨(cells3 p5).1, (cells3 p5).2.1, (cells3 p5).2.2⟩
          clear hown' hgrow
          refine hK.out _ _ (fun _ => S5) ?_
          clear hK K
          refine Till.take (i := 8) (v := ?_) rfl (by kernel_rfl) (by kernel_rfl) (by kernel_rfl) (by kernel_rfl) (fun _ _ _ h => nomatch h.1) (Or.inl ⟨by kernel_rfl, ?_⟩) S5 ?_
          rotate_left
          · intro ws hsw
            obtain ⟨s1, s2, s3⟩ := hsw
            go_simp
            try with_reducible rfl
          try simp only [Act.put, List.setIfInBounds_toArray, List.set_cons_zero, List.set_cons_succ]
          refine Till.one (i := 9) (by kernel_rfl) rfl (by rfl) (fun K hK => ?_)
          go_simp
          refine hK.out _ _ (fun _ => ⟨cell_later (below1 w5 _) S5.1, cell_later (below1 w5 _) S5.2.1, cell_later (below1 w5 _) S5.2.2⟩) ?_
          clear hK K
          refine Till.one (i := 10) (by kernel_rfl) rfl (by rfl) (fun K hK => ?_)
          go_simp
          refine hK.out _ _ (fun h => absurd rfl h) ?_
          clear hK K
          refine Till.done (by kernel_rfl) ⟨rfl, _, _, _, _, _, _, _, _, _, _, g', c', rfl, ?_, ?_, ?_, ?_, ?_⟩ _
          · exact heap_new _ _
          · exact OwnsB.alloc O5.out _
          · exact heap_later q5 (below1 _ _)
          · exact below_seq B5.out (below1 _ _)
          · exact (by omega : w5.heap.size ≠ g')

        · go_simp
          have WNB := Lib.hid (show Below w1.heap.size w1 ((w1.alloc (.cells #[] 4)).alloc (.cells #[.int .i64 0, .int .i64 0, .slice none 0 0] 25)).drew from below_seq (below2 _ _ _) (drew_below _))
          refine hK.out _ _ (fun _ => ⟨cell_later WNB.out c0, cell_later WNB.out c1, cell_later WNB.out c2⟩) ?_
          clear hK K
          refine Till.one (i := 7) (by kernel_rfl) rfl (by rfl) (fun K hK => ?_)
          refine step_append_lies _ rfl _ _ 23 rfl (w.heap.size + 2) 4 i0 (.bool false) 1 1 Try.underlying23 hi hz0 hz1 hz2 rfl (by decide) _ 0 [] rfl (((emptyRow w1 (by omega)).alloc _).drew) ⟨b, off, none⟩ n cap (xs.map Value.bool) rfl HSL.out (HSC.out _ WNB.out) (bools_one xs) hp (by unfold maxLen; omega) (by omega) (by simp; omega) (w1.heap.size + 2) (by simp) ?_
          intro g' c' w5 hown' hgrow hor glt
          have HNE : w1.heap.size + 1 ≠ g' := by rcases hor with e | e; (have e' : w1.heap.size = g' := Option.some.inj e; omega); omega
          have p5 := heap_grown (heap_later p1 WNB.out) hgrow (ne_own (show w1.heap.size ≠ w.heap.size by omega))
          have q5 := heap_grown (heap_later q1 WNB.out) hgrow (ne_own (show w1.heap.size ≠ w.heap.size + 1 by omega))
          have B5 := Lib.hid (below_grown (below_seq b1 WNB.out) hgrow (Nat.le_refl _) (fun k e => by have e' : w1.heap.size = k := Option.some.inj e; omega))
          have O5 : Hid (OwnsB w5 (w.heap.size + 2) (.slice (some ⟨g', 0, none⟩) n c') xs) := by have h := OwnsB.ofRow (xs := xs) hown' (by simp) (by rw [← HN.out]; simp); rwa [Nat.zero_add] at h
          have S5 : (fun w' : World => w'.cell? ⟨w.heap.size, 0, none⟩ = some (.int .i64 W) ∧ w'.cell? ⟨w.heap.size, 1, none⟩ = some (.int .i64 T) ∧ w'.cell? ⟨w.heap.size, 2, none⟩ = some (.slice (some ⟨b, off, none⟩) n cap)) w5 := ⟨(cells3 p5).1, (cells3 p5).2.1, (cells3 p5).2.2⟩
          have s5 := heap_grown (show (World.drew ((w1.alloc (.cells #[] 4)).alloc (.cells #[.int .i64 0, .int .i64 0, .slice none 0 0] 25))).heap[_]? = some _ from heap_new2 w1 _ _) hgrow (ne_own (show w1.heap.size ≠ w1.heap.size + 1 by omega))
          have s5c := cells3 s5
          obtain ⟨t0, t1, t2⟩ := s5c
          have e0 := free3 s5 0
          have e1 := free3 s5 1
          have e2 := free3 s5 2
          clear hown' hgrow
          refine hK.out _ _ (fun _ => S5) ?_
          clear hK K
          refine Till.take (i := 8) (v := ?_) rfl (by kernel_rfl) (by kernel_rfl) (by kernel_rfl) (by kernel_rfl) (fun _ _ _ h => nomatch h.1) (Or.inl ⟨by kernel_rfl, ?_⟩) S5 ?_
          rotate_left
          · intro ws hsw
            obtain ⟨s1, s2, s3⟩ := hsw
            go_simp
            try with_reducible rfl
          try simp only [Act.put, List.setIfInBounds_toArray, List.set_cons_zero, List.set_cons_succ]
          refine Till.one (i := 10) (by kernel_rfl) rfl (by rfl) (fun K hK => ?_)
          go_simp
          refine hK.out _ _ (fun h => absurd rfl h) ?_
          clear hK K
          refine Till.done (by kernel_rfl) ⟨rfl, _, _, _, _, _, _, _, _, _, _, g', c', rfl, ?_, ?_, ?_, ?_, ?_⟩ _
          · exact by simpa using block_setCell (block_setCell (block_setCell s5 (i := 0) (.int .i64 W)) (i := 1) (.int .i64 T)) (i := 2) _
          · exact O5.out.set3Ne HNE _ _ _
          · exact heap_set_other (heap_set_other (heap_set_other q5 (by simp; omega) _) (by simp; omega) _) (by simp; omega) _
          · exact below_set3 B5.out (by omega) _ _ _
          · exact HNE

      · go_simp
        have WNC := Lib.hid (show Below w1.heap.size w1 (w1.alloc (.cells #[.int .i64 0, .int .i64 0, .slice none 0 0] 25)).drew from below_seq (below1 _ _) (drew_below _))
        refine hK.out _ _ (fun _ => ⟨cell_later WNC.out c0, cell_later WNC.out c1, cell_later WNC.out c2⟩) ?_
        clear hK K
        refine Till.one (i := 4) (by kernel_rfl) rfl (by rfl) (fun K hK => ?_)
        go_simp
        have WND := Lib.hid (show Below w1.heap.size w1 ((w1.alloc (.cells #[.int .i64 0, .int .i64 0, .slice none 0 0] 25)).alloc (.cells #[] 4)).drew from below_seq (below2 _ _ _) (drew_below _))
        refine hK.out _ _ (fun _ => ⟨cell_later WND.out c0, cell_later WND.out c1, cell_later WND.out c2⟩) ?_
        clear hK K
        refine Till.one (i := 7) (by kernel_rfl) rfl (by rfl) (fun K hK => ?_)
        refine step_append_lies _ rfl _ _ 23 rfl (w.heap.size + 2) 4 i0 (.bool false) 1 1 Try.underlying23 hi hz0 hz1 hz2 rfl (by decide) _ 0 [] rfl (emptyRowAt (w1.alloc (.cells #[.int .i64 0, .int .i64 0, .slice none 0 0] 25)) (B := w.heap.size + 2) (k := w1.heap.size + 1) (by simp) (by simp; omega)).drew ⟨b, off, none⟩ n cap (xs.map Value.bool) rfl HSL.out (HSC.out _ WND.out) (bools_one xs) hp (by unfold maxLen; omega) (by omega) (by simp; omega) (w1.heap.size + 2) (by simp) ?_
        intro g' c' w5 hown' hgrow hor glt
        have HNE : w1.heap.size ≠ g' := by rcases hor with e | e; (have e' : w1.heap.size + 1 = g' := Option.some.inj e; omega); omega
        have p5 := heap_grown (heap_later p1 WND.out) hgrow (ne_own (show (w1.heap.size + 1) ≠ w.heap.size by omega))
        have q5 := heap_grown (heap_later q1 WND.out) hgrow (ne_own (show (w1.heap.size + 1) ≠ w.heap.size + 1 by omega))
        have B5 := Lib.hid (below_grown (below_seq b1 WND.out) hgrow (Nat.le_refl _) (fun k e => by have e' : w1.heap.size + 1 = k := Option.some.inj e; omega))
        have O5 : Hid (OwnsB w5 (w.heap.size + 2) (.slice (some ⟨g', 0, none⟩) n c') xs) := by have h := OwnsB.ofRow (xs := xs) hown' (by simp) (by rw [← HN.out]; simp); rwa [Nat.zero_add] at h
        have S5 : (fun w' : World => w'.cell? ⟨w.heap.size, 0, none⟩ = some (.int .i64 W) ∧ w'.cell? ⟨w.heap.size, 1, none⟩ = some (.int .i64 T) ∧ w'.cell? ⟨w.heap.size, 2, none⟩ = some (.slice (some ⟨b, off, none⟩) n cap)) w5 := ⟨(cells3 p5).1, (cells3 p5).2.1, (cells3 p5).2.2⟩
        have s5 := heap_grown (heap_later (heap_later (heap_new w1 (.cells #[.int .i64 0, .int .i64 0, .slice none 0 0] 25)) (below1 _ (.cells #[] 4))) (drew_below _)) hgrow (ne_own (show w1.heap.size + 1 ≠ w1.heap.size by omega))
        have s5c := cells3 s5
        obtain ⟨t0, t1, t2⟩ := s5c
        have e0 := free3 s5 0
        have e1 := free3 s5 1
        have e2 := free3 s5 2
        clear hown' hgrow
        refine hK.out _ _ (fun _ => S5) ?_
        clear hK K
        refine Till.take (i := 8) (v := ?_) rfl (by kernel_rfl) (by kernel_rfl) (by kernel_rfl) (by kernel_rfl) (fun _ _ _ h => nomatch h.1) (Or.inl ⟨by kernel_rfl, ?_⟩) S5 ?_
        rotate_left
        · intro ws hsw
          obtain ⟨s1, s2, s3⟩ := hsw
          go_simp
          try with_reducible rfl
        try simp only [Act.put, List.setIfInBounds_toArray, List.set_cons_zero, List.set_cons_succ]
        refine Till.one (i := 10) (by kernel_rfl) rfl (by rfl) (fun K hK => ?_)
        go_simp
        refine hK.out _ _ (fun h => absurd rfl h) ?_
        clear hK K
        refine Till.done (by kernel_rfl) ⟨rfl, _, _, _, _, _, _, _, _, _, _, g', c', rfl, ?_, ?_, ?_, ?_, ?_⟩ _
        · exact by simpa using block_setCell (block_setCell (block_setCell s5 (i := 0) (.int .i64 W)) (i := 1) (.int .i64 T)) (i := 2) _
        · exact O5.out.set3Ne HNE _ _ _
        · exact heap_set_other (heap_set_other (heap_set_other q5 (by simp; omega) _) (by simp; omega) _) (by simp; omega) _
        · exact below_set3 B5.out (by omega) _ _ _
        · exact HNE

    · rintro a' w5 ⟨v22, v23, v24, v25, v26, v27, v28, v29, v30, b8, g, cg, rfl, s5, O5, q5, B5, hne⟩
      try simp only [Act.put, List.setIfInBounds_toArray, List.set_cons_zero, List.set_cons_succ]
      have R5 : RowB w5 (w.heap.size + 2) g n cg (fun i => xs.getD i false) := RowB.of O5 HN.out
      have lg := R5.base
      have l5 := heap_lt s5
      obtain ⟨t0, t1, t2⟩ := cells3 s5
      have hcell := R5.cell hcn
      have hfree := R5.free c
      clear O5 hb1 p1 q1 c0 c1 c2 HSC HSL HSRC
      have RR := Lib.hid R5; clear R5
      go_wp2_with fail
      have hlj : Hid (n = (setB xs c has).length) := by show n = _; rw [HN.out]; simp [setB, tab_len]
      obtain ⟨wB, hwB⟩ : ∃ wB, wB = w5.setCell ⟨g, c, none⟩ (.bool has) := ⟨_, rfl⟩
      have OB : OwnsB wB (w.heap.size + 2) (.slice (some ⟨g, 0, none⟩) n cg) (setB xs c has) := by
        rw [hwB]
        have h := ((RR.out.set c has).1).owns
        rw [show tab n (fun i => if i = c then has else xs.getD i false) = setB xs c has by rw [HN.out]; rfl] at h
        exact h
      have qB := heap_set_other q5 (p := ⟨g, c, none⟩) (by simp; omega) (.bool has)
      have sB := heap_set_other s5 (p := ⟨g, c, none⟩) hne (.bool has)
      have bB : Below w.heap.size w wB := by rw [hwB]; exact B5.setCell (p := ⟨g, c, none⟩) (by simp; omega) _
      rw [← hwB] at qB sB ⊢
      have OBH := Lib.hid OB; clear OB hwB hcell hfree RR t0 t1 t2
      refine (sRegionValid_any _ _ _ _ _ (setB xs c has) _ hlj.out hn' (OwnsB.at OBH.out)).mono ?_; rintro e w6 ⟨rfl, hb6⟩
      have q6 := heap_later qB hb6
      have s6 := heap_later sB hb6
      have b6 := below_seq bB hb6
      have HO6 := Lib.hid (OBH.out.below hb6); clear OBH qB sB bB
      obtain ⟨t0, t1, t2⟩ := cells3 s6
      obtain ⟨d0, d1, d2⟩ := cells3 q6
      have e0 := free3 q6 0
      have e1 := free3 q6 1
      have e2 := free3 q6 2
      go_wp2
      first
        | refine bodyPost_ret (v := .tuple #[.agg #[.int .i64 0, .int .i64 0, .slice none 0 0], .bool false]) (by simp [results, Try.results24, go_sem, d0, d1, d2]) rfl ⟨rfl, ⟨g, cg, ?_⟩, ?_⟩
        | refine bodyPost_ret (v := .tuple #[.agg #[.int .i64 W, .int .i64 T, .slice (some ⟨g, 0, none⟩) n cg], .bool true]) (by simp [results, Try.results24, go_sem, d0, d1, d2]) rfl ⟨g, cg, rfl, ?_, ?_⟩
      · exact HO6.out.set3 (by omega) _ _ _
      · exact below_set3 b6 (by omega) _ _ _
end Go.Proofs.Ytlgmnceicnhhnaa
