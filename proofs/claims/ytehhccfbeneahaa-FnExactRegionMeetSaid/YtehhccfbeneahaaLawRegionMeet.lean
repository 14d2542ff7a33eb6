/- The law FnExactRegionMeet: its walk. Generated from one pattern for the functions of two regions that return a region and a mark. -/
import Derived.Test.YtehhccfbeneahaaLawBox
import Derived.Test.YtehhccfbeneahaaLawValid
import Derived.Test.YtehhccfbeneahaaSetRet
import Derived.Test.YtehhccfbeneahaaTill2
namespace Go.Proofs.Ytehhccfbeneahaa
open Go.RowKit
set_option linter.unusedVariables false
set_option linter.unusedSimpArgs false

theorem heap_set3Meet {w : World} {b b6 : Nat} {o : Obj} (h : w.heap[b]? = some o) (hb : b ≠ b6) (x y z : Value) : (((w.setCell ⟨b6, 0, none⟩ x).setCell ⟨b6, 1, none⟩ y).setCell ⟨b6, 2, none⟩ z).heap[b]? = some o :=
  heap_set_other (heap_set_other (heap_set_other h (p := ⟨b6, 0, none⟩) hb x) (p := ⟨b6, 1, none⟩) hb y) (p := ⟨b6, 2, none⟩) hb z

set_option maxHeartbeats 4000000 in
theorem lawMeet_main (W T : Int) (a : Option Addr) (n cap : Nat) (xs : List Bool) (W' T' : Int) (a' : Option Addr) (n' cap' : Nat) (ys : List Bool) (w : World) (hn : n = xs.length) (hn' : n ≤ maxLen) (ha : BoolsAt w a xs) (hm : n' = ys.length) (hm' : n' ≤ maxLen) (hb : BoolsAt w a' ys) (h1 : n ≤ 1048576) (h2 : 0 ≤ szB n' (szB n 1048576)) (hsm' : n' ≤ 1048576)
    (Wv Tv : Int) (zs : List Bool) (m : Nat) (ok : Bool) (hlen : m ≤ 1048576) (hz : m = zs.length)
    (HS : Hid (∀ (a a' : Option Addr) (cap cap' : Nat) (w : World), BoolsAt w a xs → BoolsAt w a' ys → Calls Try.prog 40 #[.agg #[.int .i64 W, .int .i64 T, .slice a n cap], .agg #[.int .i64 W', .int .i64 T', .slice a' n' cap']] w (RetRegT w Wv Tv m zs ok)))
    (HI : Hid (∀ (a a' : Option Addr) (cap cap' : Nat) (w : World), BoolsAt w a xs → BoolsAt w a' ys → Calls Try.prog 41 #[.agg #[.int .i64 W, .int .i64 T, .slice a n cap], .agg #[.int .i64 W', .int .i64 T', .slice a' n' cap']] w (RetRegT w Wv Tv m zs ok))) :
    Calls Try.prog 13 #[.agg #[.int .i64 W, .int .i64 T, .slice a n cap], .agg #[.int .i64 W', .int .i64 T', .slice a' n' cap']] w fun e w' => e = .returned (.bool true) ∧ Below w.heap.size w w' := by
  have hz1 := szB_pos h1
  have hsm := h1
  have HN := Lib.hid hn; clear hn
  have HA := Lib.hid ha; clear ha
  have HM := Lib.hid hm; clear hm
  have HB := Lib.hid hb; clear hb
  have HZ := Lib.hid hz; clear hz
  go_enter Try.func13, Try.ntmps13
  go_wp2_with fail
  refine (szRegion_any _ _ _ _ _ _ _ (by omega) (by omega) hn').mono ?_; rintro e w1 ⟨rfl, hb1⟩
  have b1 := below_seq (below_seq (below1 _ _) (below1 _ _)) hb1
  have z1 : w.heap.size + 2 ≤ w1.heap.size := by have := hb1.size; (try simp at this); omega
  have pa_1 := heap_later (heap_later (heap_new _ _) (below1 _ _)) hb1
  have pb_1 := heap_later (heap_new _ _) hb1
  clear pb_1
  have pb_1 := heap_later (heap_new2 w _ _) hb1
  obtain ⟨c1_pb0, c1_pb1, c1_pb2⟩ := cells3 pb_1
  have l1_pb := heap_lt pb_1
  go_wp2_with fail
  refine (szRegion_any _ _ _ _ _ _ _ (by omega) (by omega) hm').mono ?_; rintro e w2 ⟨rfl, hb2⟩
  have b2 := below_seq b1 hb2
  have z2 : w1.heap.size + 0 ≤ w2.heap.size := by have := hb2.size; (try simp at this); omega
  have pa_2 := heap_later pa_1 hb2
  have pb_2 := heap_later pb_1 hb2
  clear pa_1 pb_1 c1_pb0 c1_pb1 c1_pb2 l1_pb
  obtain ⟨c2_pa0, c2_pa1, c2_pa2⟩ := cells3 pa_2
  have l2_pa := heap_lt pa_2
  obtain ⟨c2_pb0, c2_pb1, c2_pb2⟩ := cells3 pb_2
  have l2_pb := heap_lt pb_2
  clear c2_pa0 c2_pa1 c2_pa2 l2_pa
  clear c2_pb0 c2_pb1 c2_pb2 l2_pb
  go_wp2_with fail
  have HA2 := Lib.hid (HA.out.below b2)
  have HB2 := Lib.hid (HB.out.below b2)
  have hl0 := heap_lt pa_2
  have hl1 := heap_lt pb_2
  refine cut_region (fun a0 aa w' => ∃ (v28 v29 v30 v31 v32 v27 v33 v34 : Value) (b6 : Nat) (a4 : Option Addr) (cap4 : Nat), aa = (((((((((a0.put (some 28) v28).put (some 29) v29).put (some 30) v30).put (some 31) v31).put (some 32) v32).put (some 27) v27).put (some 33) v33).put (some 34) v34).put (some 6) (.pointer (some ⟨b6, 0, none⟩))).put (some 7) (.bool ok) ∧ w'.heap[b6]? = some (.cells #[.int .i64 Wv, .int .i64 Tv, .slice a4 m cap4] 27 (0, 0)) ∧ BoolsAt w' a4 zs ∧ Below w2.heap.size w2 w' ∧ w2.heap.size ≤ b6) ?_ ?_
  · have HSD := Lib.hid (show (fun w' : World => w'.cell? ⟨w.heap.size, 0, none⟩ = some (.int .i64 W) ∧ w'.cell? ⟨w.heap.size, 1, none⟩ = some (.int .i64 T) ∧ w'.cell? ⟨w.heap.size, 2, none⟩ = some (.slice a n cap) ∧ w'.cell? ⟨w.heap.size + 1, 0, none⟩ = some (.int .i64 W') ∧ w'.cell? ⟨w.heap.size + 1, 1, none⟩ = some (.int .i64 T') ∧ w'.cell? ⟨w.heap.size + 1, 2, none⟩ = some (.slice a' n' cap')) w2.drew from ⟨(cells3 pa_2).1, (cells3 pa_2).2.1, (cells3 pa_2).2.2, (cells3 pb_2).1, (cells3 pb_2).2.1, (cells3 pb_2).2.2⟩)
    have D0 : w2.drew.heap[w.heap.size]? = some _ := pa_2
    have D1 : w2.drew.heap[w.heap.size + 1]? = some _ := pb_2
    have DB := Lib.hid (show Below w2.heap.size w2 w2.drew from drew_below _)
    refine wp_region_till (fun w' : World => w'.cell? ⟨w.heap.size, 0, none⟩ = some (.int .i64 W) ∧ w'.cell? ⟨w.heap.size, 1, none⟩ = some (.int .i64 T) ∧ w'.cell? ⟨w.heap.size, 2, none⟩ = some (.slice a n cap) ∧ w'.cell? ⟨w.heap.size + 1, 0, none⟩ = some (.int .i64 W') ∧ w'.cell? ⟨w.heap.size + 1, 1, none⟩ = some (.int .i64 T') ∧ w'.cell? ⟨w.heap.size + 1, 2, none⟩ = some (.slice a' n' cap')) 10 (by kernel_rfl) ?_
    refine Till.take (i := 0) (v := ?_) rfl (by kernel_rfl) (by kernel_rfl) (by kernel_rfl) (by kernel_rfl) (fun _ _ _ h => nomatch h.1) (Or.inl ⟨by kernel_rfl, ?_⟩) HSD.out ?_
    rotate_left
    · intro ws hsw
      obtain ⟨s1, s2, s3, s4, s5, s6⟩ := hsw
      go_simp
      try with_reducible rfl
    try simp only [Act.put, List.setIfInBounds_toArray, List.set_cons_zero, List.set_cons_succ]
    refine Till.take (i := 2) (v := ?_) rfl (by kernel_rfl) (by kernel_rfl) (by kernel_rfl) (by kernel_rfl) (fun _ _ _ h => nomatch h.1) (Or.inl ⟨by kernel_rfl, ?_⟩) HSD.out ?_
    rotate_left
    · intro ws hsw
      obtain ⟨s1, s2, s3, s4, s5, s6⟩ := hsw
      go_simp
      try with_reducible rfl
    try simp only [Act.put, List.setIfInBounds_toArray, List.set_cons_zero, List.set_cons_succ]
    refine Till.two (i := 1) (j := 8) (by kernel_rfl) rfl rfl (by rfl) (by rfl) (fun K hK => ?_) (fun K hK => ?_)
    · go_simp
      refine (toRegion_any _ _ _ _ _ xs _ HN.out hsm (HA2.out.below DB.out)).mono ?_; rintro e w_1 ⟨g1_1, rfl, ho1_1, hb_1⟩
      have p0_1 := heap_later D0 hb_1
      have p1_1 := heap_later D1 hb_1
      have B_1 := Lib.hid (below_seq DB.out hb_1)
      have O1_1 := Lib.hid ho1_1
      clear ho1_1
      refine hK.out _ _ (fun _ => ⟨(cells3 p0_1).1, (cells3 p0_1).2.1, (cells3 p0_1).2.2, (cells3 p1_1).1, (cells3 p1_1).2.1, (cells3 p1_1).2.2⟩) ?_
      clear hK K
      refine Till.two (i := 3) (j := 8) (by kernel_rfl) rfl rfl (by rfl) (by rfl) (fun K hK => ?_) (fun K hK => ?_)
      · go_simp
        refine (toRegion_any _ _ _ _ _ ys _ HM.out hsm' (HB2.out.below B_1.out)).mono ?_; rintro e w_2 ⟨g3_2, rfl, ho3_2, hb_2⟩
        have p0_2 := heap_later p0_1 hb_2
        have p1_2 := heap_later p1_1 hb_2
        have B_2 := Lib.hid (below_seq B_1.out hb_2)
        have O1_2 := Lib.hid (OwnsB.below O1_1.out hb_2)
        have O3_2 := Lib.hid ho3_2
        clear ho3_2
        refine hK.out _ _ (fun _ => ⟨(cells3 p0_2).1, (cells3 p0_2).2.1, (cells3 p0_2).2.2, (cells3 p1_2).1, (cells3 p1_2).2.1, (cells3 p1_2).2.2⟩) ?_
        clear hK K
        refine Till.two (i := 4) (j := 8) (by kernel_rfl) rfl rfl (by rfl) (by rfl) (fun K hK => ?_) (fun K hK => ?_)
        · go_simp
          refine (HS.out _ _ _ _ _ (OwnsB.at O1_2.out) (OwnsB.at O3_2.out)).mono ?_; rintro e w_3 ⟨a4, cap4, rfl, ho4, hb_3⟩
          have p0_3 := heap_later p0_2 hb_3
          have p1_3 := heap_later p1_2 hb_3
          have B_3 := Lib.hid (below_seq B_2.out hb_3)
          have O1_3 := Lib.hid (OwnsB.below O1_2.out hb_3)
          have O3_3 := Lib.hid (OwnsB.below O3_2.out hb_3)
          have O4_3 := Lib.hid ho4
          clear ho4
          refine hK.out _ _ (fun _ => ⟨(cells3 p0_3).1, (cells3 p0_3).2.1, (cells3 p0_3).2.2, (cells3 p1_3).1, (cells3 p1_3).2.1, (cells3 p1_3).2.2⟩) ?_
          clear hK K
          refine Till.take (i := 5) (v := ?_) rfl (by kernel_rfl) (by kernel_rfl) (by kernel_rfl) (by kernel_rfl) (fun _ _ _ h => nomatch h.1) (Or.inl ⟨by kernel_rfl, ?_⟩) ⟨(cells3 p0_3).1, (cells3 p0_3).2.1, (cells3 p0_3).2.2, (cells3 p1_3).1, (cells3 p1_3).2.1, (cells3 p1_3).2.2⟩ ?_
          rotate_left
          · intro ws hsw
            obtain ⟨s1, s2, s3, s4, s5, s6⟩ := hsw
            go_simp
            try with_reducible rfl
          try simp only [Act.put, List.setIfInBounds_toArray, List.set_cons_zero, List.set_cons_succ]
          refine Till.take (i := 6) (v := ?_) rfl (by kernel_rfl) (by kernel_rfl) (by kernel_rfl) (by kernel_rfl) (fun _ _ _ h => nomatch h.1) (Or.inl ⟨by kernel_rfl, ?_⟩) ⟨(cells3 p0_3).1, (cells3 p0_3).2.1, (cells3 p0_3).2.2, (cells3 p1_3).1, (cells3 p1_3).2.1, (cells3 p1_3).2.2⟩ ?_
          rotate_left
          · intro ws hsw
            obtain ⟨s1, s2, s3, s4, s5, s6⟩ := hsw
            go_simp
            try with_reducible rfl
          try simp only [Act.put, List.setIfInBounds_toArray, List.set_cons_zero, List.set_cons_succ]
          refine Till.take (i := 7) (v := ?_) rfl (by kernel_rfl) (by kernel_rfl) (by kernel_rfl) (by kernel_rfl) (fun _ _ _ h => nomatch h.1) (Or.inl ⟨by kernel_rfl, ?_⟩) ⟨(cells3 p0_3).1, (cells3 p0_3).2.1, (cells3 p0_3).2.2, (cells3 p1_3).1, (cells3 p1_3).2.1, (cells3 p1_3).2.2⟩ ?_
          rotate_left
          · intro ws hsw
            obtain ⟨s1, s2, s3, s4, s5, s6⟩ := hsw
            go_simp
            try with_reducible rfl
          try simp only [Act.put, List.setIfInBounds_toArray, List.set_cons_zero, List.set_cons_succ]
          refine Till.one (i := 8) (by kernel_rfl) rfl (by rfl) (fun K hK => ?_)
          go_simp
          have p0_4 := heap_later p0_3 (below1 (w_3) (.cells #[.int .i64 0, .int .i64 0, .slice none 0 0] 27))
          have p1_4 := heap_later p1_3 (below1 (w_3) (.cells #[.int .i64 0, .int .i64 0, .slice none 0 0] 27))
          have B_4 := Lib.hid (below_seq B_3.out (below1 (w_3) (.cells #[.int .i64 0, .int .i64 0, .slice none 0 0] 27)))
          have O4_4 := Lib.hid (OwnsB.alloc O4_3.out (.cells #[.int .i64 0, .int .i64 0, .slice none 0 0] 27))
          have s_4 : ((w_3).alloc (.cells #[.int .i64 0, .int .i64 0, .slice none 0 0] 27)).heap[w_3.heap.size]? = some _ := heap_new (w_3) (.cells #[.int .i64 0, .int .i64 0, .slice none 0 0] 27)
          have ge6 : w2.heap.size ≤ w_3.heap.size := B_3.out.size
          refine hK.out _ _ (fun _ => ⟨(cells3 p0_4).1, (cells3 p0_4).2.1, (cells3 p0_4).2.2, (cells3 p1_4).1, (cells3 p1_4).2.1, (cells3 p1_4).2.2⟩) ?_
          clear hK K
          refine Till.one (i := 9) (by kernel_rfl) rfl (by rfl) (fun K hK => ?_)
          go_simp
          refine hK.out _ _ (fun _ => ⟨cell_later (below1 _ _) (cells3 p0_3).1, cell_later (below1 _ _) (cells3 p0_3).2.1, cell_later (below1 _ _) (cells3 p0_3).2.2, cell_later (below1 _ _) (cells3 p1_3).1, cell_later (below1 _ _) (cells3 p1_3).2.1, cell_later (below1 _ _) (cells3 p1_3).2.2⟩) ?_
          clear hK K
          refine Till.one (i := 10) (by kernel_rfl) rfl (by rfl) (fun K hK => ?_)
          go_simp
          refine hK.out _ _ (fun h => absurd rfl h) ?_
          clear hK K
          refine Till.done (by kernel_rfl) ⟨rfl, _, _, _, _, _, _, _, _, _, a4, cap4, rfl, ?_, ?_, ?_, ?_⟩ _
          · exact heap_new _ _
          · exact OwnsB.at (OwnsB.alloc O4_3.out _)
          · exact below_seq B_3.out (below1 _ _)
          · exact B_3.out.size
        · go_simp
          have p0_5 := heap_later p0_2 (below1 (w_2) (.cells #[.int .i64 0, .int .i64 0, .slice none 0 0] 27))
          have p1_5 := heap_later p1_2 (below1 (w_2) (.cells #[.int .i64 0, .int .i64 0, .slice none 0 0] 27))
          have B_5 := Lib.hid (below_seq B_2.out (below1 (w_2) (.cells #[.int .i64 0, .int .i64 0, .slice none 0 0] 27)))
          have O1_5 := Lib.hid (OwnsB.alloc O1_2.out (.cells #[.int .i64 0, .int .i64 0, .slice none 0 0] 27))
          have O3_5 := Lib.hid (OwnsB.alloc O3_2.out (.cells #[.int .i64 0, .int .i64 0, .slice none 0 0] 27))
          have s_5 : ((w_2).alloc (.cells #[.int .i64 0, .int .i64 0, .slice none 0 0] 27)).heap[w_2.heap.size]? = some _ := heap_new (w_2) (.cells #[.int .i64 0, .int .i64 0, .slice none 0 0] 27)
          have ge6 : w2.heap.size ≤ w_2.heap.size := B_2.out.size
          refine hK.out _ _ (fun _ => ⟨(cells3 p0_5).1, (cells3 p0_5).2.1, (cells3 p0_5).2.2, (cells3 p1_5).1, (cells3 p1_5).2.1, (cells3 p1_5).2.2⟩) ?_
          clear hK K
          refine Till.one (i := 4) (by kernel_rfl) rfl (by rfl) (fun K hK => ?_)
          go_simp
          refine (HS.out _ _ _ _ _ (OwnsB.at O1_5.out) (OwnsB.at O3_5.out)).mono ?_; rintro e w_6 ⟨a4, cap4, rfl, ho4, hb_6⟩
          have hlt4 := heap_lt s_5
          have p0_6 := heap_later p0_5 hb_6
          have p1_6 := heap_later p1_5 hb_6
          have B_6 := Lib.hid (below_seq B_5.out hb_6)
          have O1_6 := Lib.hid (OwnsB.below O1_5.out hb_6)
          have O3_6 := Lib.hid (OwnsB.below O3_5.out hb_6)
          have s_6 := heap_later s_5 hb_6
          have O4_6 := Lib.hid ho4
          clear ho4
          refine hK.out _ _ (fun _ => ⟨(cells3 p0_6).1, (cells3 p0_6).2.1, (cells3 p0_6).2.2, (cells3 p1_6).1, (cells3 p1_6).2.1, (cells3 p1_6).2.2⟩) ?_
          clear hK K
          refine Till.take (i := 5) (v := ?_) rfl (by kernel_rfl) (by kernel_rfl) (by kernel_rfl) (by kernel_rfl) (fun _ _ _ h => nomatch h.1) (Or.inl ⟨by kernel_rfl, ?_⟩) ⟨(cells3 p0_6).1, (cells3 p0_6).2.1, (cells3 p0_6).2.2, (cells3 p1_6).1, (cells3 p1_6).2.1, (cells3 p1_6).2.2⟩ ?_
          rotate_left
          · intro ws hsw
            obtain ⟨s1, s2, s3, s4, s5, s6⟩ := hsw
            go_simp
            try with_reducible rfl
          try simp only [Act.put, List.setIfInBounds_toArray, List.set_cons_zero, List.set_cons_succ]
          refine Till.take (i := 6) (v := ?_) rfl (by kernel_rfl) (by kernel_rfl) (by kernel_rfl) (by kernel_rfl) (fun _ _ _ h => nomatch h.1) (Or.inl ⟨by kernel_rfl, ?_⟩) ⟨(cells3 p0_6).1, (cells3 p0_6).2.1, (cells3 p0_6).2.2, (cells3 p1_6).1, (cells3 p1_6).2.1, (cells3 p1_6).2.2⟩ ?_
          rotate_left
          · intro ws hsw
            obtain ⟨s1, s2, s3, s4, s5, s6⟩ := hsw
            go_simp
            try with_reducible rfl
          try simp only [Act.put, List.setIfInBounds_toArray, List.set_cons_zero, List.set_cons_succ]
          refine Till.take (i := 7) (v := ?_) rfl (by kernel_rfl) (by kernel_rfl) (by kernel_rfl) (by kernel_rfl) (fun _ _ _ h => nomatch h.1) (Or.inl ⟨by kernel_rfl, ?_⟩) ⟨(cells3 p0_6).1, (cells3 p0_6).2.1, (cells3 p0_6).2.2, (cells3 p1_6).1, (cells3 p1_6).2.1, (cells3 p1_6).2.2⟩ ?_
          rotate_left
          · intro ws hsw
            obtain ⟨s1, s2, s3, s4, s5, s6⟩ := hsw
            go_simp
            try with_reducible rfl
          try simp only [Act.put, List.setIfInBounds_toArray, List.set_cons_zero, List.set_cons_succ]
          obtain ⟨t0, t1, t2⟩ := cells3 s_6
          have e0 := free3 s_6 0
          have e1 := free3 s_6 1
          have e2 := free3 s_6 2
          refine Till.one (i := 9) (by kernel_rfl) rfl (by rfl) (fun K hK => ?_)
          go_simp
          refine hK.out _ _ (fun _ => ⟨(cells3 (heap_set3Meet (b6 := w_2.heap.size) p0_6 (show w.heap.size ≠ w_2.heap.size by omega) _ _ _)).1, (cells3 (heap_set3Meet (b6 := w_2.heap.size) p0_6 (show w.heap.size ≠ w_2.heap.size by omega) _ _ _)).2.1, (cells3 (heap_set3Meet (b6 := w_2.heap.size) p0_6 (show w.heap.size ≠ w_2.heap.size by omega) _ _ _)).2.2, (cells3 (heap_set3Meet (b6 := w_2.heap.size) p1_6 (show w.heap.size + 1 ≠ w_2.heap.size by omega) _ _ _)).1, (cells3 (heap_set3Meet (b6 := w_2.heap.size) p1_6 (show w.heap.size + 1 ≠ w_2.heap.size by omega) _ _ _)).2.1, (cells3 (heap_set3Meet (b6 := w_2.heap.size) p1_6 (show w.heap.size + 1 ≠ w_2.heap.size by omega) _ _ _)).2.2⟩) ?_
          clear hK K
          refine Till.one (i := 10) (by kernel_rfl) rfl (by rfl) (fun K hK => ?_)
          go_simp
          refine hK.out _ _ (fun h => absurd rfl h) ?_
          clear hK K
          refine Till.done (by kernel_rfl) ⟨rfl, _, _, _, _, _, _, _, _, _, a4, cap4, rfl, ?_, ?_, ?_, ?_⟩ _
          · exact by simpa using block_setCell (block_setCell (block_setCell s_6 (i := 0) (.int .i64 Wv)) (i := 1) (.int .i64 Tv)) (i := 2) _
          · exact OwnsB.at (O4_6.out.set3 hlt4 _ _ _)
          · exact below_set3 B_6.out ge6 _ _ _
          · exact ge6
      · go_simp
        have p0_7 := heap_later p0_1 (below1 (w_1) (.cells #[.int .i64 0, .int .i64 0, .slice none 0 0] 27))
        have p1_7 := heap_later p1_1 (below1 (w_1) (.cells #[.int .i64 0, .int .i64 0, .slice none 0 0] 27))
        have B_7 := Lib.hid (below_seq B_1.out (below1 (w_1) (.cells #[.int .i64 0, .int .i64 0, .slice none 0 0] 27)))
        have O1_7 := Lib.hid (OwnsB.alloc O1_1.out (.cells #[.int .i64 0, .int .i64 0, .slice none 0 0] 27))
        have s_7 : ((w_1).alloc (.cells #[.int .i64 0, .int .i64 0, .slice none 0 0] 27)).heap[w_1.heap.size]? = some _ := heap_new (w_1) (.cells #[.int .i64 0, .int .i64 0, .slice none 0 0] 27)
        have ge6 : w2.heap.size ≤ w_1.heap.size := B_1.out.size
        refine hK.out _ _ (fun _ => ⟨(cells3 p0_7).1, (cells3 p0_7).2.1, (cells3 p0_7).2.2, (cells3 p1_7).1, (cells3 p1_7).2.1, (cells3 p1_7).2.2⟩) ?_
        clear hK K
        refine Till.one (i := 3) (by kernel_rfl) rfl (by rfl) (fun K hK => ?_)
        go_simp
        refine (toRegion_any _ _ _ _ _ ys _ HM.out hsm' (HB2.out.below B_7.out)).mono ?_; rintro e w_8 ⟨g3_8, rfl, ho3_8, hb_8⟩
        have p0_8 := heap_later p0_7 hb_8
        have p1_8 := heap_later p1_7 hb_8
        have B_8 := Lib.hid (below_seq B_7.out hb_8)
        have O1_8 := Lib.hid (OwnsB.below O1_7.out hb_8)
        have s_8 := heap_later s_7 hb_8
        have O3_8 := Lib.hid ho3_8
        clear ho3_8
        refine hK.out _ _ (fun _ => ⟨(cells3 p0_8).1, (cells3 p0_8).2.1, (cells3 p0_8).2.2, (cells3 p1_8).1, (cells3 p1_8).2.1, (cells3 p1_8).2.2⟩) ?_
        clear hK K
        refine Till.one (i := 4) (by kernel_rfl) rfl (by rfl) (fun K hK => ?_)
        go_simp
        refine (HS.out _ _ _ _ _ (OwnsB.at O1_8.out) (OwnsB.at O3_8.out)).mono ?_; rintro e w_9 ⟨a4, cap4, rfl, ho4, hb_9⟩
        have hlt4 := heap_lt s_8
        have p0_9 := heap_later p0_8 hb_9
        have p1_9 := heap_later p1_8 hb_9
        have B_9 := Lib.hid (below_seq B_8.out hb_9)
        have O1_9 := Lib.hid (OwnsB.below O1_8.out hb_9)
        have s_9 := heap_later s_8 hb_9
        have O3_9 := Lib.hid (OwnsB.below O3_8.out hb_9)
        have O4_9 := Lib.hid ho4
        clear ho4
        refine hK.out _ _ (fun _ => ⟨(cells3 p0_9).1, (cells3 p0_9).2.1, (cells3 p0_9).2.2, (cells3 p1_9).1, (cells3 p1_9).2.1, (cells3 p1_9).2.2⟩) ?_
        clear hK K
        refine Till.take (i := 5) (v := ?_) rfl (by kernel_rfl) (by kernel_rfl) (by kernel_rfl) (by kernel_rfl) (fun _ _ _ h => nomatch h.1) (Or.inl ⟨by kernel_rfl, ?_⟩) ⟨(cells3 p0_9).1, (cells3 p0_9).2.1, (cells3 p0_9).2.2, (cells3 p1_9).1, (cells3 p1_9).2.1, (cells3 p1_9).2.2⟩ ?_
        rotate_left
        · intro ws hsw
          obtain ⟨s1, s2, s3, s4, s5, s6⟩ := hsw
          go_simp
          try with_reducible rfl
        try simp only [Act.put, List.setIfInBounds_toArray, List.set_cons_zero, List.set_cons_succ]
        refine Till.take (i := 6) (v := ?_) rfl (by kernel_rfl) (by kernel_rfl) (by kernel_rfl) (by kernel_rfl) (fun _ _ _ h => nomatch h.1) (Or.inl ⟨by kernel_rfl, ?_⟩) ⟨(cells3 p0_9).1, (cells3 p0_9).2.1, (cells3 p0_9).2.2, (cells3 p1_9).1, (cells3 p1_9).2.1, (cells3 p1_9).2.2⟩ ?_
        rotate_left
        · intro ws hsw
          obtain ⟨s1, s2, s3, s4, s5, s6⟩ := hsw
          go_simp
          try with_reducible rfl
        try simp only [Act.put, List.setIfInBounds_toArray, List.set_cons_zero, List.set_cons_succ]
        refine Till.take (i := 7) (v := ?_) rfl (by kernel_rfl) (by kernel_rfl) (by kernel_rfl) (by kernel_rfl) (fun _ _ _ h => nomatch h.1) (Or.inl ⟨by kernel_rfl, ?_⟩) ⟨(cells3 p0_9).1, (cells3 p0_9).2.1, (cells3 p0_9).2.2, (cells3 p1_9).1, (cells3 p1_9).2.1, (cells3 p1_9).2.2⟩ ?_
        rotate_left
        · intro ws hsw
          obtain ⟨s1, s2, s3, s4, s5, s6⟩ := hsw
          go_simp
          try with_reducible rfl
        try simp only [Act.put, List.setIfInBounds_toArray, List.set_cons_zero, List.set_cons_succ]
        obtain ⟨t0, t1, t2⟩ := cells3 s_9
        have e0 := free3 s_9 0
        have e1 := free3 s_9 1
        have e2 := free3 s_9 2
        refine Till.one (i := 9) (by kernel_rfl) rfl (by rfl) (fun K hK => ?_)
        go_simp
        refine hK.out _ _ (fun _ => ⟨(cells3 (heap_set3Meet (b6 := w_1.heap.size) p0_9 (show w.heap.size ≠ w_1.heap.size by omega) _ _ _)).1, (cells3 (heap_set3Meet (b6 := w_1.heap.size) p0_9 (show w.heap.size ≠ w_1.heap.size by omega) _ _ _)).2.1, (cells3 (heap_set3Meet (b6 := w_1.heap.size) p0_9 (show w.heap.size ≠ w_1.heap.size by omega) _ _ _)).2.2, (cells3 (heap_set3Meet (b6 := w_1.heap.size) p1_9 (show w.heap.size + 1 ≠ w_1.heap.size by omega) _ _ _)).1, (cells3 (heap_set3Meet (b6 := w_1.heap.size) p1_9 (show w.heap.size + 1 ≠ w_1.heap.size by omega) _ _ _)).2.1, (cells3 (heap_set3Meet (b6 := w_1.heap.size) p1_9 (show w.heap.size + 1 ≠ w_1.heap.size by omega) _ _ _)).2.2⟩) ?_
        clear hK K
        refine Till.one (i := 10) (by kernel_rfl) rfl (by rfl) (fun K hK => ?_)
        go_simp
        refine hK.out _ _ (fun h => absurd rfl h) ?_
        clear hK K
        refine Till.done (by kernel_rfl) ⟨rfl, _, _, _, _, _, _, _, _, _, a4, cap4, rfl, ?_, ?_, ?_, ?_⟩ _
        · exact by simpa using block_setCell (block_setCell (block_setCell s_9 (i := 0) (.int .i64 Wv)) (i := 1) (.int .i64 Tv)) (i := 2) _
        · exact OwnsB.at (O4_9.out.set3 hlt4 _ _ _)
        · exact below_set3 B_9.out ge6 _ _ _
        · exact ge6
    · go_simp
      have p0_10 := heap_later D0 (below1 (w2.drew) (.cells #[.int .i64 0, .int .i64 0, .slice none 0 0] 27))
      have p1_10 := heap_later D1 (below1 (w2.drew) (.cells #[.int .i64 0, .int .i64 0, .slice none 0 0] 27))
      have B_10 := Lib.hid (below_seq DB.out (below1 (w2.drew) (.cells #[.int .i64 0, .int .i64 0, .slice none 0 0] 27)))
      have s_10 : ((w2.drew).alloc (.cells #[.int .i64 0, .int .i64 0, .slice none 0 0] 27)).heap[w2.heap.size]? = some _ := heap_new (w2.drew) (.cells #[.int .i64 0, .int .i64 0, .slice none 0 0] 27)
      have ge6 : w2.heap.size ≤ w2.heap.size := DB.out.size
      refine hK.out _ _ (fun _ => ⟨(cells3 p0_10).1, (cells3 p0_10).2.1, (cells3 p0_10).2.2, (cells3 p1_10).1, (cells3 p1_10).2.1, (cells3 p1_10).2.2⟩) ?_
      clear hK K
      refine Till.one (i := 1) (by kernel_rfl) rfl (by rfl) (fun K hK => ?_)
      go_simp
      refine (toRegion_any _ _ _ _ _ xs _ HN.out hsm (HA2.out.below B_10.out)).mono ?_; rintro e w_11 ⟨g1_11, rfl, ho1_11, hb_11⟩
      have p0_11 := heap_later p0_10 hb_11
      have p1_11 := heap_later p1_10 hb_11
      have B_11 := Lib.hid (below_seq B_10.out hb_11)
      have s_11 := heap_later s_10 hb_11
      have O1_11 := Lib.hid ho1_11
      clear ho1_11
      refine hK.out _ _ (fun _ => ⟨(cells3 p0_11).1, (cells3 p0_11).2.1, (cells3 p0_11).2.2, (cells3 p1_11).1, (cells3 p1_11).2.1, (cells3 p1_11).2.2⟩) ?_
      clear hK K
      refine Till.one (i := 3) (by kernel_rfl) rfl (by rfl) (fun K hK => ?_)
      go_simp
      refine (toRegion_any _ _ _ _ _ ys _ HM.out hsm' (HB2.out.below B_11.out)).mono ?_; rintro e w_12 ⟨g3_12, rfl, ho3_12, hb_12⟩
      have p0_12 := heap_later p0_11 hb_12
      have p1_12 := heap_later p1_11 hb_12
      have B_12 := Lib.hid (below_seq B_11.out hb_12)
      have s_12 := heap_later s_11 hb_12
      have O1_12 := Lib.hid (OwnsB.below O1_11.out hb_12)
      have O3_12 := Lib.hid ho3_12
      clear ho3_12
      refine hK.out _ _ (fun _ => ⟨(cells3 p0_12).1, (cells3 p0_12).2.1, (cells3 p0_12).2.2, (cells3 p1_12).1, (cells3 p1_12).2.1, (cells3 p1_12).2.2⟩) ?_
      clear hK K
      refine Till.one (i := 4) (by kernel_rfl) rfl (by rfl) (fun K hK => ?_)
      go_simp
      refine (HS.out _ _ _ _ _ (OwnsB.at O1_12.out) (OwnsB.at O3_12.out)).mono ?_; rintro e w_13 ⟨a4, cap4, rfl, ho4, hb_13⟩
      have hlt4 := heap_lt s_12
      have p0_13 := heap_later p0_12 hb_13
      have p1_13 := heap_later p1_12 hb_13
      have B_13 := Lib.hid (below_seq B_12.out hb_13)
      have s_13 := heap_later s_12 hb_13
      have O1_13 := Lib.hid (OwnsB.below O1_12.out hb_13)
      have O3_13 := Lib.hid (OwnsB.below O3_12.out hb_13)
      have O4_13 := Lib.hid ho4
      clear ho4
      refine hK.out _ _ (fun _ => ⟨(cells3 p0_13).1, (cells3 p0_13).2.1, (cells3 p0_13).2.2, (cells3 p1_13).1, (cells3 p1_13).2.1, (cells3 p1_13).2.2⟩) ?_
      clear hK K
      refine Till.take (i := 5) (v := ?_) rfl (by kernel_rfl) (by kernel_rfl) (by kernel_rfl) (by kernel_rfl) (fun _ _ _ h => nomatch h.1) (Or.inl ⟨by kernel_rfl, ?_⟩) ⟨(cells3 p0_13).1, (cells3 p0_13).2.1, (cells3 p0_13).2.2, (cells3 p1_13).1, (cells3 p1_13).2.1, (cells3 p1_13).2.2⟩ ?_
      rotate_left
      · intro ws hsw
        obtain ⟨s1, s2, s3, s4, s5, s6⟩ := hsw
        go_simp
        try with_reducible rfl
      try simp only [Act.put, List.setIfInBounds_toArray, List.set_cons_zero, List.set_cons_succ]
      refine Till.take (i := 6) (v := ?_) rfl (by kernel_rfl) (by kernel_rfl) (by kernel_rfl) (by kernel_rfl) (fun _ _ _ h => nomatch h.1) (Or.inl ⟨by kernel_rfl, ?_⟩) ⟨(cells3 p0_13).1, (cells3 p0_13).2.1, (cells3 p0_13).2.2, (cells3 p1_13).1, (cells3 p1_13).2.1, (cells3 p1_13).2.2⟩ ?_
      rotate_left
      · intro ws hsw
        obtain ⟨s1, s2, s3, s4, s5, s6⟩ := hsw
        go_simp
        try with_reducible rfl
      try simp only [Act.put, List.setIfInBounds_toArray, List.set_cons_zero, List.set_cons_succ]
      refine Till.take (i := 7) (v := ?_) rfl (by kernel_rfl) (by kernel_rfl) (by kernel_rfl) (by kernel_rfl) (fun _ _ _ h => nomatch h.1) (Or.inl ⟨by kernel_rfl, ?_⟩) ⟨(cells3 p0_13).1, (cells3 p0_13).2.1, (cells3 p0_13).2.2, (cells3 p1_13).1, (cells3 p1_13).2.1, (cells3 p1_13).2.2⟩ ?_
      rotate_left
      · intro ws hsw
        obtain ⟨s1, s2, s3, s4, s5, s6⟩ := hsw
        go_simp
        try with_reducible rfl
      try simp only [Act.put, List.setIfInBounds_toArray, List.set_cons_zero, List.set_cons_succ]
      obtain ⟨t0, t1, t2⟩ := cells3 s_13
      have e0 := free3 s_13 0
      have e1 := free3 s_13 1
      have e2 := free3 s_13 2
      refine Till.one (i := 9) (by kernel_rfl) rfl (by rfl) (fun K hK => ?_)
      go_simp
      refine hK.out _ _ (fun _ => ⟨(cells3 (heap_set3Meet (b6 := w2.heap.size) p0_13 (show w.heap.size ≠ w2.heap.size by omega) _ _ _)).1, (cells3 (heap_set3Meet (b6 := w2.heap.size) p0_13 (show w.heap.size ≠ w2.heap.size by omega) _ _ _)).2.1, (cells3 (heap_set3Meet (b6 := w2.heap.size) p0_13 (show w.heap.size ≠ w2.heap.size by omega) _ _ _)).2.2, (cells3 (heap_set3Meet (b6 := w2.heap.size) p1_13 (show w.heap.size + 1 ≠ w2.heap.size by omega) _ _ _)).1, (cells3 (heap_set3Meet (b6 := w2.heap.size) p1_13 (show w.heap.size + 1 ≠ w2.heap.size by omega) _ _ _)).2.1, (cells3 (heap_set3Meet (b6 := w2.heap.size) p1_13 (show w.heap.size + 1 ≠ w2.heap.size by omega) _ _ _)).2.2⟩) ?_
      clear hK K
      refine Till.one (i := 10) (by kernel_rfl) rfl (by rfl) (fun K hK => ?_)
      go_simp
      refine hK.out _ _ (fun h => absurd rfl h) ?_
      clear hK K
      refine Till.done (by kernel_rfl) ⟨rfl, _, _, _, _, _, _, _, _, _, a4, cap4, rfl, ?_, ?_, ?_, ?_⟩ _
      · exact by simpa using block_setCell (block_setCell (block_setCell s_13 (i := 0) (.int .i64 Wv)) (i := 1) (.int .i64 Tv)) (i := 2) _
      · exact OwnsB.at (O4_13.out.set3 hlt4 _ _ _)
      · exact below_set3 B_13.out ge6 _ _ _
      · exact ge6
  rintro aa w3 ⟨v28, v29, v30, v31, v32, v27, v33, v34, pw_b, pw_a, pw_c, rfl, h_pw, h_AW, hb3, pw_ge⟩
  try simp only [Act.put, List.setIfInBounds_toArray, List.set_cons_zero, List.set_cons_succ]
  clear HA2 HB2 hl0 hl1
  have z3 : w2.heap.size ≤ w3.heap.size := hb3.size
  have b3 := below_seq b2 hb3
  have pa_3 := heap_later pa_2 hb3
  have pb_3 := heap_later pb_2 hb3
  have pw_3 := h_pw
  have AW_3 := Lib.hid h_AW
  clear pa_2 pb_2 h_pw h_AW
  have AWs := AW_3
  have lw := heap_lt pw_3
  obtain ⟨c3_pa0, c3_pa1, c3_pa2⟩ := cells3 pa_3
  have l3_pa := heap_lt pa_3
  go_wp2_with fail
  refine (toRegion_any _ _ _ _ _ xs _ HN.out hsm (HA.out.below b3)).mono ?_; rintro e w4 ⟨g4, rfl, ho4, hb4⟩
  have b4 := below_seq b3 hb4
  have z4 : w3.heap.size + 0 ≤ w4.heap.size := by have := hb4.size; (try simp at this); omega
  have pa_4 := heap_later pa_3 hb4
  have pb_4 := heap_later pb_3 hb4
  have pw_4 := heap_later pw_3 hb4
  have AW_4 := Lib.hid (BoolsAt.below AW_3.out hb4)
  have OX_4 := Lib.hid (ho4)
  clear pa_3 pb_3 pw_3 AW_3 c3_pa0 c3_pa1 c3_pa2 l3_pa
  obtain ⟨c4_pb0, c4_pb1, c4_pb2⟩ := cells3 pb_4
  have l4_pb := heap_lt pb_4
  clear ho4
  have OXs := OX_4
  go_wp2_with fail
  refine (toRegion_any _ _ _ _ _ ys _ HM.out hsm' (HB.out.below (below_seq b4 (below1 _ _)))).mono ?_; rintro e w5 ⟨g5, rfl, ho5, hb5⟩
  have b5 := below_seq (below_seq b4 (below1 _ _)) hb5
  have z5 : w4.heap.size + 1 ≤ w5.heap.size := by have := hb5.size; (try simp at this); omega
  have pa_5 := heap_later (heap_later pa_4 (below1 _ _)) hb5
  have pb_5 := heap_later (heap_later pb_4 (below1 _ _)) hb5
  have pw_5 := heap_later (heap_later pw_4 (below1 _ _)) hb5
  have AW_5 := Lib.hid (BoolsAt.below (BoolsAt.one AW_4.out _) hb5)
  have OX_5 := Lib.hid (OwnsB.below (OwnsB.alloc OX_4.out _) hb5)
  have px_5 := heap_later (heap_new _ _) hb5
  have OY_5 := Lib.hid (OwnsB.lower ho5 (show w4.heap.size + 1 ≤ _ by simp))
  clear pa_4 pb_4 pw_4 AW_4 OX_4 c4_pb0 c4_pb1 c4_pb2 l4_pb
  obtain ⟨c5_px0, c5_px1, c5_px2⟩ := cells3 px_5
  have l5_px := heap_lt px_5
  clear ho5
  have OYs := OY_5
  go_wp2_with fail
  refine (HI.out _ _ _ _ _ (OwnsB.at (OwnsB.alloc OX_5.out _)) (OwnsB.at (OwnsB.alloc OY_5.out _))).mono ?_; rintro e w6 ⟨a6, cap6, rfl, ho6, hb6⟩
  have b6 := below_seq (below_seq b5 (below1 _ _)) hb6
  have z6 : w5.heap.size + 1 ≤ w6.heap.size := by have := hb6.size; (try simp at this); omega
  have pa_6 := heap_later (heap_later pa_5 (below1 _ _)) hb6
  have pb_6 := heap_later (heap_later pb_5 (below1 _ _)) hb6
  have pw_6 := heap_later (heap_later pw_5 (below1 _ _)) hb6
  have AW_6 := Lib.hid (BoolsAt.below (BoolsAt.one AW_5.out _) hb6)
  have OX_6 := Lib.hid (OwnsB.below (OwnsB.alloc OX_5.out _) hb6)
  have px_6 := heap_later (heap_later px_5 (below1 _ _)) hb6
  have OY_6 := Lib.hid (OwnsB.below (OwnsB.alloc OY_5.out _) hb6)
  have py_6 := heap_later (heap_new _ _) hb6
  have OG_6 := Lib.hid (OwnsB.lower ho6 (show w5.heap.size + 1 ≤ _ by simp))
  clear pa_5 pb_5 pw_5 AW_5 OX_5 px_5 OY_5 c5_px0 c5_px1 c5_px2 l5_px
  obtain ⟨c6_pw0, c6_pw1, c6_pw2⟩ := cells3 pw_6
  have l6_pw := heap_lt pw_6
  clear ho6
  have OGs := OG_6
  go_wp2_with fail
  refine (eqRegion_same _ _ _ _ _ _ _ zs _ HZ.out hlen (OwnsB.at (OwnsB.alloc OG_6.out _)) (BoolsAt.one AW_6.out _)).mono ?_; rintro e w7 ⟨rfl, hb7⟩
  have b7 := below_seq (below_seq b6 (below1 _ _)) hb7
  have z7 : w6.heap.size + 1 ≤ w7.heap.size := by have := hb7.size; (try simp at this); omega
  have pa_7 := heap_later (heap_later pa_6 (below1 _ _)) hb7
  have pb_7 := heap_later (heap_later pb_6 (below1 _ _)) hb7
  have pw_7 := heap_later (heap_later pw_6 (below1 _ _)) hb7
  have AW_7 := Lib.hid (BoolsAt.below (BoolsAt.one AW_6.out _) hb7)
  have OX_7 := Lib.hid (OwnsB.below (OwnsB.alloc OX_6.out _) hb7)
  have px_7 := heap_later (heap_later px_6 (below1 _ _)) hb7
  have OY_7 := Lib.hid (OwnsB.below (OwnsB.alloc OY_6.out _) hb7)
  have py_7 := heap_later (heap_later py_6 (below1 _ _)) hb7
  have OG_7 := Lib.hid (OwnsB.below (OwnsB.alloc OG_6.out _) hb7)
  have pg_7 := heap_later (heap_new _ _) hb7
  clear pa_6 pb_6 pw_6 AW_6 OX_6 px_6 OY_6 py_6 OG_6 c6_pw0 c6_pw1 c6_pw2 l6_pw
  obtain ⟨c7_pa0, c7_pa1, c7_pa2⟩ := cells3 pa_7
  have l7_pa := heap_lt pa_7
  obtain ⟨c7_px0, c7_px1, c7_px2⟩ := cells3 px_7
  have l7_px := heap_lt px_7
  go_wp2_with fail
  have PA : w7.drew.heap[w.heap.size]? = some _ := pa_7
  have PX : w7.drew.heap[w4.heap.size]? = some _ := px_7
  go_region_held3 (fun w' => w'.cell? ⟨w.heap.size, 0, none⟩ = some (.int .i64 W) ∧ w'.cell? ⟨w.heap.size, 1, none⟩ = some (.int .i64 T) ∧ w'.cell? ⟨w.heap.size, 2, none⟩ = some (.slice a n cap) ∧
      w'.cell? ⟨w4.heap.size, 0, none⟩ = some (.int .i64 W) ∧ w'.cell? ⟨w4.heap.size, 1, none⟩ = some (.int .i64 T) ∧ w'.cell? ⟨w4.heap.size, 2, none⟩ = some (.slice (some ⟨g4, 0, none⟩) n n))
    (go_keep)
    (first
      | (go_at_call 17; refine (toRegion_any _ _ _ _ _ xs _ HN.out hsm (HA.out.below b7.drew)).mono ?_; rintro e wa ⟨ga, rfl, hoa, hba⟩; have pA := heap_later PA hba; have qA := heap_later PX hba; obtain ⟨cA0, cA1, cA2⟩ := cells3 pA; obtain ⟨dA0, dA1, dA2⟩ := cells3 qA)
      | (go_at_call 19; refine (eqRegion_same _ _ _ _ _ _ _ xs _ HN.out hsm ((show BoolsAt w7.drew _ xs from OwnsB.at OX_7.out).below hba) hoa.at).mono ?_; rintro e w8 ⟨rfl, hbb⟩; have pB := heap_later pA hbb; have qB := heap_later qA hbb; obtain ⟨cB0, cB1, cB2⟩ := cells3 pB; obtain ⟨dB0, dB1, dB2⟩ := cells3 qB))
  have bb8 : Below w7.heap.size w7 w8 := below_seq (below_seq (drew_below _) hba) hbb
  have b8 := below_seq b7 bb8
  have z8 : w7.heap.size ≤ w8.heap.size := bb8.size
  have pa_8 := heap_later pa_7 bb8
  have pb_8 := heap_later pb_7 bb8
  have pw_8 := heap_later pw_7 bb8
  have AW_8 := Lib.hid (BoolsAt.below AW_7.out bb8)
  have OX_8 := Lib.hid (OwnsB.below OX_7.out bb8)
  have px_8 := heap_later px_7 bb8
  have OY_8 := Lib.hid (OwnsB.below OY_7.out bb8)
  have py_8 := heap_later py_7 bb8
  have OG_8 := Lib.hid (OwnsB.below OG_7.out bb8)
  have pg_8 := heap_later pg_7 bb8
  clear pa_7 pb_7 pw_7 AW_7 OX_7 px_7 OY_7 py_7 OG_7 pg_7 c7_pa0 c7_pa1 c7_pa2 l7_pa c7_px0 c7_px1 c7_px2 l7_px pA qA cA0 cA1 cA2 dA0 dA1 dA2 pB qB cB0 cB1 cB2 dB0 dB1 dB2 PA PX hoa hba hbb
  obtain ⟨c8_pb0, c8_pb1, c8_pb2⟩ := cells3 pb_8
  have l8_pb := heap_lt pb_8
  obtain ⟨c8_py0, c8_py1, c8_py2⟩ := cells3 py_8
  have l8_py := heap_lt py_8
  go_wp2_with fail
  have PA : w8.drew.heap[w.heap.size + 1]? = some _ := pb_8
  have PX : w8.drew.heap[w5.heap.size]? = some _ := py_8
  go_region_held3 (fun w' => w'.cell? ⟨w.heap.size + 1, 0, none⟩ = some (.int .i64 W') ∧ w'.cell? ⟨w.heap.size + 1, 1, none⟩ = some (.int .i64 T') ∧ w'.cell? ⟨w.heap.size + 1, 2, none⟩ = some (.slice a' n' cap') ∧
      w'.cell? ⟨w5.heap.size, 0, none⟩ = some (.int .i64 W') ∧ w'.cell? ⟨w5.heap.size, 1, none⟩ = some (.int .i64 T') ∧ w'.cell? ⟨w5.heap.size, 2, none⟩ = some (.slice (some ⟨g5, 0, none⟩) n' n'))
    (go_keep)
    (first
      | (go_at_call 17; refine (toRegion_any _ _ _ _ _ ys _ HM.out hsm' (HB.out.below b8.drew)).mono ?_; rintro e wa ⟨ga, rfl, hoa, hba⟩; have pA := heap_later PA hba; have qA := heap_later PX hba; obtain ⟨cA0, cA1, cA2⟩ := cells3 pA; obtain ⟨dA0, dA1, dA2⟩ := cells3 qA)
      | (go_at_call 19; refine (eqRegion_same _ _ _ _ _ _ _ ys _ HM.out hsm' ((show BoolsAt w8.drew _ ys from OwnsB.at OY_8.out).below hba) hoa.at).mono ?_; rintro e w9 ⟨rfl, hbb⟩; have pB := heap_later pA hbb; have qB := heap_later qA hbb; obtain ⟨cB0, cB1, cB2⟩ := cells3 pB; obtain ⟨dB0, dB1, dB2⟩ := cells3 qB))
  have bb9 : Below w8.heap.size w8 w9 := below_seq (below_seq (drew_below _) hba) hbb
  have b9 := below_seq b8 bb9
  have z9 : w8.heap.size ≤ w9.heap.size := bb9.size
  have pa_9 := heap_later pa_8 bb9
  have pb_9 := heap_later pb_8 bb9
  have pw_9 := heap_later pw_8 bb9
  have AW_9 := Lib.hid (BoolsAt.below AW_8.out bb9)
  have OX_9 := Lib.hid (OwnsB.below OX_8.out bb9)
  have px_9 := heap_later px_8 bb9
  have OY_9 := Lib.hid (OwnsB.below OY_8.out bb9)
  have py_9 := heap_later py_8 bb9
  have OG_9 := Lib.hid (OwnsB.below OG_8.out bb9)
  have pg_9 := heap_later pg_8 bb9
  clear pa_8 pb_8 pw_8 AW_8 OX_8 px_8 OY_8 py_8 OG_8 pg_8 c8_pb0 c8_pb1 c8_pb2 l8_pb c8_py0 c8_py1 c8_py2 l8_py pA qA cA0 cA1 cA2 dA0 dA1 dA2 pB qB cB0 cB1 cB2 dB0 dB1 dB2 PA PX hoa hba hbb
  obtain ⟨c9_px0, c9_px1, c9_px2⟩ := cells3 px_9
  have l9_px := heap_lt px_9
  go_wp2_with fail
  refine (markRegion_own _ _ _ _ _ w3.heap.size _ xs _ HN.out hsm (by omega) (by omega) (by omega) OX_9.out).mono ?_; rintro e w10 ⟨rfl, hoM, hb10⟩
  have b10 := below_grown b9 hb10 (by omega) (OwnsB.ownAt OX_9.out (by omega))
  have z10 : w9.heap.size ≤ w10.heap.size := hb10.size
  have pa_10 := heap_grown pa_9 hb10 (OwnsB.ownBlock OX_9.out (by omega))
  have pb_10 := heap_grown pb_9 hb10 (OwnsB.ownBlock OX_9.out (by omega))
  have pw_10 := heap_grown pw_9 hb10 (OwnsB.ownBlock OX_9.out (by omega))
  have AW_10 := Lib.hid (BoolsAt.grown AW_9.out AWs.out hb10 (OwnsB.ownAt OX_9.out (by omega)))
  have px_10 := heap_grown px_9 hb10 (fun e => by have h9 := OwnsB.blkLt OXs.out _ e; omega)
  have OY_10 := Lib.hid (OwnsB.keptBy OY_9.out hb10 (fun k e => by have h9 := OwnsB.blkLt OXs.out _ e; omega))
  have py_10 := heap_grown py_9 hb10 (fun e => by have h9 := OwnsB.blkLt OXs.out _ e; omega)
  have OG_10 := Lib.hid (OwnsB.keptBy OG_9.out hb10 (fun k e => by have h9 := OwnsB.blkLt OXs.out _ e; omega))
  have pg_10 := heap_grown pg_9 hb10 (fun e => by have h9 := OwnsB.blkLt OXs.out _ e; omega)
  clear pa_9 pb_9 pw_9 AW_9 OX_9 px_9 OY_9 py_9 OG_9 pg_9 c9_px0 c9_px1 c9_px2 l9_px
  obtain ⟨c10_py0, c10_py1, c10_py2⟩ := cells3 py_10
  have l10_py := heap_lt py_10
  clear hoM
  go_wp2_with fail
  refine (markRegion_own _ _ _ _ _ (w4.heap.size + 1) _ ys _ HM.out hsm' (by omega) (by omega) (by omega) OY_10.out).mono ?_; rintro e w11 ⟨rfl, hoM, hb11⟩
  have b11 := below_grown b10 hb11 (by omega) (OwnsB.ownAt OY_10.out (by omega))
  have z11 : w10.heap.size ≤ w11.heap.size := hb11.size
  have pa_11 := heap_grown pa_10 hb11 (OwnsB.ownBlock OY_10.out (by omega))
  have pb_11 := heap_grown pb_10 hb11 (OwnsB.ownBlock OY_10.out (by omega))
  have pw_11 := heap_grown pw_10 hb11 (OwnsB.ownBlock OY_10.out (by omega))
  have AW_11 := Lib.hid (BoolsAt.grown AW_10.out AWs.out hb11 (OwnsB.ownAt OY_10.out (by omega)))
  have px_11 := heap_grown px_10 hb11 (OwnsB.ownBlock OY_10.out (by omega))
  have py_11 := heap_grown py_10 hb11 (fun e => by have h9 := OwnsB.blkLt OYs.out _ e; omega)
  have OG_11 := Lib.hid (OwnsB.keptBy OG_10.out hb11 (fun k e => by have h9 := OwnsB.blkLt OYs.out _ e; omega))
  have pg_11 := heap_grown pg_10 hb11 (fun e => by have h9 := OwnsB.blkLt OYs.out _ e; omega)
  clear pa_10 pb_10 pw_10 AW_10 px_10 OY_10 py_10 OG_10 pg_10 c10_py0 c10_py1 c10_py2 l10_py
  obtain ⟨c11_pg0, c11_pg1, c11_pg2⟩ := cells3 pg_11
  have l11_pg := heap_lt pg_11
  obtain ⟨c11_pw0, c11_pw1, c11_pw2⟩ := cells3 pw_11
  have l11_pw := heap_lt pw_11
  clear hoM
  go_wp2_with fail
  refine (eqRegion_same _ _ _ _ _ _ _ zs _ HZ.out hlen (OwnsB.at OG_11.out) AW_11.out).mono ?_; rintro e w12 ⟨rfl, hb12⟩
  have b12 := below_seq b11 hb12
  have z12 : w11.heap.size + 0 ≤ w12.heap.size := by have := hb12.size; (try simp at this); omega
  have pa_12 := heap_later pa_11 hb12
  have pb_12 := heap_later pb_11 hb12
  have pw_12 := heap_later pw_11 hb12
  have AW_12 := Lib.hid (BoolsAt.below AW_11.out hb12)
  have px_12 := heap_later px_11 hb12
  have py_12 := heap_later py_11 hb12
  have OG_12 := Lib.hid (OwnsB.below OG_11.out hb12)
  have pg_12 := heap_later pg_11 hb12
  clear pa_11 pb_11 pw_11 AW_11 px_11 py_11 OG_11 pg_11 c11_pg0 c11_pg1 c11_pg2 l11_pg c11_pw0 c11_pw1 c11_pw2 l11_pw
  obtain ⟨c12_pg0, c12_pg1, c12_pg2⟩ := cells3 pg_12
  have l12_pg := heap_lt pg_12
  go_wp2_with fail
  refine (markRegion_own _ _ _ _ _ (w5.heap.size + 1) _ zs _ HZ.out hlen (by omega) (by omega) (by omega) OG_12.out).mono ?_; rintro e w13 ⟨rfl, hoM, hb13⟩
  have b13 := below_grown b12 hb13 (by omega) (OwnsB.ownAt OG_12.out (by omega))
  have z13 : w12.heap.size ≤ w13.heap.size := hb13.size
  have pa_13 := heap_grown pa_12 hb13 (OwnsB.ownBlock OG_12.out (by omega))
  have pb_13 := heap_grown pb_12 hb13 (OwnsB.ownBlock OG_12.out (by omega))
  have pw_13 := heap_grown pw_12 hb13 (OwnsB.ownBlock OG_12.out (by omega))
  have AW_13 := Lib.hid (BoolsAt.grown AW_12.out AWs.out hb13 (OwnsB.ownAt OG_12.out (by omega)))
  have px_13 := heap_grown px_12 hb13 (OwnsB.ownBlock OG_12.out (by omega))
  have py_13 := heap_grown py_12 hb13 (OwnsB.ownBlock OG_12.out (by omega))
  have pg_13 := heap_grown pg_12 hb13 (fun e => by have h9 := OwnsB.blkLt OGs.out _ e; omega)
  have M_13 := Lib.hid (hoM)
  clear pa_12 pb_12 pw_12 AW_12 px_12 py_12 OG_12 pg_12 c12_pg0 c12_pg1 c12_pg2 l12_pg
  obtain ⟨c13_pg0, c13_pg1, c13_pg2⟩ := cells3 pg_13
  have l13_pg := heap_lt pg_13
  clear hoM
  go_wp2_with fail
  refine (heldRegion_marks _ _ _ _ _ _ _ hlen (by omega) (by omega) (marks_at M_13.out)).mono ?_; rintro e w14 ⟨rfl, hb14⟩
  have b14 := below_seq b13 hb14
  have z14 : w13.heap.size + 0 ≤ w14.heap.size := by have := hb14.size; (try simp at this); omega
  have pa_14 := heap_later pa_13 hb14
  have pb_14 := heap_later pb_13 hb14
  have pw_14 := heap_later pw_13 hb14
  have AW_14 := Lib.hid (BoolsAt.below AW_13.out hb14)
  have px_14 := heap_later px_13 hb14
  have py_14 := heap_later py_13 hb14
  have pg_14 := heap_later pg_13 hb14
  have M_14 := Lib.hid (OwnsB.below M_13.out hb14)
  clear pa_13 pb_13 pw_13 AW_13 px_13 py_13 pg_13 M_13 c13_pg0 c13_pg1 c13_pg2 l13_pg
  obtain ⟨c14_pa0, c14_pa1, c14_pa2⟩ := cells3 pa_14
  have l14_pa := heap_lt pa_14
  obtain ⟨c14_pb0, c14_pb1, c14_pb2⟩ := cells3 pb_14
  have l14_pb := heap_lt pb_14
  clear c14_pa0 c14_pa1 c14_pa2 l14_pa
  clear c14_pb0 c14_pb1 c14_pb2 l14_pb
  go_wp2_with fail
  have HA2 := Lib.hid (HA.out.below b14)
  have HB2 := Lib.hid (HB.out.below b14)
  have hl0 := heap_lt pa_14
  have hl1 := heap_lt pb_14
  refine cut_region (fun a0 aa w' => ∃ (v95 v96 v97 v98 v99 v94 v100 v101 : Value) (b6 : Nat) (a4 : Option Addr) (cap4 : Nat), aa = (((((((((a0.put (some 95) v95).put (some 96) v96).put (some 97) v97).put (some 98) v98).put (some 99) v99).put (some 94) v94).put (some 100) v100).put (some 101) v101).put (some 15) (.pointer (some ⟨b6, 0, none⟩))).put (some 16) (.bool ok) ∧ w'.heap[b6]? = some (.cells #[.int .i64 Wv, .int .i64 Tv, .slice a4 m cap4] 27 (0, 0)) ∧ BoolsAt w' a4 zs ∧ Below w14.heap.size w14 w' ∧ w14.heap.size ≤ b6) ?_ ?_
  · have HSD := Lib.hid (show (fun w' : World => w'.cell? ⟨w.heap.size, 0, none⟩ = some (.int .i64 W) ∧ w'.cell? ⟨w.heap.size, 1, none⟩ = some (.int .i64 T) ∧ w'.cell? ⟨w.heap.size, 2, none⟩ = some (.slice a n cap) ∧ w'.cell? ⟨w.heap.size + 1, 0, none⟩ = some (.int .i64 W') ∧ w'.cell? ⟨w.heap.size + 1, 1, none⟩ = some (.int .i64 T') ∧ w'.cell? ⟨w.heap.size + 1, 2, none⟩ = some (.slice a' n' cap')) w14.drew from ⟨(cells3 pa_14).1, (cells3 pa_14).2.1, (cells3 pa_14).2.2, (cells3 pb_14).1, (cells3 pb_14).2.1, (cells3 pb_14).2.2⟩)
    have D0 : w14.drew.heap[w.heap.size]? = some _ := pa_14
    have D1 : w14.drew.heap[w.heap.size + 1]? = some _ := pb_14
    have DB := Lib.hid (show Below w14.heap.size w14 w14.drew from drew_below _)
    refine wp_region_till (fun w' : World => w'.cell? ⟨w.heap.size, 0, none⟩ = some (.int .i64 W) ∧ w'.cell? ⟨w.heap.size, 1, none⟩ = some (.int .i64 T) ∧ w'.cell? ⟨w.heap.size, 2, none⟩ = some (.slice a n cap) ∧ w'.cell? ⟨w.heap.size + 1, 0, none⟩ = some (.int .i64 W') ∧ w'.cell? ⟨w.heap.size + 1, 1, none⟩ = some (.int .i64 T') ∧ w'.cell? ⟨w.heap.size + 1, 2, none⟩ = some (.slice a' n' cap')) 10 (by kernel_rfl) ?_
    refine Till.take (i := 0) (v := ?_) rfl (by kernel_rfl) (by kernel_rfl) (by kernel_rfl) (by kernel_rfl) (fun _ _ _ h => nomatch h.1) (Or.inl ⟨by kernel_rfl, ?_⟩) HSD.out ?_
    rotate_left
    · intro ws hsw
      obtain ⟨s1, s2, s3, s4, s5, s6⟩ := hsw
      go_simp
      try with_reducible rfl
    try simp only [Act.put, List.setIfInBounds_toArray, List.set_cons_zero, List.set_cons_succ]
    refine Till.take (i := 2) (v := ?_) rfl (by kernel_rfl) (by kernel_rfl) (by kernel_rfl) (by kernel_rfl) (fun _ _ _ h => nomatch h.1) (Or.inl ⟨by kernel_rfl, ?_⟩) HSD.out ?_
    rotate_left
    · intro ws hsw
      obtain ⟨s1, s2, s3, s4, s5, s6⟩ := hsw
      go_simp
      try with_reducible rfl
    try simp only [Act.put, List.setIfInBounds_toArray, List.set_cons_zero, List.set_cons_succ]
    refine Till.two (i := 1) (j := 8) (by kernel_rfl) rfl rfl (by rfl) (by rfl) (fun K hK => ?_) (fun K hK => ?_)
    · go_simp
      refine (toRegion_any _ _ _ _ _ xs _ HN.out hsm (HA2.out.below DB.out)).mono ?_; rintro e w_14 ⟨g1_14, rfl, ho1_14, hb_14⟩
      have p0_14 := heap_later D0 hb_14
      have p1_14 := heap_later D1 hb_14
      have B_14 := Lib.hid (below_seq DB.out hb_14)
      have O1_14 := Lib.hid ho1_14
      clear ho1_14
      refine hK.out _ _ (fun _ => ⟨(cells3 p0_14).1, (cells3 p0_14).2.1, (cells3 p0_14).2.2, (cells3 p1_14).1, (cells3 p1_14).2.1, (cells3 p1_14).2.2⟩) ?_
      clear hK K
      refine Till.two (i := 3) (j := 8) (by kernel_rfl) rfl rfl (by rfl) (by rfl) (fun K hK => ?_) (fun K hK => ?_)
      · go_simp
        refine (toRegion_any _ _ _ _ _ ys _ HM.out hsm' (HB2.out.below B_14.out)).mono ?_; rintro e w_15 ⟨g3_15, rfl, ho3_15, hb_15⟩
        have p0_15 := heap_later p0_14 hb_15
        have p1_15 := heap_later p1_14 hb_15
        have B_15 := Lib.hid (below_seq B_14.out hb_15)
        have O1_15 := Lib.hid (OwnsB.below O1_14.out hb_15)
        have O3_15 := Lib.hid ho3_15
        clear ho3_15
        refine hK.out _ _ (fun _ => ⟨(cells3 p0_15).1, (cells3 p0_15).2.1, (cells3 p0_15).2.2, (cells3 p1_15).1, (cells3 p1_15).2.1, (cells3 p1_15).2.2⟩) ?_
        clear hK K
        refine Till.two (i := 4) (j := 8) (by kernel_rfl) rfl rfl (by rfl) (by rfl) (fun K hK => ?_) (fun K hK => ?_)
        · go_simp
          refine (HI.out _ _ _ _ _ (OwnsB.at O1_15.out) (OwnsB.at O3_15.out)).mono ?_; rintro e w_16 ⟨a4, cap4, rfl, ho4, hb_16⟩
          have p0_16 := heap_later p0_15 hb_16
          have p1_16 := heap_later p1_15 hb_16
          have B_16 := Lib.hid (below_seq B_15.out hb_16)
          have O1_16 := Lib.hid (OwnsB.below O1_15.out hb_16)
          have O3_16 := Lib.hid (OwnsB.below O3_15.out hb_16)
          have O4_16 := Lib.hid ho4
          clear ho4
          refine hK.out _ _ (fun _ => ⟨(cells3 p0_16).1, (cells3 p0_16).2.1, (cells3 p0_16).2.2, (cells3 p1_16).1, (cells3 p1_16).2.1, (cells3 p1_16).2.2⟩) ?_
          clear hK K
          refine Till.take (i := 5) (v := ?_) rfl (by kernel_rfl) (by kernel_rfl) (by kernel_rfl) (by kernel_rfl) (fun _ _ _ h => nomatch h.1) (Or.inl ⟨by kernel_rfl, ?_⟩) ⟨(cells3 p0_16).1, (cells3 p0_16).2.1, (cells3 p0_16).2.2, (cells3 p1_16).1, (cells3 p1_16).2.1, (cells3 p1_16).2.2⟩ ?_
          rotate_left
          · intro ws hsw
            obtain ⟨s1, s2, s3, s4, s5, s6⟩ := hsw
            go_simp
            try with_reducible rfl
          try simp only [Act.put, List.setIfInBounds_toArray, List.set_cons_zero, List.set_cons_succ]
          refine Till.take (i := 6) (v := ?_) rfl (by kernel_rfl) (by kernel_rfl) (by kernel_rfl) (by kernel_rfl) (fun _ _ _ h => nomatch h.1) (Or.inl ⟨by kernel_rfl, ?_⟩) ⟨(cells3 p0_16).1, (cells3 p0_16).2.1, (cells3 p0_16).2.2, (cells3 p1_16).1, (cells3 p1_16).2.1, (cells3 p1_16).2.2⟩ ?_
          rotate_left
          · intro ws hsw
            obtain ⟨s1, s2, s3, s4, s5, s6⟩ := hsw
            go_simp
            try with_reducible rfl
          try simp only [Act.put, List.setIfInBounds_toArray, List.set_cons_zero, List.set_cons_succ]
          refine Till.take (i := 7) (v := ?_) rfl (by kernel_rfl) (by kernel_rfl) (by kernel_rfl) (by kernel_rfl) (fun _ _ _ h => nomatch h.1) (Or.inl ⟨by kernel_rfl, ?_⟩) ⟨(cells3 p0_16).1, (cells3 p0_16).2.1, (cells3 p0_16).2.2, (cells3 p1_16).1, (cells3 p1_16).2.1, (cells3 p1_16).2.2⟩ ?_
          rotate_left
          · intro ws hsw
            obtain ⟨s1, s2, s3, s4, s5, s6⟩ := hsw
            go_simp
            try with_reducible rfl
          try simp only [Act.put, List.setIfInBounds_toArray, List.set_cons_zero, List.set_cons_succ]
          refine Till.one (i := 8) (by kernel_rfl) rfl (by rfl) (fun K hK => ?_)
          go_simp
          have p0_17 := heap_later p0_16 (below1 (w_16) (.cells #[.int .i64 0, .int .i64 0, .slice none 0 0] 27))
          have p1_17 := heap_later p1_16 (below1 (w_16) (.cells #[.int .i64 0, .int .i64 0, .slice none 0 0] 27))
          have B_17 := Lib.hid (below_seq B_16.out (below1 (w_16) (.cells #[.int .i64 0, .int .i64 0, .slice none 0 0] 27)))
          have O4_17 := Lib.hid (OwnsB.alloc O4_16.out (.cells #[.int .i64 0, .int .i64 0, .slice none 0 0] 27))
          have s_17 : ((w_16).alloc (.cells #[.int .i64 0, .int .i64 0, .slice none 0 0] 27)).heap[w_16.heap.size]? = some _ := heap_new (w_16) (.cells #[.int .i64 0, .int .i64 0, .slice none 0 0] 27)
          have ge6 : w14.heap.size ≤ w_16.heap.size := B_16.out.size
          refine hK.out _ _ (fun _ => ⟨(cells3 p0_17).1, (cells3 p0_17).2.1, (cells3 p0_17).2.2, (cells3 p1_17).1, (cells3 p1_17).2.1, (cells3 p1_17).2.2⟩) ?_
          clear hK K
          refine Till.one (i := 9) (by kernel_rfl) rfl (by rfl) (fun K hK => ?_)
          go_simp
          refine hK.out _ _ (fun _ => ⟨cell_later (below1 _ _) (cells3 p0_16).1, cell_later (below1 _ _) (cells3 p0_16).2.1, cell_later (below1 _ _) (cells3 p0_16).2.2, cell_later (below1 _ _) (cells3 p1_16).1, cell_later (below1 _ _) (cells3 p1_16).2.1, cell_later (below1 _ _) (cells3 p1_16).2.2⟩) ?_
          clear hK K
          refine Till.one (i := 10) (by kernel_rfl) rfl (by rfl) (fun K hK => ?_)
          go_simp
          refine hK.out _ _ (fun h => absurd rfl h) ?_
          clear hK K
          refine Till.done (by kernel_rfl) ⟨rfl, _, _, _, _, _, _, _, _, _, a4, cap4, rfl, ?_, ?_, ?_, ?_⟩ _
          · exact heap_new _ _
          · exact OwnsB.at (OwnsB.alloc O4_16.out _)
          · exact below_seq B_16.out (below1 _ _)
          · exact B_16.out.size
        · go_simp
          have p0_18 := heap_later p0_15 (below1 (w_15) (.cells #[.int .i64 0, .int .i64 0, .slice none 0 0] 27))
          have p1_18 := heap_later p1_15 (below1 (w_15) (.cells #[.int .i64 0, .int .i64 0, .slice none 0 0] 27))
          have B_18 := Lib.hid (below_seq B_15.out (below1 (w_15) (.cells #[.int .i64 0, .int .i64 0, .slice none 0 0] 27)))
          have O1_18 := Lib.hid (OwnsB.alloc O1_15.out (.cells #[.int .i64 0, .int .i64 0, .slice none 0 0] 27))
          have O3_18 := Lib.hid (OwnsB.alloc O3_15.out (.cells #[.int .i64 0, .int .i64 0, .slice none 0 0] 27))
          have s_18 : ((w_15).alloc (.cells #[.int .i64 0, .int .i64 0, .slice none 0 0] 27)).heap[w_15.heap.size]? = some _ := heap_new (w_15) (.cells #[.int .i64 0, .int .i64 0, .slice none 0 0] 27)
          have ge6 : w14.heap.size ≤ w_15.heap.size := B_15.out.size
          refine hK.out _ _ (fun _ => ⟨(cells3 p0_18).1, (cells3 p0_18).2.1, (cells3 p0_18).2.2, (cells3 p1_18).1, (cells3 p1_18).2.1, (cells3 p1_18).2.2⟩) ?_
          clear hK K
          refine Till.one (i := 4) (by kernel_rfl) rfl (by rfl) (fun K hK => ?_)
          go_simp
          refine (HI.out _ _ _ _ _ (OwnsB.at O1_18.out) (OwnsB.at O3_18.out)).mono ?_; rintro e w_19 ⟨a4, cap4, rfl, ho4, hb_19⟩
          have hlt4 := heap_lt s_18
          have p0_19 := heap_later p0_18 hb_19
          have p1_19 := heap_later p1_18 hb_19
          have B_19 := Lib.hid (below_seq B_18.out hb_19)
          have O1_19 := Lib.hid (OwnsB.below O1_18.out hb_19)
          have O3_19 := Lib.hid (OwnsB.below O3_18.out hb_19)
          have s_19 := heap_later s_18 hb_19
          have O4_19 := Lib.hid ho4
          clear ho4
          refine hK.out _ _ (fun _ => ⟨(cells3 p0_19).1, (cells3 p0_19).2.1, (cells3 p0_19).2.2, (cells3 p1_19).1, (cells3 p1_19).2.1, (cells3 p1_19).2.2⟩) ?_
          clear hK K
          refine Till.take (i := 5) (v := ?_) rfl (by kernel_rfl) (by kernel_rfl) (by kernel_rfl) (by kernel_rfl) (fun _ _ _ h => nomatch h.1) (Or.inl ⟨by kernel_rfl, ?_⟩) ⟨(cells3 p0_19).1, (cells3 p0_19).2.1, (cells3 p0_19).2.2, (cells3 p1_19).1, (cells3 p1_19).2.1, (cells3 p1_19).2.2⟩ ?_
          rotate_left
          · intro ws hsw
            obtain ⟨s1, s2, s3, s4, s5, s6⟩ := hsw
            go_simp
            try with_reducible rfl
          try simp only [Act.put, List.setIfInBounds_toArray, List.set_cons_zero, List.set_cons_succ]
          refine Till.take (i := 6) (v := ?_) rfl (by kernel_rfl) (by kernel_rfl) (by kernel_rfl) (by kernel_rfl) (fun _ _ _ h => nomatch h.1) (Or.inl ⟨by kernel_rfl, ?_⟩) ⟨(cells3 p0_19).1, (cells3 p0_19).2.1, (cells3 p0_19).2.2, (cells3 p1_19).1, (cells3 p1_19).2.1, (cells3 p1_19).2.2⟩ ?_
          rotate_left
          · intro ws hsw
            obtain ⟨s1, s2, s3, s4, s5, s6⟩ := hsw
            go_simp
            try with_reducible rfl
          try simp only [Act.put, List.setIfInBounds_toArray, List.set_cons_zero, List.set_cons_succ]
          refine Till.take (i := 7) (v := ?_) rfl (by kernel_rfl) (by kernel_rfl) (by kernel_rfl) (by kernel_rfl) (fun _ _ _ h => nomatch h.1) (Or.inl ⟨by kernel_rfl, ?_⟩) ⟨(cells3 p0_19).1, (cells3 p0_19).2.1, (cells3 p0_19).2.2, (cells3 p1_19).1, (cells3 p1_19).2.1, (cells3 p1_19).2.2⟩ ?_
          rotate_left
          · intro ws hsw
            obtain ⟨s1, s2, s3, s4, s5, s6⟩ := hsw
            go_simp
            try with_reducible rfl
          try simp only [Act.put, List.setIfInBounds_toArray, List.set_cons_zero, List.set_cons_succ]
          obtain ⟨t0, t1, t2⟩ := cells3 s_19
          have e0 := free3 s_19 0
          have e1 := free3 s_19 1
          have e2 := free3 s_19 2
          refine Till.one (i := 9) (by kernel_rfl) rfl (by rfl) (fun K hK => ?_)
          go_simp
          refine hK.out _ _ (fun _ => ⟨(cells3 (heap_set3Meet (b6 := w_15.heap.size) p0_19 (show w.heap.size ≠ w_15.heap.size by omega) _ _ _)).1, (cells3 (heap_set3Meet (b6 := w_15.heap.size) p0_19 (show w.heap.size ≠ w_15.heap.size by omega) _ _ _)).2.1, (cells3 (heap_set3Meet (b6 := w_15.heap.size) p0_19 (show w.heap.size ≠ w_15.heap.size by omega) _ _ _)).2.2, (cells3 (heap_set3Meet (b6 := w_15.heap.size) p1_19 (show w.heap.size + 1 ≠ w_15.heap.size by omega) _ _ _)).1, (cells3 (heap_set3Meet (b6 := w_15.heap.size) p1_19 (show w.heap.size + 1 ≠ w_15.heap.size by omega) _ _ _)).2.1, (cells3 (heap_set3Meet (b6 := w_15.heap.size) p1_19 (show w.heap.size + 1 ≠ w_15.heap.size by omega) _ _ _)).2.2⟩) ?_
          clear hK K
          refine Till.one (i := 10) (by kernel_rfl) rfl (by rfl) (fun K hK => ?_)
          go_simp
          refine hK.out _ _ (fun h => absurd rfl h) ?_
          clear hK K
          refine Till.done (by kernel_rfl) ⟨rfl, _, _, _, _, _, _, _, _, _, a4, cap4, rfl, ?_, ?_, ?_, ?_⟩ _
          · exact by simpa using block_setCell (block_setCell (block_setCell s_19 (i := 0) (.int .i64 Wv)) (i := 1) (.int .i64 Tv)) (i := 2) _
          · exact OwnsB.at (O4_19.out.set3 hlt4 _ _ _)
          · exact below_set3 B_19.out ge6 _ _ _
          · exact ge6
      · go_simp
        have p0_20 := heap_later p0_14 (below1 (w_14) (.cells #[.int .i64 0, .int .i64 0, .slice none 0 0] 27))
        have p1_20 := heap_later p1_14 (below1 (w_14) (.cells #[.int .i64 0, .int .i64 0, .slice none 0 0] 27))
        have B_20 := Lib.hid (below_seq B_14.out (below1 (w_14) (.cells #[.int .i64 0, .int .i64 0, .slice none 0 0] 27)))
        have O1_20 := Lib.hid (OwnsB.alloc O1_14.out (.cells #[.int .i64 0, .int .i64 0, .slice none 0 0] 27))
        have s_20 : ((w_14).alloc (.cells #[.int .i64 0, .int .i64 0, .slice none 0 0] 27)).heap[w_14.heap.size]? = some _ := heap_new (w_14) (.cells #[.int .i64 0, .int .i64 0, .slice none 0 0] 27)
        have ge6 : w14.heap.size ≤ w_14.heap.size := B_14.out.size
        refine hK.out _ _ (fun _ => ⟨(cells3 p0_20).1, (cells3 p0_20).2.1, (cells3 p0_20).2.2, (cells3 p1_20).1, (cells3 p1_20).2.1, (cells3 p1_20).2.2⟩) ?_
        clear hK K
        refine Till.one (i := 3) (by kernel_rfl) rfl (by rfl) (fun K hK => ?_)
        go_simp
        refine (toRegion_any _ _ _ _ _ ys _ HM.out hsm' (HB2.out.below B_20.out)).mono ?_; rintro e w_21 ⟨g3_21, rfl, ho3_21, hb_21⟩
        have p0_21 := heap_later p0_20 hb_21
        have p1_21 := heap_later p1_20 hb_21
        have B_21 := Lib.hid (below_seq B_20.out hb_21)
        have O1_21 := Lib.hid (OwnsB.below O1_20.out hb_21)
        have s_21 := heap_later s_20 hb_21
        have O3_21 := Lib.hid ho3_21
        clear ho3_21
        refine hK.out _ _ (fun _ => ⟨(cells3 p0_21).1, (cells3 p0_21).2.1, (cells3 p0_21).2.2, (cells3 p1_21).1, (cells3 p1_21).2.1, (cells3 p1_21).2.2⟩) ?_
        clear hK K
        refine Till.one (i := 4) (by kernel_rfl) rfl (by rfl) (fun K hK => ?_)
        go_simp
        refine (HI.out _ _ _ _ _ (OwnsB.at O1_21.out) (OwnsB.at O3_21.out)).mono ?_; rintro e w_22 ⟨a4, cap4, rfl, ho4, hb_22⟩
        have hlt4 := heap_lt s_21
        have p0_22 := heap_later p0_21 hb_22
        have p1_22 := heap_later p1_21 hb_22
        have B_22 := Lib.hid (below_seq B_21.out hb_22)
        have O1_22 := Lib.hid (OwnsB.below O1_21.out hb_22)
        have s_22 := heap_later s_21 hb_22
        have O3_22 := Lib.hid (OwnsB.below O3_21.out hb_22)
        have O4_22 := Lib.hid ho4
        clear ho4
        refine hK.out _ _ (fun _ => ⟨(cells3 p0_22).1, (cells3 p0_22).2.1, (cells3 p0_22).2.2, (cells3 p1_22).1, (cells3 p1_22).2.1, (cells3 p1_22).2.2⟩) ?_
        clear hK K
        refine Till.take (i := 5) (v := ?_) rfl (by kernel_rfl) (by kernel_rfl) (by kernel_rfl) (by kernel_rfl) (fun _ _ _ h => nomatch h.1) (Or.inl ⟨by kernel_rfl, ?_⟩) ⟨(cells3 p0_22).1, (cells3 p0_22).2.1, (cells3 p0_22).2.2, (cells3 p1_22).1, (cells3 p1_22).2.1, (cells3 p1_22).2.2⟩ ?_
        rotate_left
        · intro ws hsw
          obtain ⟨s1, s2, s3, s4, s5, s6⟩ := hsw
          go_simp
          try with_reducible rfl
        try simp only [Act.put, List.setIfInBounds_toArray, List.set_cons_zero, List.set_cons_succ]
        refine Till.take (i := 6) (v := ?_) rfl (by kernel_rfl) (by kernel_rfl) (by kernel_rfl) (by kernel_rfl) (fun _ _ _ h => nomatch h.1) (Or.inl ⟨by kernel_rfl, ?_⟩) ⟨(cells3 p0_22).1, (cells3 p0_22).2.1, (cells3 p0_22).2.2, (cells3 p1_22).1, (cells3 p1_22).2.1, (cells3 p1_22).2.2⟩ ?_
        rotate_left
        · intro ws hsw
          obtain ⟨s1, s2, s3, s4, s5, s6⟩ := hsw
          go_simp
          try with_reducible rfl
        try simp only [Act.put, List.setIfInBounds_toArray, List.set_cons_zero, List.set_cons_succ]
        refine Till.take (i := 7) (v := ?_) rfl (by kernel_rfl) (by kernel_rfl) (by kernel_rfl) (by kernel_rfl) (fun _ _ _ h => nomatch h.1) (Or.inl ⟨by kernel_rfl, ?_⟩) ⟨(cells3 p0_22).1, (cells3 p0_22).2.1, (cells3 p0_22).2.2, (cells3 p1_22).1, (cells3 p1_22).2.1, (cells3 p1_22).2.2⟩ ?_
        rotate_left
        · intro ws hsw
          obtain ⟨s1, s2, s3, s4, s5, s6⟩ := hsw
          go_simp
          try with_reducible rfl
        try simp only [Act.put, List.setIfInBounds_toArray, List.set_cons_zero, List.set_cons_succ]
        obtain ⟨t0, t1, t2⟩ := cells3 s_22
        have e0 := free3 s_22 0
        have e1 := free3 s_22 1
        have e2 := free3 s_22 2
        refine Till.one (i := 9) (by kernel_rfl) rfl (by rfl) (fun K hK => ?_)
        go_simp
        refine hK.out _ _ (fun _ => ⟨(cells3 (heap_set3Meet (b6 := w_14.heap.size) p0_22 (show w.heap.size ≠ w_14.heap.size by omega) _ _ _)).1, (cells3 (heap_set3Meet (b6 := w_14.heap.size) p0_22 (show w.heap.size ≠ w_14.heap.size by omega) _ _ _)).2.1, (cells3 (heap_set3Meet (b6 := w_14.heap.size) p0_22 (show w.heap.size ≠ w_14.heap.size by omega) _ _ _)).2.2, (cells3 (heap_set3Meet (b6 := w_14.heap.size) p1_22 (show w.heap.size + 1 ≠ w_14.heap.size by omega) _ _ _)).1, (cells3 (heap_set3Meet (b6 := w_14.heap.size) p1_22 (show w.heap.size + 1 ≠ w_14.heap.size by omega) _ _ _)).2.1, (cells3 (heap_set3Meet (b6 := w_14.heap.size) p1_22 (show w.heap.size + 1 ≠ w_14.heap.size by omega) _ _ _)).2.2⟩) ?_
        clear hK K
        refine Till.one (i := 10) (by kernel_rfl) rfl (by rfl) (fun K hK => ?_)
        go_simp
        refine hK.out _ _ (fun h => absurd rfl h) ?_
        clear hK K
        refine Till.done (by kernel_rfl) ⟨rfl, _, _, _, _, _, _, _, _, _, a4, cap4, rfl, ?_, ?_, ?_, ?_⟩ _
        · exact by simpa using block_setCell (block_setCell (block_setCell s_22 (i := 0) (.int .i64 Wv)) (i := 1) (.int .i64 Tv)) (i := 2) _
        · exact OwnsB.at (O4_22.out.set3 hlt4 _ _ _)
        · exact below_set3 B_22.out ge6 _ _ _
        · exact ge6
    · go_simp
      have p0_23 := heap_later D0 (below1 (w14.drew) (.cells #[.int .i64 0, .int .i64 0, .slice none 0 0] 27))
      have p1_23 := heap_later D1 (below1 (w14.drew) (.cells #[.int .i64 0, .int .i64 0, .slice none 0 0] 27))
      have B_23 := Lib.hid (below_seq DB.out (below1 (w14.drew) (.cells #[.int .i64 0, .int .i64 0, .slice none 0 0] 27)))
      have s_23 : ((w14.drew).alloc (.cells #[.int .i64 0, .int .i64 0, .slice none 0 0] 27)).heap[w14.heap.size]? = some _ := heap_new (w14.drew) (.cells #[.int .i64 0, .int .i64 0, .slice none 0 0] 27)
      have ge6 : w14.heap.size ≤ w14.heap.size := DB.out.size
      refine hK.out _ _ (fun _ => ⟨(cells3 p0_23).1, (cells3 p0_23).2.1, (cells3 p0_23).2.2, (cells3 p1_23).1, (cells3 p1_23).2.1, (cells3 p1_23).2.2⟩) ?_
      clear hK K
      refine Till.one (i := 1) (by kernel_rfl) rfl (by rfl) (fun K hK => ?_)
      go_simp
      refine (toRegion_any _ _ _ _ _ xs _ HN.out hsm (HA2.out.below B_23.out)).mono ?_; rintro e w_24 ⟨g1_24, rfl, ho1_24, hb_24⟩
      have p0_24 := heap_later p0_23 hb_24
      have p1_24 := heap_later p1_23 hb_24
      have B_24 := Lib.hid (below_seq B_23.out hb_24)
      have s_24 := heap_later s_23 hb_24
      have O1_24 := Lib.hid ho1_24
      clear ho1_24
      refine hK.out _ _ (fun _ => ⟨(cells3 p0_24).1, (cells3 p0_24).2.1, (cells3 p0_24).2.2, (cells3 p1_24).1, (cells3 p1_24).2.1, (cells3 p1_24).2.2⟩) ?_
      clear hK K
      refine Till.one (i := 3) (by kernel_rfl) rfl (by rfl) (fun K hK => ?_)
      go_simp
      refine (toRegion_any _ _ _ _ _ ys _ HM.out hsm' (HB2.out.below B_24.out)).mono ?_; rintro e w_25 ⟨g3_25, rfl, ho3_25, hb_25⟩
      have p0_25 := heap_later p0_24 hb_25
      have p1_25 := heap_later p1_24 hb_25
      have B_25 := Lib.hid (below_seq B_24.out hb_25)
      have s_25 := heap_later s_24 hb_25
      have O1_25 := Lib.hid (OwnsB.below O1_24.out hb_25)
      have O3_25 := Lib.hid ho3_25
      clear ho3_25
      refine hK.out _ _ (fun _ => ⟨(cells3 p0_25).1, (cells3 p0_25).2.1, (cells3 p0_25).2.2, (cells3 p1_25).1, (cells3 p1_25).2.1, (cells3 p1_25).2.2⟩) ?_
      clear hK K
      refine Till.one (i := 4) (by kernel_rfl) rfl (by rfl) (fun K hK => ?_)
      go_simp
      refine (HI.out _ _ _ _ _ (OwnsB.at O1_25.out) (OwnsB.at O3_25.out)).mono ?_; rintro e w_26 ⟨a4, cap4, rfl, ho4, hb_26⟩
      have hlt4 := heap_lt s_25
      have p0_26 := heap_later p0_25 hb_26
      have p1_26 := heap_later p1_25 hb_26
      have B_26 := Lib.hid (below_seq B_25.out hb_26)
      have s_26 := heap_later s_25 hb_26
      have O1_26 := Lib.hid (OwnsB.below O1_25.out hb_26)
      have O3_26 := Lib.hid (OwnsB.below O3_25.out hb_26)
      have O4_26 := Lib.hid ho4
      clear ho4
      refine hK.out _ _ (fun _ => ⟨(cells3 p0_26).1, (cells3 p0_26).2.1, (cells3 p0_26).2.2, (cells3 p1_26).1, (cells3 p1_26).2.1, (cells3 p1_26).2.2⟩) ?_
      clear hK K
      refine Till.take (i := 5) (v := ?_) rfl (by kernel_rfl) (by kernel_rfl) (by kernel_rfl) (by kernel_rfl) (fun _ _ _ h => nomatch h.1) (Or.inl ⟨by kernel_rfl, ?_⟩) ⟨(cells3 p0_26).1, (cells3 p0_26).2.1, (cells3 p0_26).2.2, (cells3 p1_26).1, (cells3 p1_26).2.1, (cells3 p1_26).2.2⟩ ?_
      rotate_left
      · intro ws hsw
        obtain ⟨s1, s2, s3, s4, s5, s6⟩ := hsw
        go_simp
        try with_reducible rfl
      try simp only [Act.put, List.setIfInBounds_toArray, List.set_cons_zero, List.set_cons_succ]
      refine Till.take (i := 6) (v := ?_) rfl (by kernel_rfl) (by kernel_rfl) (by kernel_rfl) (by kernel_rfl) (fun _ _ _ h => nomatch h.1) (Or.inl ⟨by kernel_rfl, ?_⟩) ⟨(cells3 p0_26).1, (cells3 p0_26).2.1, (cells3 p0_26).2.2, (cells3 p1_26).1, (cells3 p1_26).2.1, (cells3 p1_26).2.2⟩ ?_
      rotate_left
      · intro ws hsw
        obtain ⟨s1, s2, s3, s4, s5, s6⟩ := hsw
        go_simp
        try with_reducible rfl
      try simp only [Act.put, List.setIfInBounds_toArray, List.set_cons_zero, List.set_cons_succ]
      refine Till.take (i := 7) (v := ?_) rfl (by kernel_rfl) (by kernel_rfl) (by kernel_rfl) (by kernel_rfl) (fun _ _ _ h => nomatch h.1) (Or.inl ⟨by kernel_rfl, ?_⟩) ⟨(cells3 p0_26).1, (cells3 p0_26).2.1, (cells3 p0_26).2.2, (cells3 p1_26).1, (cells3 p1_26).2.1, (cells3 p1_26).2.2⟩ ?_
      rotate_left
      · intro ws hsw
        obtain ⟨s1, s2, s3, s4, s5, s6⟩ := hsw
        go_simp
        try with_reducible rfl
      try simp only [Act.put, List.setIfInBounds_toArray, List.set_cons_zero, List.set_cons_succ]
      obtain ⟨t0, t1, t2⟩ := cells3 s_26
      have e0 := free3 s_26 0
      have e1 := free3 s_26 1
      have e2 := free3 s_26 2
      refine Till.one (i := 9) (by kernel_rfl) rfl (by rfl) (fun K hK => ?_)
      go_simp
      refine hK.out _ _ (fun _ => ⟨(cells3 (heap_set3Meet (b6 := w14.heap.size) p0_26 (show w.heap.size ≠ w14.heap.size by omega) _ _ _)).1, (cells3 (heap_set3Meet (b6 := w14.heap.size) p0_26 (show w.heap.size ≠ w14.heap.size by omega) _ _ _)).2.1, (cells3 (heap_set3Meet (b6 := w14.heap.size) p0_26 (show w.heap.size ≠ w14.heap.size by omega) _ _ _)).2.2, (cells3 (heap_set3Meet (b6 := w14.heap.size) p1_26 (show w.heap.size + 1 ≠ w14.heap.size by omega) _ _ _)).1, (cells3 (heap_set3Meet (b6 := w14.heap.size) p1_26 (show w.heap.size + 1 ≠ w14.heap.size by omega) _ _ _)).2.1, (cells3 (heap_set3Meet (b6 := w14.heap.size) p1_26 (show w.heap.size + 1 ≠ w14.heap.size by omega) _ _ _)).2.2⟩) ?_
      clear hK K
      refine Till.one (i := 10) (by kernel_rfl) rfl (by rfl) (fun K hK => ?_)
      go_simp
      refine hK.out _ _ (fun h => absurd rfl h) ?_
      clear hK K
      refine Till.done (by kernel_rfl) ⟨rfl, _, _, _, _, _, _, _, _, _, a4, cap4, rfl, ?_, ?_, ?_, ?_⟩ _
      · exact by simpa using block_setCell (block_setCell (block_setCell s_26 (i := 0) (.int .i64 Wv)) (i := 1) (.int .i64 Tv)) (i := 2) _
      · exact OwnsB.at (O4_26.out.set3 hlt4 _ _ _)
      · exact below_set3 B_26.out ge6 _ _ _
      · exact ge6
  rintro aa w15 ⟨v95, v96, v97, v98, v99, v94, v100, v101, ph_b, ph_a, ph_c, rfl, h_ph, h_AH, hb15, ph_ge⟩
  try simp only [Act.put, List.setIfInBounds_toArray, List.set_cons_zero, List.set_cons_succ]
  clear HA2 HB2 hl0 hl1
  have z15 : w14.heap.size ≤ w15.heap.size := hb15.size
  have b15 := below_seq b14 hb15
  have pa_15 := heap_later pa_14 hb15
  have pb_15 := heap_later pb_14 hb15
  have pw_15 := heap_later pw_14 hb15
  have AW_15 := Lib.hid (BoolsAt.below AW_14.out hb15)
  have px_15 := heap_later px_14 hb15
  have py_15 := heap_later py_14 hb15
  have pg_15 := heap_later pg_14 hb15
  have M_15 := Lib.hid (OwnsB.below M_14.out hb15)
  have ph_15 := h_ph
  have AH_15 := Lib.hid h_AH
  clear pa_14 pb_14 pw_14 AW_14 px_14 py_14 pg_14 M_14 h_ph h_AH
  obtain ⟨c15_pw0, c15_pw1, c15_pw2⟩ := cells3 pw_15
  have l15_pw := heap_lt pw_15
  obtain ⟨c15_ph0, c15_ph1, c15_ph2⟩ := cells3 ph_15
  have l15_ph := heap_lt ph_15
  go_wp2_with fail
  refine (eqRegion_same _ _ _ _ _ _ _ zs _ HZ.out hlen AH_15.out AW_15.out).mono ?_; rintro e w16 ⟨rfl, hb16⟩
  have b16 := below_seq b15 hb16
  have z16 : w15.heap.size + 0 ≤ w16.heap.size := by have := hb16.size; (try simp at this); omega
  have pa_16 := heap_later pa_15 hb16
  have pb_16 := heap_later pb_15 hb16
  have pw_16 := heap_later pw_15 hb16
  have AW_16 := Lib.hid (BoolsAt.below AW_15.out hb16)
  have px_16 := heap_later px_15 hb16
  have py_16 := heap_later py_15 hb16
  have pg_16 := heap_later pg_15 hb16
  have M_16 := Lib.hid (OwnsB.below M_15.out hb16)
  have ph_16 := heap_later ph_15 hb16
  have AH_16 := Lib.hid (BoolsAt.below AH_15.out hb16)
  clear pa_15 pb_15 pw_15 AW_15 px_15 py_15 pg_15 M_15 ph_15 AH_15 c15_pw0 c15_pw1 c15_pw2 l15_pw c15_ph0 c15_ph1 c15_ph2 l15_ph
  obtain ⟨c16_pg0, c16_pg1, c16_pg2⟩ := cells3 pg_16
  have l16_pg := heap_lt pg_16
  go_wp2_with fail
  refine (heldRegion_marks _ _ _ _ _ _ _ hlen (by omega) (by omega) (marks_at M_16.out)).mono ?_; rintro e w17 ⟨rfl, hb17⟩
  have b17 := below_seq b16 hb17
  have z17 : w16.heap.size + 0 ≤ w17.heap.size := by have := hb17.size; (try simp at this); omega
  have pa_17 := heap_later pa_16 hb17
  have pb_17 := heap_later pb_16 hb17
  have pw_17 := heap_later pw_16 hb17
  have AW_17 := Lib.hid (BoolsAt.below AW_16.out hb17)
  have px_17 := heap_later px_16 hb17
  have py_17 := heap_later py_16 hb17
  have pg_17 := heap_later pg_16 hb17
  have M_17 := Lib.hid (OwnsB.below M_16.out hb17)
  have ph_17 := heap_later ph_16 hb17
  have AH_17 := Lib.hid (BoolsAt.below AH_16.out hb17)
  clear pa_16 pb_16 pw_16 AW_16 px_16 py_16 pg_16 M_16 ph_16 AH_16 c16_pg0 c16_pg1 c16_pg2 l16_pg
  go_wp2
  go_ret
  exact ⟨rfl, b17⟩

end Go.Proofs.Ytehhccfbeneahaa
