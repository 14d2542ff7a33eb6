/- Plain facts: the lowest tiling is the highest one exactly if there is no other. -/
import Derived.Test.YthpifnjoiklgnaaGreatKDrawTwo
import Derived.Test.YthpifnjoiklgnaaGreatKBnd
namespace Go.Proofs.YthpifnjoiklgnaaGreat
open Go.RowKit
set_option linter.unusedVariables false
set_option maxRecDepth 100000
set_option linter.unusedSimpArgs false

set_option maxHeartbeats 4000000 in
theorem drawHighest_any (cb : Option Addr) (n cap : Nat) (zs : List Int) (w : World) (hn : n = zs.length) (hn' : n ≤ 1048576) (hcap : n ≤ cap) (hb : BytesAt w cb zs) :
 Calls Tryz.prog 15 #[.slice cb n cap] w (DrawnRg w) := by
 have HN := Lib.hid hn; clear hn
 have HB := Lib.hid hb; clear hb
 go_enter Tryz.func15, Tryz.ntmps15
 go_wp2_with fail
 refine (l20Open_any _ _ _ zs _ HN.out hn' hcap (HB.out.below (below1 _ _))).mono ?_; rintro e w1 ⟨rfl, r1, b1⟩
 have q1 := heap_later (heap_new w (.cells #[.int .i64 0, .int .i64 0, .slice none 0 0] 25)) b1
 have B1 := Lib.hid (below_seq (below1 w _) b1)
 have R1 : Hid (RD w1 (w.heap.size + 1) 0) := by show RD _ _ _; simpa using r1
 have l1 := heap_lt q1
 have l2 := R1.out.lt
 clear r1 b1
 go_wp2_with fail
 refine (l20Two_any (w.heap.size + 1) 0 _ (by omega) R1.out).mono ?_; rintro e w2 ⟨W, T, a, m, c, xs, la, q, lcap, L, lb, r, bcap, M, rfl, hm, h36, hs, o2, hq, hq36, i2, hr, hr36, j2, r2, g2⟩
 have q2 := heap_grown q1 g2 (by simp)
 have B2 := Lib.hid (below_grown B1.out g2 (Nat.le_refl _) (fun k e => by cases e; omega))
 have HM := Lib.hid hm; clear hm
 have HQ := Lib.hid hq; clear hq
 have HR := Lib.hid hr; clear hr
 have O2 := Lib.hid o2; clear o2
 clear i2 j2
 have hl2 := r2.lt
 clear r2 g2
 obtain ⟨wB, hwB⟩ : ∃ wB, wB = w2.alloc (.cells #[.int .i64 W, .int .i64 T, .slice a m c] 25) := ⟨_, rfl⟩
 have pB : wB.heap[w2.heap.size]? = some (.cells #[.int .i64 W, .int .i64 T, .slice a m c] 25 (0, 0)) := by rw [hwB]; exact heap_new _ _
 have q3 : wB.heap[w.heap.size]? = some (.cells #[.int .i64 0, .int .i64 0, .slice none 0 0] 25 (0, 0)) := by rw [hwB]; exact heap_later q2 (below1 _ _)
 have B3 : Hid (Below w.heap.size w wB) := by rw [hwB]; exact below_seq B2.out (below1 _ _)
 have O3 : Hid (OwnsB wB w1.heap.size (.slice a m c) xs) := by rw [hwB]; exact O2.out.alloc _
 obtain ⟨c0, c1, c2⟩ := cells3 pB
 obtain ⟨d0, d1, d2⟩ := cells3 q3
 have f0 := free3 q3 0
 have f1 := free3 q3 1
 have f2 := free3 q3 2
 have HWB := Lib.hid hwB; clear hwB
 go_upto_region 2 with fail
 rw [← HWB.out]
 clear HWB
 go_wp2
 refine bodyPost_ret (v := .agg #[.int .i64 W, .int .i64 T, .slice a m c]) (by simp [results, Tryz.results15, go_sem, d0, d1, d2]) rfl ⟨W, T, a, m, c, xs, rfl, HM.out, h36, hs, (O3.out.set3 (by omega) _ _ _).lower (by omega), below_set3 B3.out (Nat.le_refl _) _ _ _⟩

end Go.Proofs.YthpifnjoiklgnaaGreat

namespace Go.Proofs.YthpifnjoiklgnaaGreat
open Go.RowKit
set_option linter.unusedVariables false
set_option maxRecDepth 100000
set_option linter.unusedSimpArgs false

end Go.Proofs.YthpifnjoiklgnaaGreat

namespace Go.Proofs.YthpifnjoiklgnaaGreat
open Go.RowKit
set_option linter.unusedVariables false
set_option maxRecDepth 100000
set_option linter.unusedSimpArgs false

set_option maxHeartbeats 8000000 in
theorem sHeightsHigh_ret (W T : Int) (a : Option Addr) (n cap : Nat) (xs : List Bool) (la0 : Option Addr) (m lcap : Nat) (A : List Int) (lb0 : Option Addr) (q bcap : Nat) (B : List Int) (w : World) (hn : n = xs.length) (hn' : n ≤ 1048576) (hm : m = A.length) (hm' : m ≤ 1048576) (hq : q = B.length) (hq' : q ≤ 1048576) (ha : BoolsAt w a xs) (hl : IntsAt w la0 A) (hb : IntsAt w lb0 B) :
 Calls Tryz.prog 80 #[.agg #[.int .i64 W, .int .i64 T, .slice a n cap], .slice la0 m lcap, .slice lb0 q bcap] w (RetL w (bothF true W T xs A B).length (bothF true W T xs A B)) := by
 obtain ⟨i0, hii, hz0, hz1, hz2⟩ := info_parts infoInt
 have HN := Lib.hid hn; clear hn
 have HM := Lib.hid hm; clear hm
 have HQ := Lib.hid hq; clear hq
 have HA := Lib.hid ha; clear ha
 have HL := Lib.hid hl; clear hl
 have HB := Lib.hid hb; clear hb
 by_cases hm0 : m = 0
 · have e : bothF true W T xs A B = [] := by
    have : A = [] := List.eq_nil_of_length_eq_zero (by rw [← HM.out]; exact hm0)
    subst this
    unfold bothF; split <;> rfl
   rw [e]; clear e
   subst hm0
   go_enter Tryz.func80, Tryz.ntmps80
   go_wp2
   go_loopw [7, 8] (fun o i wr => i = .int .i64 0 ∧ OwnsI wr (w.heap.size + 1) o [] ∧ Below w.heap.size w wr) (fun _ _ _ => 0)
   case atStart => exact ⟨rfl, nil_boxed w _, below_seq (below1 w (.cells #[.int .i64 W, .int .i64 T, .slice a n cap] 25)) (below1 _ _)⟩
   case round =>
    rename World => wo
    obtain ⟨rfl, ho, hbel⟩ := hrel
    obtain ⟨aR, capR, hv⟩ := OwnsI.form2 ho
    subst hv
    have HO := Lib.hid ho; clear ho
    go_wp2
    go_ret
    exact ⟨aR, capR, rfl, HO.out.lower (by omega), hbel⟩
 have hpos : 0 < m := by omega
 have hpos' : (0 : Int) < m := by omega
 cases h1 : hokB W T xs A
 · have e : bothF true W T xs A B = [] := by unfold bothF; rw [h1]; rfl
   rw [e]
   have H1 := Lib.hid h1; clear h1 e
   go_enter Tryz.func80, Tryz.ntmps80
   go_wp2
   go_loopw [7, 8] (fun o i wr => i = .int .i64 0 ∧ OwnsI wr (w.heap.size + 1) o [] ∧ wr.heap[w.heap.size]? = some (.cells #[.int .i64 W, .int .i64 T, .slice a n cap] 25 (0, 0)) ∧ Below w.heap.size w wr) (fun _ _ _ => 0)
   case atStart => exact ⟨rfl, nil_boxed w _, heap_later (heap_new w _) (below1 _ _), below_seq (below1 w (.cells #[.int .i64 W, .int .i64 T, .slice a n cap] 25)) (below1 _ _)⟩
   case round =>
    rename World => wo
    obtain ⟨rfl, ho, pr, bo⟩ := hrel
    obtain ⟨aR, capR, hv⟩ := OwnsI.form2 ho
    subst hv
    have HO := Lib.hid ho; clear ho
    obtain ⟨c0, c1, c2⟩ := cells3 pr
    go_wp2_with fail
    refine (sHeightsOk_any _ _ _ _ _ xs _ _ _ A _ HN.out hn' HM.out hm' (HA.out.below bo) (HL.out.below bo)).mono ?_; rintro e w1 ⟨rfl, hb1⟩
    rw [H1.out]
    go_wp2
    go_ret
    exact ⟨aR, capR, rfl, (HO.out.below hb1).lower (by omega), below_seq bo hb1⟩
 cases h2 : hokB W T xs B
 · have e : bothF true W T xs A B = [] := by unfold bothF; rw [h1, h2]; rfl
   rw [e]
   have H1 := Lib.hid h1; have H2 := Lib.hid h2; clear h1 h2 e
   go_enter Tryz.func80, Tryz.ntmps80
   go_wp2
   go_loopw [7, 8] (fun o i wr => i = .int .i64 0 ∧ OwnsI wr (w.heap.size + 1) o [] ∧ wr.heap[w.heap.size]? = some (.cells #[.int .i64 W, .int .i64 T, .slice a n cap] 25 (0, 0)) ∧ Below w.heap.size w wr) (fun _ _ _ => 0)
   case atStart => exact ⟨rfl, nil_boxed w _, heap_later (heap_new w _) (below1 _ _), below_seq (below1 w (.cells #[.int .i64 W, .int .i64 T, .slice a n cap] 25)) (below1 _ _)⟩
   case round =>
    rename World => wo
    obtain ⟨rfl, ho, pr, bo⟩ := hrel
    obtain ⟨aR, capR, hv⟩ := OwnsI.form2 ho
    subst hv
    have HO := Lib.hid ho; clear ho
    obtain ⟨c0, c1, c2⟩ := cells3 pr
    go_wp2_with fail
    refine (sHeightsOk_any _ _ _ _ _ xs _ _ _ A _ HN.out hn' HM.out hm' (HA.out.below bo) (HL.out.below bo)).mono ?_; rintro e w1 ⟨rfl, hb1⟩
    rw [H1.out]
    have b1 := below_seq bo hb1
    obtain ⟨d0, d1, d2⟩ := cells3 (heap_later pr hb1)
    go_wp2_with fail
    refine (sHeightsOk_any _ _ _ _ _ xs _ _ _ B _ HN.out hn' HQ.out hq' (HA.out.below b1) (HB.out.below b1)).mono ?_; rintro e w2 ⟨rfl, hb2⟩
    rw [H2.out]
    go_wp2
    go_ret
    exact ⟨aR, capR, rfl, ((HO.out.below hb1).below hb2).lower (by omega), below_seq b1 hb2⟩
 obtain ⟨l1, hr⟩ := hokB_len h1
 obtain ⟨l2, _⟩ := hokB_len h2
 have hqm : q = m := by have a1 := HM.out; have a2 := HQ.out; omega
 subst hqm
 have e : bothF true W T xs A B = pickL true A B q := by unfold bothF; rw [h1, h2, HM.out, pickL_all]; rfl
 rw [e]
 have HE : Hid ((pickL true A B q).length = q) := pickL_len _ _ _ _
 have H1 := Lib.hid h1; have H2 := Lib.hid h2
 clear h1 h2 e l1 l2 hr hm0
 go_enter Tryz.func80, Tryz.ntmps80
 go_wp2
 go_loopw [7, 8] (fun o i wr => ∃ k : Nat, k ≤ q ∧ i = .int .i64 k ∧ OwnsI wr (w.heap.size + 1) o (pickL true A B k) ∧ wr.heap[w.heap.size]? = some (.cells #[.int .i64 W, .int .i64 T, .slice a n cap] 25 (0, 0)) ∧ Below w.heap.size w wr) (fun _ i _ => q - (intOf i).toNat)
 case atStart => exact ⟨0, Nat.zero_le _, rfl, nil_boxed w _, heap_later (heap_new w _) (below1 _ _), below_seq (below1 w (.cells #[.int .i64 W, .int .i64 T, .slice a n cap] 25)) (below1 _ _)⟩
 case round =>
  rename World => wo
  obtain ⟨k, hk, rfl, ho, pr, bo⟩ := hrel
  obtain ⟨aR, capR, hv⟩ := OwnsI.form2 ho
  rw [pickL_len] at hv
  subst hv
  have HO := Lib.hid ho; clear ho
  by_cases hlt : k < q
  · have e1 : (k : Int) < q := by omega
    obtain ⟨c0, c1, c2⟩ := cells3 pr
    go_wp2_with fail
    refine (sHeightsOk_any _ _ _ _ _ xs _ _ _ A _ HN.out hn' HM.out hm' (HA.out.below bo) (HL.out.below bo)).mono ?_; rintro e w1 ⟨rfl, hb1⟩
    rw [H1.out]
    have b1 := below_seq bo hb1
    have p1 := heap_later pr hb1
    obtain ⟨d0, d1, d2⟩ := cells3 p1
    go_wp2_with fail
    refine (sHeightsOk_any _ _ _ _ _ xs _ _ _ B _ HN.out hn' HQ.out hq' (HA.out.below b1) (HB.out.below b1)).mono ?_; rintro e wr2 ⟨rfl, hb2⟩
    rw [H2.out]
    have BEL := Lib.hid (below_seq b1 hb2)
    have HO2 := Lib.hid ((HO.out.below hb1).below hb2)
    have pr2 := heap_later p1 hb2
    clear c0 c1 c2 d0 d1 d2 HO pr p1 b1 bo hb1 hb2
    have HO := HO2; clear HO2
    have pr := pr2; clear pr2
    obtain ⟨la, lo, rfl, hx0⟩ := HL.out k (by rw [← HM.out]; exact hlt)
    obtain ⟨lb, lp, rfl, hy0⟩ := HB.out k (by rw [← HQ.out]; exact hlt)
    have hla := World.block_lt_of_cell? w _ hx0
    have hlb := World.block_lt_of_cell? w _ hy0
    simp only at hla hlb
    have hsn := pickL_snoc true A B k
    obtain ⟨x, hxx⟩ : ∃ x, x = A.getD k 0 := ⟨_, rfl⟩
    obtain ⟨y, hyy⟩ : ∃ y, y = B.getD k 0 := ⟨_, rfl⟩
    rw [← hxx] at hx0 hsn; rw [← hyy] at hy0 hsn
    clear hxx hyy
    have hx := (BEL.out.cell (p := ⟨la, lo + k, none⟩) hla).trans hx0
    have hy := (BEL.out.cell (p := ⟨lb, lp + k, none⟩) hlb).trans hy0
    have lw := heap_lt pr
    by_cases hxy : x < y
    · have hpp : pickI true x y = y := if_pos hxy
      rw [hpp] at hsn
      have HXY := Lib.hid hsn; clear hsn hpp
      go_wp2_with fail
      have HSD := Lib.hid (show (fun w' : World => w'.cell? ⟨la, lo + k, none⟩ = some (.int .i64 x) ∧ w'.cell? ⟨lb, lp + k, none⟩ = some (.int .i64 y)) wr2.drew from ⟨hx, hy⟩)
      refine wp_region_till (fun w' : World => w'.cell? ⟨la, lo + k, none⟩ = some (.int .i64 x) ∧ w'.cell? ⟨lb, lp + k, none⟩ = some (.int .i64 y)) 12 (by kernel_rfl) ?_
      refine Till.take (i := 0) (v := ?_) rfl (by kernel_rfl) (by kernel_rfl) (by kernel_rfl) (by kernel_rfl) (fun _ _ _ h => h) (Or.inl ⟨by kernel_rfl, ?_⟩) HSD.out ?_
      rotate_left
      · intro ws hsw
        obtain ⟨s1, s2⟩ := hsw
        go_simp
        try with_reducible rfl
      try simp only [Act.put, List.setIfInBounds_toArray, List.set_cons_zero, List.set_cons_succ]
      refine Till.take (i := 1) (v := ?_) rfl (by kernel_rfl) (by kernel_rfl) (by kernel_rfl) (by kernel_rfl) (fun _ _ _ h => h) (Or.inl ⟨by kernel_rfl, ?_⟩) HSD.out ?_
      rotate_left
      · intro ws hsw
        obtain ⟨s1, s2⟩ := hsw
        go_simp
        try with_reducible rfl
      try simp only [Act.put, List.setIfInBounds_toArray, List.set_cons_zero, List.set_cons_succ]
      refine Till.take (i := 2) (v := ?_) rfl (by kernel_rfl) (by kernel_rfl) (by kernel_rfl) (by kernel_rfl) (fun _ _ _ h => h) (Or.inl ⟨by kernel_rfl, ?_⟩) HSD.out ?_
      rotate_left
      · intro ws hsw
        obtain ⟨s1, s2⟩ := hsw
        go_simp
        try with_reducible rfl
      try simp only [Act.put, List.setIfInBounds_toArray, List.set_cons_zero, List.set_cons_succ]
      refine Till.take (i := 3) (v := ?_) rfl (by kernel_rfl) (by kernel_rfl) (by kernel_rfl) (by kernel_rfl) (fun _ _ _ h => h) (Or.inl ⟨by kernel_rfl, ?_⟩) HSD.out ?_
      rotate_left
      · intro ws hsw
        obtain ⟨s1, s2⟩ := hsw
        go_simp
        try with_reducible rfl
      try simp only [Act.put, List.setIfInBounds_toArray, List.set_cons_zero, List.set_cons_succ]
      refine Till.take (i := 4) (v := ?_) rfl (by kernel_rfl) (by kernel_rfl) (by kernel_rfl) (by kernel_rfl) (fun _ _ _ h => h) (Or.inl ⟨by kernel_rfl, ?_⟩) HSD.out ?_
      rotate_left
      · intro ws hsw
        obtain ⟨s1, s2⟩ := hsw
        go_simp
        try with_reducible rfl
      try simp only [Act.put, List.setIfInBounds_toArray, List.set_cons_zero, List.set_cons_succ]
      refine Till.take (i := 5) (v := ?_) rfl (by kernel_rfl) (by kernel_rfl) (by kernel_rfl) (by kernel_rfl) (fun _ _ _ h => h) (Or.inl ⟨by kernel_rfl, ?_⟩) HSD.out ?_
      rotate_left
      · intro ws hsw
        obtain ⟨s1, s2⟩ := hsw
        go_simp
        try with_reducible rfl
      try simp only [Act.put, List.setIfInBounds_toArray, List.set_cons_zero, List.set_cons_succ]
      refine Till.take (i := 6) (v := ?_) rfl (by kernel_rfl) (by kernel_rfl) (by kernel_rfl) (by kernel_rfl) (fun _ _ _ h => h) (Or.inl ⟨by kernel_rfl, ?_⟩) HSD.out ?_
      rotate_left
      · intro ws hsw
        obtain ⟨s1, s2⟩ := hsw
        go_simp
        try with_reducible rfl
      try simp only [Act.put, List.setIfInBounds_toArray, List.set_cons_zero, List.set_cons_succ]
      refine Till.take (i := 7) (v := ?_) rfl (by kernel_rfl) (by kernel_rfl) (by kernel_rfl) (by kernel_rfl) (fun _ _ _ h => h) (Or.inl ⟨by kernel_rfl, ?_⟩) HSD.out ?_
      rotate_left
      · intro ws hsw
        obtain ⟨s1, s2⟩ := hsw
        go_simp
        try with_reducible rfl
      try simp only [Act.put, List.setIfInBounds_toArray, List.set_cons_zero, List.set_cons_succ]
      refine Till.take (i := 8) (v := ?_) rfl (by kernel_rfl) (by kernel_rfl) (by kernel_rfl) (by kernel_rfl) (fun _ _ _ h => h) (Or.inl ⟨by kernel_rfl, ?_⟩) HSD.out ?_
      rotate_left
      · intro ws hsw
        obtain ⟨s1, s2⟩ := hsw
        go_simp
        try with_reducible rfl
      try simp only [Act.put, List.setIfInBounds_toArray, List.set_cons_zero, List.set_cons_succ]
      refine Till.take (i := 9) (v := ?_) rfl (by kernel_rfl) (by kernel_rfl) (by kernel_rfl) (by kernel_rfl) (fun _ _ _ h => h) (Or.inl ⟨by kernel_rfl, ?_⟩) HSD.out ?_
      rotate_left
      · intro ws hsw
        obtain ⟨s1, s2⟩ := hsw
        go_simp
        try with_reducible rfl
      try simp only [Act.put, List.setIfInBounds_toArray, List.set_cons_zero, List.set_cons_succ]
      have WN := Lib.hid (show Below wr2.heap.size wr2 (World.drew (wr2.alloc (.cells #[.int .i64 y] 3))) from below_seq (below1 _ _) (drew_below _))
      refine Till.one (i := 10) (by kernel_rfl) rfl (by rfl) (fun K hK => ?_)
      go_simp
      -- pos
      refine hK.out _ _ (fun _ => ⟨cell_later WN.out hx, cell_later WN.out hy⟩) ?_
      clear hK K
      refine Till.one (i := 11) (by kernel_rfl) rfl (by rfl) (fun K hK => ?_)
      refine step_append_lies _ rfl _ _ 27 rfl (w.heap.size + 1) 3 i0 (.int .i64 0) 1 8 Tryz.underlying27 hii hz0 hz1 hz2 rfl (by decide) (.slice aR k capR) k ((pickL true A B k).map (Value.int .i64)) rfl (show World.ownsRow (World.drew (wr2.alloc _)) _ _ _ _ _ _ from (HO.out.alloc _).row (pickL_len _ _ _ _)) ⟨wr2.heap.size, 0, none⟩ 1 1 [.int .i64 y] rfl rfl (new_int wr2 _) (one_int _) (by omega) (by unfold maxLen; omega) (by omega) (by simp; omega) (wr2.heap.size + 1) (by simp) ?_
      intro g' c' w5 hown' hgrow _ _
      have p5 := heap_grown (heap_later pr WN.out) hgrow (HO.out.ownBlock (by omega))
      have B5 := Lib.hid (below_grown (below_seq BEL.out WN.out) hgrow (Nat.le_refl _) (HO.out.ownAt (by omega)))
      have O5 := Lib.hid (OwnsI.ofRow (xs := pickL true A B (k + 1)) hown' (by rw [HXY.out]; simp) (pickL_len _ _ _ _))
      have hb5 : Below w.heap.size w w5 := B5.out
      have hx5 : w5.cell? ⟨la, lo + k, none⟩ = some (.int .i64 x) := (hb5.cell (p := ⟨la, lo + k, none⟩) hla).trans hx0
      have hy5 : w5.cell? ⟨lb, lp + k, none⟩ = some (.int .i64 y) := (hb5.cell (p := ⟨lb, lp + k, none⟩) hlb).trans hy0
      clear hb5 hown' hgrow
      refine hK.out _ _ (fun _ => ⟨hx5, hy5⟩) ?_
      clear hK K
      refine Till.one (i := 12) (by kernel_rfl) rfl (by rfl) (fun K hK => ?_)
      go_simp
      refine hK.out _ _ (fun h => absurd rfl h) ?_
      clear hK K
      refine Till.done (by kernel_rfl) ?_ _
      go_wp2
      go_roundw
      case rel => exact ⟨k + 1, by omega, by go_num, O5.out, p5, B5.out⟩
      case measure => simp [intOf]; omega
    · have hpp : pickI true x y = x := if_neg hxy
      rw [hpp] at hsn
      have HXY := Lib.hid hsn; clear hsn hpp
      go_wp2_with fail
      have HSD := Lib.hid (show (fun w' : World => w'.cell? ⟨la, lo + k, none⟩ = some (.int .i64 x) ∧ w'.cell? ⟨lb, lp + k, none⟩ = some (.int .i64 y)) wr2.drew from ⟨hx, hy⟩)
      refine wp_region_till (fun w' : World => w'.cell? ⟨la, lo + k, none⟩ = some (.int .i64 x) ∧ w'.cell? ⟨lb, lp + k, none⟩ = some (.int .i64 y)) 12 (by kernel_rfl) ?_
      refine Till.take (i := 0) (v := ?_) rfl (by kernel_rfl) (by kernel_rfl) (by kernel_rfl) (by kernel_rfl) (fun _ _ _ h => h) (Or.inl ⟨by kernel_rfl, ?_⟩) HSD.out ?_
      rotate_left
      · intro ws hsw
        obtain ⟨s1, s2⟩ := hsw
        go_simp
        try with_reducible rfl
      try simp only [Act.put, List.setIfInBounds_toArray, List.set_cons_zero, List.set_cons_succ]
      refine Till.take (i := 1) (v := ?_) rfl (by kernel_rfl) (by kernel_rfl) (by kernel_rfl) (by kernel_rfl) (fun _ _ _ h => h) (Or.inl ⟨by kernel_rfl, ?_⟩) HSD.out ?_
      rotate_left
      · intro ws hsw
        obtain ⟨s1, s2⟩ := hsw
        go_simp
        try with_reducible rfl
      try simp only [Act.put, List.setIfInBounds_toArray, List.set_cons_zero, List.set_cons_succ]
      refine Till.take (i := 2) (v := ?_) rfl (by kernel_rfl) (by kernel_rfl) (by kernel_rfl) (by kernel_rfl) (fun _ _ _ h => h) (Or.inl ⟨by kernel_rfl, ?_⟩) HSD.out ?_
      rotate_left
      · intro ws hsw
        obtain ⟨s1, s2⟩ := hsw
        go_simp
        try with_reducible rfl
      try simp only [Act.put, List.setIfInBounds_toArray, List.set_cons_zero, List.set_cons_succ]
      refine Till.take (i := 3) (v := ?_) rfl (by kernel_rfl) (by kernel_rfl) (by kernel_rfl) (by kernel_rfl) (fun _ _ _ h => h) (Or.inl ⟨by kernel_rfl, ?_⟩) HSD.out ?_
      rotate_left
      · intro ws hsw
        obtain ⟨s1, s2⟩ := hsw
        go_simp
        try with_reducible rfl
      try simp only [Act.put, List.setIfInBounds_toArray, List.set_cons_zero, List.set_cons_succ]
      refine Till.take (i := 4) (v := ?_) rfl (by kernel_rfl) (by kernel_rfl) (by kernel_rfl) (by kernel_rfl) (fun _ _ _ h => h) (Or.inl ⟨by kernel_rfl, ?_⟩) HSD.out ?_
      rotate_left
      · intro ws hsw
        obtain ⟨s1, s2⟩ := hsw
        go_simp
        try with_reducible rfl
      try simp only [Act.put, List.setIfInBounds_toArray, List.set_cons_zero, List.set_cons_succ]
      refine Till.take (i := 5) (v := ?_) rfl (by kernel_rfl) (by kernel_rfl) (by kernel_rfl) (by kernel_rfl) (fun _ _ _ h => h) (Or.inl ⟨by kernel_rfl, ?_⟩) HSD.out ?_
      rotate_left
      · intro ws hsw
        obtain ⟨s1, s2⟩ := hsw
        go_simp
        try with_reducible rfl
      try simp only [Act.put, List.setIfInBounds_toArray, List.set_cons_zero, List.set_cons_succ]
      refine Till.take (i := 6) (v := ?_) rfl (by kernel_rfl) (by kernel_rfl) (by kernel_rfl) (by kernel_rfl) (fun _ _ _ h => h) (Or.inl ⟨by kernel_rfl, ?_⟩) HSD.out ?_
      rotate_left
      · intro ws hsw
        obtain ⟨s1, s2⟩ := hsw
        go_simp
        try with_reducible rfl
      try simp only [Act.put, List.setIfInBounds_toArray, List.set_cons_zero, List.set_cons_succ]
      refine Till.take (i := 7) (v := ?_) rfl (by kernel_rfl) (by kernel_rfl) (by kernel_rfl) (by kernel_rfl) (fun _ _ _ h => h) (Or.inl ⟨by kernel_rfl, ?_⟩) HSD.out ?_
      rotate_left
      · intro ws hsw
        obtain ⟨s1, s2⟩ := hsw
        go_simp
        try with_reducible rfl
      try simp only [Act.put, List.setIfInBounds_toArray, List.set_cons_zero, List.set_cons_succ]
      refine Till.take (i := 8) (v := ?_) rfl (by kernel_rfl) (by kernel_rfl) (by kernel_rfl) (by kernel_rfl) (fun _ _ _ h => h) (Or.inl ⟨by kernel_rfl, ?_⟩) HSD.out ?_
      rotate_left
      · intro ws hsw
        obtain ⟨s1, s2⟩ := hsw
        go_simp
        try with_reducible rfl
      try simp only [Act.put, List.setIfInBounds_toArray, List.set_cons_zero, List.set_cons_succ]
      refine Till.take (i := 9) (v := ?_) rfl (by kernel_rfl) (by kernel_rfl) (by kernel_rfl) (by kernel_rfl) (fun _ _ _ h => h) (Or.inl ⟨by kernel_rfl, ?_⟩) HSD.out ?_
      rotate_left
      · intro ws hsw
        obtain ⟨s1, s2⟩ := hsw
        go_simp
        try with_reducible rfl
      try simp only [Act.put, List.setIfInBounds_toArray, List.set_cons_zero, List.set_cons_succ]
      have WN := Lib.hid (show Below wr2.heap.size wr2 (World.drew (wr2.alloc (.cells #[.int .i64 x] 3))) from below_seq (below1 _ _) (drew_below _))
      refine Till.one (i := 10) (by kernel_rfl) rfl (by rfl) (fun K hK => ?_)
      go_simp
      rw [if_neg (show ¬ x < y by omega)]
      refine hK.out _ _ (fun _ => ⟨cell_later WN.out hx, cell_later WN.out hy⟩) ?_
      clear hK K
      refine Till.one (i := 11) (by kernel_rfl) rfl (by rfl) (fun K hK => ?_)
      refine step_append_lies _ rfl _ _ 27 rfl (w.heap.size + 1) 3 i0 (.int .i64 0) 1 8 Tryz.underlying27 hii hz0 hz1 hz2 rfl (by decide) (.slice aR k capR) k ((pickL true A B k).map (Value.int .i64)) rfl (show World.ownsRow (World.drew (wr2.alloc _)) _ _ _ _ _ _ from (HO.out.alloc _).row (pickL_len _ _ _ _)) ⟨wr2.heap.size, 0, none⟩ 1 1 [.int .i64 x] rfl rfl (new_int wr2 _) (one_int _) (by omega) (by unfold maxLen; omega) (by omega) (by simp; omega) (wr2.heap.size + 1) (by simp) ?_
      intro g' c' w5 hown' hgrow _ _
      have p5 := heap_grown (heap_later pr WN.out) hgrow (HO.out.ownBlock (by omega))
      have B5 := Lib.hid (below_grown (below_seq BEL.out WN.out) hgrow (Nat.le_refl _) (HO.out.ownAt (by omega)))
      have O5 := Lib.hid (OwnsI.ofRow (xs := pickL true A B (k + 1)) hown' (by rw [HXY.out]; simp) (pickL_len _ _ _ _))
      have hb5 : Below w.heap.size w w5 := B5.out
      have hx5 : w5.cell? ⟨la, lo + k, none⟩ = some (.int .i64 x) := (hb5.cell (p := ⟨la, lo + k, none⟩) hla).trans hx0
      have hy5 : w5.cell? ⟨lb, lp + k, none⟩ = some (.int .i64 y) := (hb5.cell (p := ⟨lb, lp + k, none⟩) hlb).trans hy0
      clear hb5 hown' hgrow
      refine hK.out _ _ (fun _ => ⟨hx5, hy5⟩) ?_
      clear hK K
      refine Till.one (i := 12) (by kernel_rfl) rfl (by rfl) (fun K hK => ?_)
      go_simp
      refine hK.out _ _ (fun h => absurd rfl h) ?_
      clear hK K
      refine Till.done (by kernel_rfl) ?_ _
      go_wp2
      go_roundw
      case rel => exact ⟨k + 1, by omega, by go_num, O5.out, p5, B5.out⟩
      case measure => simp [intOf]; omega
  · obtain rfl : k = q := by omega
    obtain ⟨c0, c1, c2⟩ := cells3 pr
    go_wp2
    go_ret
    exact ⟨aR, capR, by rw [HE.out]; rfl, by rw [HE.out]; exact HO.out.lower (by omega), bo⟩
end Go.Proofs.YthpifnjoiklgnaaGreat

namespace Go.Proofs.YthpifnjoiklgnaaGreat
open Go.RowKit
set_option linter.unusedVariables false
set_option maxRecDepth 100000
set_option linter.unusedSimpArgs false

end Go.Proofs.YthpifnjoiklgnaaGreat

namespace Go.Proofs.YthpifnjoiklgnaaGreat
open Go.RowKit
set_option linter.unusedVariables false
set_option maxRecDepth 100000
set_option linter.unusedSimpArgs false

end Go.Proofs.YthpifnjoiklgnaaGreat

namespace Go.Proofs.YthpifnjoiklgnaaGreat
open Go.RowKit
set_option linter.unusedVariables false
set_option maxRecDepth 100000
set_option linter.unusedSimpArgs false

theorem allL_has {W T : Int} {xs : List Bool} : ∀ (f : Nat) (L M : List Int), lok W T xs L = true → M ∈ allL W T xs f L → Has L M
 | 0, L, M, _, h => by simp [allL] at h
 | f + 1, L, M, hl, h => by
   obtain ⟨hr, hlen, _⟩ := lok_rv hl
   rcases first_cases xs L 0 xs.length with ⟨h0, hno⟩ | ⟨c, _, hc, h0, hfc, hno⟩
   · rw [allL_done h0 (by omega)] at h
     simp only [List.mem_cons, List.not_mem_nil, or_false] at h
     subst h
     exact fun k _ => rfl
   · rw [allL_succ h0 (by omega), List.mem_append] at h
     have part : ∀ way : Int, M ∈ (if canLay W T xs L c way = true then allL W T xs f (laidL W T xs L c way) else []) → Has L M := by
      intro way hm
      split at hm
      · rename_i hcan
        obtain ⟨kn, o, e, hk, ho, hne, hs, hf, hfo, w1, w4, hb, el⟩ := canLay_at hr hlen hcan
        have : kn = c := by omega
        subst this
        have h1 := allL_has f _ M (lok_laid hl hcan) hm
        rw [el] at h1
        intro k hk0
        have hkc : k ≠ kn := by intro e2; rw [e2] at hk0; exact hk0 (free_zero hf).2
        have hko : k ≠ o := by intro e2; rw [e2] at hk0; exact hk0 (free_zero hfo).2
        have h2 := h1 k
        rw [getD_set2 (by rw [hlen]; exact hk) (by rw [hlen]; exact ho), if_neg hko, if_neg hkc] at h2
        exact h2 hk0
      · simp at hm
     rcases h with h | h
     · exact part 1 h
     · exact part 2 h
theorem has_at {W T : Int} {xs : List Bool} {L : List Int} {c : Nat} {way : Int} (hl : lok W T xs L = true) (hcan : canLay W T xs L c way = true) : (laidL W T xs L c way).getD c 0 = way ∧ way ≠ 0 := by
 obtain ⟨hr, hlen, _⟩ := lok_rv hl
 obtain ⟨kn, o, e, hk, ho, hne, hs, hf, hfo, w1, w4, hb, el⟩ := canLay_at hr hlen hcan
 have : kn = c := by omega
 subst this
 rw [el, getD_set2 (by rw [hlen]; exact hk) (by rw [hlen]; exact ho), if_neg (Ne.symm hne), if_pos rfl]
 exact ⟨rfl, by omega⟩
def Before (A B : List Int) : Prop := ∃ c, c < A.length ∧ c < B.length ∧ (∀ k, k < c → A.getD k 0 = B.getD k 0) ∧ A.getD c 0 < B.getD c 0
theorem allL_sorted {W T : Int} {xs : List Bool} : ∀ (f : Nat) (L : List Int), lok W T xs L = true → (allL W T xs f L).Pairwise Before
 | 0, L, _ => by simp [allL]
 | f + 1, L, hl => by
   obtain ⟨hr, hlen, _⟩ := lok_rv hl
   rcases first_cases xs L 0 xs.length with ⟨h0, hno⟩ | ⟨c, _, hc, h0, hfc, hno⟩
   · rw [allL_done h0 (by omega)]
     simp
   · rw [allL_succ h0 (by omega), List.pairwise_append]
     refine ⟨?_, ?_, ?_⟩
     · split
       · rename_i hcan
         exact allL_sorted f _ (lok_laid hl hcan)
       · simp
     · split
       · rename_i hcan
         exact allL_sorted f _ (lok_laid hl hcan)
       · simp
     · intro A hA B hB
       split at hA
       · rename_i c1
         split at hB
         · rename_i c2
           have a1 := allL_has f _ A (lok_laid hl c1) hA
           have b1 := allL_has f _ B (lok_laid hl c2) hB
           obtain ⟨la, ta⟩ := allL_each f _ (lok_laid hl c1) A hA
           obtain ⟨lb, tb⟩ := allL_each f _ (lok_laid hl c2) B hB
           have a2 := a1 c (by rw [(has_at hl c1).1]; exact (has_at hl c1).2)
           have b2 := b1 c (by rw [(has_at hl c2).1]; exact (has_at hl c2).2)
           rw [(has_at hl c1).1] at a2
           rw [(has_at hl c2).1] at b2
           have hA' : Has L A := allL_has (f + 1) L A hl (by rw [allL_succ h0 (by omega), List.mem_append]; exact Or.inl (by rw [if_pos c1]; exact hA))
           have hB' : Has L B := allL_has (f + 1) L B hl (by rw [allL_succ h0 (by omega), List.mem_append]; exact Or.inr (by rw [if_pos c2]; exact hB))
           refine ⟨c, by omega, by omega, fun k hk => ?_, by rw [a2, b2]; omega⟩
           by_cases hz : L.getD k 0 = 0
           · have hx : xs.getD k false = false := by
              cases hx : xs.getD k false
              · rfl
              · have h1 := hno k (Nat.zero_le _) hk
                unfold freeB at h1
                rw [hx, hz] at h1; cases h1
             have zero : ∀ M : List Int, tok W T xs M = true → M.getD k 0 = 0 := by
              intro M hM
              by_cases hm : M.getD k 0 = 0
              · exact hm
              · obtain ⟨_, _, _, _, hx', _⟩ := lok_at (tok_lokP hM) (show k < xs.length by omega) hm
                rw [hx] at hx'; cases hx'
             rw [zero A ta, zero B tb]
           · rw [hA' k hz, hB' k hz]
         · simp at hB
       · simp at hA
theorem Before.ne {A B : List Int} (h : Before A B) : A ≠ B := by
 obtain ⟨c, _, _, _, h⟩ := h
 intro e; rw [e] at h; omega
theorem allF_sorted (W T : Int) (xs : List Bool) : (allF W T xs).Pairwise Before := by
 unfold allF
 split
 · rename_i h
   exact allL_sorted _ _ (by rw [lok_bareL]; exact h)
 · simp
theorem allF_nodup (W T : Int) (xs : List Bool) : (allF W T xs).Nodup := (allF_sorted W T xs).imp fun h => h.ne

end Go.Proofs.YthpifnjoiklgnaaGreat

namespace Go.Proofs.YthpifnjoiklgnaaGreat
open Go.RowKit
set_option linter.unusedVariables false
set_option maxRecDepth 100000
set_option linter.unusedSimpArgs false

set_option maxHeartbeats 4000000 in
theorem sTilingHigh_ret (W T : Int) (a : Option Addr) (n cap : Nat) (xs : List Bool) (la0 : Option Addr) (m0 lcap0 : Nat) (L0 : List Int) (la1 : Option Addr) (m1 lcap1 : Nat) (L1 : List Int) (A B : List Int) (w : World) (hn : n = xs.length) (hn' : n ≤ 1048576) (hm0 : m0 = L0.length) (hm0' : m0 ≤ 1048576) (hm1 : m1 = L1.length) (hm1' : m1 ≤ 1048576) (ha : BoolsAt w a xs) (hl0 : IntsAt w la0 L0) (hl1 : IntsAt w la1 L1) (hA : HtsR W T xs L0 A) (hB : HtsR W T xs L1 B) :
 Calls Tryz.prog 43 #[.agg #[.int .i64 W, .int .i64 T, .slice a n cap], .slice la0 m0 lcap0, .slice la1 m1 lcap1] w (RetLT w (tlowF true W T xs A B).1.length (tlowF true W T xs A B).1 (tlowF true W T xs A B).2) := by
 have HN := Lib.hid hn; clear hn
 have HM0 := Lib.hid hm0; clear hm0
 have HM1 := Lib.hid hm1; clear hm1
 have HA := Lib.hid ha; clear ha
 have HL0 := Lib.hid hl0; clear hl0
 have HL1 := Lib.hid hl1; clear hl1
 have hla := hA.len; have hlb := hB.len
 have HHA := Lib.hid hA; have HHB := Lib.hid hB
 clear hA hB
 have hlf := bothF_len true W T xs A B
 obtain ⟨p, hp⟩ : ∃ p, p = A.length := ⟨_, rfl⟩
 obtain ⟨q, hq⟩ : ∃ q, q = B.length := ⟨_, rfl⟩
 obtain ⟨F, hF⟩ : ∃ F, F = bothF true W T xs A B := ⟨_, rfl⟩
 obtain ⟨r, hr⟩ : ∃ r, r = F.length := ⟨_, rfl⟩
 have HFF : Hid (tlowF true W T xs A B = tbyF W T xs F) := by show _ = _; rw [hF]; rfl
 rw [HFF.out]
 rw [← hF, ← hp, ← hr] at hlf
 rw [← hp] at hla; rw [← hq] at hlb
 have HP := Lib.hid hp; have HQ := Lib.hid hq; have HF := Lib.hid hF; have HR := Lib.hid hr
 clear hp hq hF hr
 have cA : ∀ w : World, RetL w A.length A = RetL w p A := fun w => by rw [HP.out]
 have cB : ∀ w : World, RetL w B.length B = RetL w q B := fun w => by rw [HQ.out]
 have cF : ∀ w : World, RetL w (bothF true W T xs A B).length (bothF true W T xs A B) = RetL w r F := fun w => by rw [← HF.out, HR.out]
 have HcA := Lib.hid cA; have HcB := Lib.hid cB; have HcF := Lib.hid cF
 clear cA cB cF
 have K1 : ∀ w', BoolsAt w' a xs → IntsAt w' la0 L0 → Calls Tryz.prog 62 #[.agg #[.int .i64 W, .int .i64 T, .slice a n cap], .slice la0 m0 lcap0] w' (RetL w' p A) := fun w' h1 h2 => by have := sHeightsOf_ret W T a n cap xs la0 m0 lcap0 L0 A w' HN.out hn' HM0.out hm0' h1 h2 HHA.out; rwa [HcA.out] at this
 have K2 : ∀ w', BoolsAt w' a xs → IntsAt w' la1 L1 → Calls Tryz.prog 62 #[.agg #[.int .i64 W, .int .i64 T, .slice a n cap], .slice la1 m1 lcap1] w' (RetL w' q B) := fun w' h1 h2 => by have := sHeightsOf_ret W T a n cap xs la1 m1 lcap1 L1 B w' HN.out hn' HM1.out hm1' h1 h2 HHB.out; rwa [HcB.out] at this
 have K3 : ∀ w' a1 c1 a2 c2, BoolsAt w' a xs → IntsAt w' a1 A → IntsAt w' a2 B → Calls Tryz.prog 80 #[.agg #[.int .i64 W, .int .i64 T, .slice a n cap], .slice a1 p c1, .slice a2 q c2] w' (RetL w' r F) := fun w' a1 c1 a2 c2 h1 h2 h3 => by have := sHeightsHigh_ret W T a n cap xs a1 p c1 A a2 q c2 B w' HN.out hn' HP.out (by omega) HQ.out (by omega) h1 h2 h3; rwa [HcF.out] at this
 have K4 : ∀ w' a3 c3, BoolsAt w' a xs → IntsAt w' a3 F → Calls Tryz.prog 60 #[.agg #[.int .i64 W, .int .i64 T, .slice a n cap], .slice a3 r c3] w' (RetLT w' (tbyF W T xs F).1.length (tbyF W T xs F).1 (tbyF W T xs F).2) := fun w' a3 c3 h1 h2 => sTilingBy_ret W T a n cap xs a3 r c3 F w' HN.out hn' HR.out (by omega) h1 h2
 have HK1 := Lib.hid K1; have HK2 := Lib.hid K2; have HK3 := Lib.hid K3; have HK4 := Lib.hid K4
 clear K1 K2 K3 K4
 generalize (tbyF W T xs F).2 = okv at HK4 ⊢
 generalize (tbyF W T xs F).1 = ys at HK4 ⊢
 obtain ⟨z, hz⟩ : ∃ z, z = ys.length := ⟨_, rfl⟩
 rw [← hz] at HK4 ⊢
 have HZ := Lib.hid hz; clear hz
 have PA : (w.alloc (.cells #[.int .i64 W, .int .i64 T, .slice a n cap] 25)).drew.heap[w.heap.size]? = some _ := heap_new w (.cells #[.int .i64 W, .int .i64 T, .slice a n cap] 25)
 have bA : Below w.heap.size w (w.alloc (.cells #[.int .i64 W, .int .i64 T, .slice a n cap] 25)).drew := below_seq (below1 _ _) (drew_below _)
 obtain ⟨c0, c1, c2⟩ := cells3 (heap_new w (.cells #[.int .i64 W, .int .i64 T, .slice a n cap] 25))
 go_enter Tryz.func43, Tryz.ntmps43
 go_wp2_with fail
 go_region_held3 (fun w' => w'.cell? ⟨w.heap.size, 0, none⟩ = some (.int .i64 W) ∧ w'.cell? ⟨w.heap.size, 1, none⟩ = some (.int .i64 T) ∧ w'.cell? ⟨w.heap.size, 2, none⟩ = some (.slice a n cap))
  (go_keep)
  (first
    | (go_at_call 60; refine (HK4.out _ _ _ (HA.out.below b3) (OwnsI.at o3)).mono ?_; rintro e w4 ⟨a4, k4, rfl, o4, hb4⟩; have b4 := below_seq b3 hb4; have p4 := heap_later p3 hb4; obtain ⟨g0, g1, g2⟩ := cells3 p4)
    | (go_at_call 80; refine (HK3.out _ _ _ _ _ (HA.out.below b2) (OwnsI.at (o1.below hb2)) (OwnsI.at o2)).mono ?_; rintro e w3 ⟨a3, k3, rfl, o3, hb3⟩; have b3 := below_seq b2 hb3; have p3 := heap_later p2 hb3; obtain ⟨f0, f1, f2⟩ := cells3 p3)
    | (go_at_call 62; refine (HK2.out _ (HA.out.below b1) (HL1.out.below b1)).mono ?_; rintro e w2 ⟨a2, k2, rfl, o2, hb2⟩; have b2 := below_seq b1 hb2; have p2 := heap_later p1 hb2; obtain ⟨e0, e1, e2⟩ := cells3 p2)
    | (go_at_call 62; refine (HK1.out _ (HA.out.below bA) (HL0.out.below bA)).mono ?_; rintro e w1 ⟨a1, k1, rfl, o1, hb1⟩; have b1 := below_seq bA hb1; have p1 := heap_later PA hb1; obtain ⟨d0, d1, d2⟩ := cells3 p1))
 have O4 := Lib.hid (o4.lower b3.size)
 have B4 := Lib.hid b4
 clear o1 o2 o3 o4 hb1 hb2 hb3 hb4 b1 b2 b3 b4
 go_wp2
 go_ret2
 exact ⟨a4, k4, rfl, O4.out, B4.out⟩

end Go.Proofs.YthpifnjoiklgnaaGreat

namespace Go.Proofs.YthpifnjoiklgnaaGreat
open Go.RowKit
set_option linter.unusedVariables false
set_option maxRecDepth 100000
set_option linter.unusedSimpArgs false

theorem allF_lenZ {W T : Int} {xs : List Bool} {L : List Int} (h : tok W T xs L = true) : (allF W T xs).length = dpT W T xs := allF_dp (lok_rv (tok_lok1 h)).1
theorem edge_one {W T : Int} {xs : List Bool} {X H X0 H0 : List Int} (h : EdgeR true W T xs X H) (h0 : EdgeR false W T xs X0 H0) : X0 = X ↔ dpT W T xs = 1 := by
 obtain ⟨hs, ht, hH, hm⟩ := h
 obtain ⟨_, ht0, hH0, hm0⟩ := h0
 rw [← allF_lenZ ht]
 constructor
 · intro e
   subst e
   have eH := htsR_unique hH0 hH
   subst eH
   have all : ∀ M ∈ allF W T xs, M = X0 := by
    intro M hM
    obtain ⟨i, hi, e⟩ := List.getElem_of_mem hM
    have htM : tok W T xs M = true := by
     have := (allF_row (W := W) (T := T) (xs := xs) hi).2
     rw [show (allF W T xs).getD i [] = M by rw [← e]; simp [List.getD, hi]] at this
     exact this
    obtain ⟨B, hB⟩ := htsR_exist W T xs M
    obtain ⟨hl, _⟩ := hts_len hs ht htM hH hB
    have eB : H0 = B := by
     refine ext_getD hl fun k hk => ?_
     have a := hm M B htM hB k hk
     have b := hm0 M B htM hB k hk
     simp only [Bool.false_eq_true, if_false, if_true] at a b
     omega
    subst eB
    exact hts_same hs htM ht hB hH
   have hmem := mem_allF ht
   have hnd := allF_nodup W T xs
   cases hc : allF W T xs with
   | nil => rw [hc] at hmem; cases hmem
   | cons A l =>
     rw [hc] at all hnd
     cases l with
     | nil => rfl
     | cons B l =>
       exfalso
       have e1 := all A (by simp)
       have e2 := all B (by simp)
       rw [List.nodup_cons] at hnd
       exact hnd.1 (by rw [e1, ← e2]; simp)
 · intro e
   have a := mem_allF ht
   have b := mem_allF ht0
   obtain ⟨A, hA⟩ := List.length_eq_one_iff.1 e
   rw [hA] at a b
   simp only [List.mem_singleton] at a b
   rw [a, b]
end Go.Proofs.YthpifnjoiklgnaaGreat
