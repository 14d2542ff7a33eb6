/- The law FnLowest: its walk. -/
import Derived.Test.YthpifnjoiklgnaaGreatKDrawTwo
import Derived.Test.YthpifnjoiklgnaaGreatKLowS
namespace Go.Proofs.YthpifnjoiklgnaaGreat
open Go.RowKit
set_option linter.unusedVariables false
set_option maxRecDepth 100000
set_option linter.unusedSimpArgs false

set_option maxHeartbeats 4000000 in
theorem drawLowest_any (cb : Option Addr) (n cap : Nat) (zs : List Int) (w : World) (hn : n = zs.length) (hn' : n ≤ 1048576) (hcap : n ≤ cap) (hb : BytesAt w cb zs) :
 Calls Tryz.prog 5 #[.slice cb n cap] w (DrawnRg w) := by
 have HN := Lib.hid hn; clear hn
 have HB := Lib.hid hb; clear hb
 go_enter Tryz.func5, Tryz.ntmps5
 go_wp2_with fail
 refine (l20Open_any _ _ _ zs _ HN.out hn' hcap (HB.out.below (below1 _ _))).mono ?_; rintro e w1 ⟨rfl, r1, b1⟩
 have q1 := heap_later (heap_new w (.cells #[.int .i64 0, .int .i64 0, .slice none 0 0] 25)) b1
 have B1 := Lib.hid (below_seq (below1 w _) b1)
 have R1 : Hid (RD w1 (w.heap.size + 1) 0) := by show RD _ _ _; simpa using r1
 have l1 := heap_lt q1
 have l2 := R1.out.lt
 clear r1 b1
 go_wp2_with fail
 refine (l20Two_any (w.heap.size + 1) 0 _ (by omega) R1.out).mono ?_; rintro e w2 ⟨W, T, a, m, c, xs, la, q, lcap, L, lb, r, bcap, M, rfl, hm, h36, hs, o2, hq, hq36, i2, hr, hr36, j2, r2, g2⟩
 have q2 := heap_grown q1 g2 (by simp)
 have B2 := Lib.hid (below_grown B1.out g2 (Nat.le_refl _) (fun k e => by cases e; omega))
 have HM := Lib.hid hm; clear hm
 have HQ := Lib.hid hq; clear hq
 have HR := Lib.hid hr; clear hr
 have O2 := Lib.hid o2; clear o2
 clear i2 j2
 have hl2 := r2.lt
 clear r2 g2
 obtain ⟨wB, hwB⟩ : ∃ wB, wB = w2.alloc (.cells #[.int .i64 W, .int .i64 T, .slice a m c] 25) := ⟨_, rfl⟩
 have pB : wB.heap[w2.heap.size]? = some (.cells #[.int .i64 W, .int .i64 T, .slice a m c] 25 (0, 0)) := by rw [hwB]; exact heap_new _ _
 have q3 : wB.heap[w.heap.size]? = some (.cells #[.int .i64 0, .int .i64 0, .slice none 0 0] 25 (0, 0)) := by rw [hwB]; exact heap_later q2 (below1 _ _)
 have B3 : Hid (Below w.heap.size w wB) := by rw [hwB]; exact below_seq B2.out (below1 _ _)
 have O3 : Hid (OwnsB wB w1.heap.size (.slice a m c) xs) := by rw [hwB]; exact O2.out.alloc _
 obtain ⟨c0, c1, c2⟩ := cells3 pB
 obtain ⟨d0, d1, d2⟩ := cells3 q3
 have f0 := free3 q3 0
 have f1 := free3 q3 1
 have f2 := free3 q3 2
 have HWB := Lib.hid hwB; clear hwB
 go_upto_region 2 with fail
 rw [← HWB.out]
 clear HWB
 go_wp2
 refine bodyPost_ret (v := .agg #[.int .i64 W, .int .i64 T, .slice a m c]) (by simp [results, Tryz.results5, go_sem, d0, d1, d2]) rfl ⟨W, T, a, m, c, xs, rfl, HM.out, h36, hs, (O3.out.set3 (by omega) _ _ _).lower (by omega), below_set3 B3.out (Nat.le_refl _) _ _ _⟩
end Go.Proofs.YthpifnjoiklgnaaGreat

namespace Go.Proofs.YthpifnjoiklgnaaGreat
open Go.RowKit
set_option linter.unusedVariables false
set_option maxRecDepth 100000
set_option linter.unusedSimpArgs false

end Go.Proofs.YthpifnjoiklgnaaGreat

namespace Go.Proofs.YthpifnjoiklgnaaGreat
open Go.RowKit
set_option linter.unusedVariables false
set_option maxRecDepth 100000
set_option linter.unusedSimpArgs false

set_option maxHeartbeats 8000000 in
theorem sHeightsLow_ret (W T : Int) (a : Option Addr) (n cap : Nat) (xs : List Bool) (la0 : Option Addr) (m lcap : Nat) (A : List Int) (lb0 : Option Addr) (q bcap : Nat) (B : List Int) (w : World) (hn : n = xs.length) (hn' : n ≤ 1048576) (hm : m = A.length) (hm' : m ≤ 1048576) (hq : q = B.length) (hq' : q ≤ 1048576) (ha : BoolsAt w a xs) (hl : IntsAt w la0 A) (hb : IntsAt w lb0 B) :
 Calls Tryz.prog 61 #[.agg #[.int .i64 W, .int .i64 T, .slice a n cap], .slice la0 m lcap, .slice lb0 q bcap] w (RetL w (bothF false W T xs A B).length (bothF false W T xs A B)) := by
 obtain ⟨i0, hii, hz0, hz1, hz2⟩ := info_parts infoInt
 have HN := Lib.hid hn; clear hn
 have HM := Lib.hid hm; clear hm
 have HQ := Lib.hid hq; clear hq
 have HA := Lib.hid ha; clear ha
 have HL := Lib.hid hl; clear hl
 have HB := Lib.hid hb; clear hb
 by_cases hm0 : m = 0
 · have e : bothF false W T xs A B = [] := by
    have : A = [] := List.eq_nil_of_length_eq_zero (by rw [← HM.out]; exact hm0)
    subst this
    unfold bothF; split <;> rfl
   rw [e]; clear e
   subst hm0
   go_enter Tryz.func61, Tryz.ntmps61
   go_wp2
   go_loopw [7, 8] (fun o i wr => i = .int .i64 0 ∧ OwnsI wr (w.heap.size + 1) o [] ∧ Below w.heap.size w wr) (fun _ _ _ => 0)
   case atStart => exact ⟨rfl, nil_boxed w _, below_seq (below1 w (.cells #[.int .i64 W, .int .i64 T, .slice a n cap] 25)) (below1 _ _)⟩
   case round =>
    rename World => wo
    obtain ⟨rfl, ho, hbel⟩ := hrel
    obtain ⟨aR, capR, hv⟩ := OwnsI.form2 ho
    subst hv
    have HO := Lib.hid ho; clear ho
    go_wp2
    go_ret
    exact ⟨aR, capR, rfl, HO.out.lower (by omega), hbel⟩
 have hpos : 0 < m := by omega
 have hpos' : (0 : Int) < m := by omega
 cases h1 : hokB W T xs A
 · have e : bothF false W T xs A B = [] := by unfold bothF; rw [h1]; rfl
   rw [e]
   have H1 := Lib.hid h1; clear h1 e
   go_enter Tryz.func61, Tryz.ntmps61
   go_wp2
   go_loopw [7, 8] (fun o i wr => i = .int .i64 0 ∧ OwnsI wr (w.heap.size + 1) o [] ∧ wr.heap[w.heap.size]? = some (.cells #[.int .i64 W, .int .i64 T, .slice a n cap] 25 (0, 0)) ∧ Below w.heap.size w wr) (fun _ _ _ => 0)
   case atStart => exact ⟨rfl, nil_boxed w _, heap_later (heap_new w _) (below1 _ _), below_seq (below1 w (.cells #[.int .i64 W, .int .i64 T, .slice a n cap] 25)) (below1 _ _)⟩
   case round =>
    rename World => wo
    obtain ⟨rfl, ho, pr, bo⟩ := hrel
    obtain ⟨aR, capR, hv⟩ := OwnsI.form2 ho
    subst hv
    have HO := Lib.hid ho; clear ho
    obtain ⟨c0, c1, c2⟩ := cells3 pr
    go_wp2_with fail
    refine (sHeightsOk_any _ _ _ _ _ xs _ _ _ A _ HN.out hn' HM.out hm' (HA.out.below bo) (HL.out.below bo)).mono ?_; rintro e w1 ⟨rfl, hb1⟩
    rw [H1.out]
    go_wp2
    go_ret
    exact ⟨aR, capR, rfl, (HO.out.below hb1).lower (by omega), below_seq bo hb1⟩
 cases h2 : hokB W T xs B
 · have e : bothF false W T xs A B = [] := by unfold bothF; rw [h1, h2]; rfl
   rw [e]
   have H1 := Lib.hid h1; have H2 := Lib.hid h2; clear h1 h2 e
   go_enter Tryz.func61, Tryz.ntmps61
   go_wp2
   go_loopw [7, 8] (fun o i wr => i = .int .i64 0 ∧ OwnsI wr (w.heap.size + 1) o [] ∧ wr.heap[w.heap.size]? = some (.cells #[.int .i64 W, .int .i64 T, .slice a n cap] 25 (0, 0)) ∧ Below w.heap.size w wr) (fun _ _ _ => 0)
   case atStart => exact ⟨rfl, nil_boxed w _, heap_later (heap_new w _) (below1 _ _), below_seq (below1 w (.cells #[.int .i64 W, .int .i64 T, .slice a n cap] 25)) (below1 _ _)⟩
   case round =>
    rename World => wo
    obtain ⟨rfl, ho, pr, bo⟩ := hrel
    obtain ⟨aR, capR, hv⟩ := OwnsI.form2 ho
    subst hv
    have HO := Lib.hid ho; clear ho
    obtain ⟨c0, c1, c2⟩ := cells3 pr
    go_wp2_with fail
    refine (sHeightsOk_any _ _ _ _ _ xs _ _ _ A _ HN.out hn' HM.out hm' (HA.out.below bo) (HL.out.below bo)).mono ?_; rintro e w1 ⟨rfl, hb1⟩
    rw [H1.out]
    have b1 := below_seq bo hb1
    obtain ⟨d0, d1, d2⟩ := cells3 (heap_later pr hb1)
    go_wp2_with fail
    refine (sHeightsOk_any _ _ _ _ _ xs _ _ _ B _ HN.out hn' HQ.out hq' (HA.out.below b1) (HB.out.below b1)).mono ?_; rintro e w2 ⟨rfl, hb2⟩
    rw [H2.out]
    go_wp2
    go_ret
    exact ⟨aR, capR, rfl, ((HO.out.below hb1).below hb2).lower (by omega), below_seq b1 hb2⟩
 obtain ⟨l1, hr⟩ := hokB_len h1
 obtain ⟨l2, _⟩ := hokB_len h2
 have hqm : q = m := by have a1 := HM.out; have a2 := HQ.out; omega
 subst hqm
 have e : bothF false W T xs A B = pickL false A B q := by unfold bothF; rw [h1, h2, HM.out, pickL_all]; rfl
 rw [e]
 have HE : Hid ((pickL false A B q).length = q) := pickL_len _ _ _ _
 have H1 := Lib.hid h1; have H2 := Lib.hid h2
 clear h1 h2 e l1 l2 hr hm0
 go_enter Tryz.func61, Tryz.ntmps61
 go_wp2
 go_loopw [7, 8] (fun o i wr => ∃ k : Nat, k ≤ q ∧ i = .int .i64 k ∧ OwnsI wr (w.heap.size + 1) o (pickL false A B k) ∧ wr.heap[w.heap.size]? = some (.cells #[.int .i64 W, .int .i64 T, .slice a n cap] 25 (0, 0)) ∧ Below w.heap.size w wr) (fun _ i _ => q - (intOf i).toNat)
 case atStart => exact ⟨0, Nat.zero_le _, rfl, nil_boxed w _, heap_later (heap_new w _) (below1 _ _), below_seq (below1 w (.cells #[.int .i64 W, .int .i64 T, .slice a n cap] 25)) (below1 _ _)⟩
 case round =>
  rename World => wo
  obtain ⟨k, hk, rfl, ho, pr, bo⟩ := hrel
  obtain ⟨aR, capR, hv⟩ := OwnsI.form2 ho
  rw [pickL_len] at hv
  subst hv
  have HO := Lib.hid ho; clear ho
  by_cases hlt : k < q
  · have e1 : (k : Int) < q := by omega
    obtain ⟨c0, c1, c2⟩ := cells3 pr
    go_wp2_with fail
    refine (sHeightsOk_any _ _ _ _ _ xs _ _ _ A _ HN.out hn' HM.out hm' (HA.out.below bo) (HL.out.below bo)).mono ?_; rintro e w1 ⟨rfl, hb1⟩
    rw [H1.out]
    have b1 := below_seq bo hb1
    have p1 := heap_later pr hb1
    obtain ⟨d0, d1, d2⟩ := cells3 p1
    go_wp2_with fail
    refine (sHeightsOk_any _ _ _ _ _ xs _ _ _ B _ HN.out hn' HQ.out hq' (HA.out.below b1) (HB.out.below b1)).mono ?_; rintro e wr2 ⟨rfl, hb2⟩
    rw [H2.out]
    have BEL := Lib.hid (below_seq b1 hb2)
    have HO2 := Lib.hid ((HO.out.below hb1).below hb2)
    have pr2 := heap_later p1 hb2
    clear c0 c1 c2 d0 d1 d2 HO pr p1 b1 bo hb1 hb2
    have HO := HO2; clear HO2
    have pr := pr2; clear pr2
    obtain ⟨la, lo, rfl, hx0⟩ := HL.out k (by rw [← HM.out]; exact hlt)
    obtain ⟨lb, lp, rfl, hy0⟩ := HB.out k (by rw [← HQ.out]; exact hlt)
    have hla := World.block_lt_of_cell? w _ hx0
    have hlb := World.block_lt_of_cell? w _ hy0
    simp only at hla hlb
    have hsn := pickL_snoc false A B k
    obtain ⟨x, hxx⟩ : ∃ x, x = A.getD k 0 := ⟨_, rfl⟩
    obtain ⟨y, hyy⟩ : ∃ y, y = B.getD k 0 := ⟨_, rfl⟩
    rw [← hxx] at hx0 hsn; rw [← hyy] at hy0 hsn
    clear hxx hyy
    have hx := (BEL.out.cell (p := ⟨la, lo + k, none⟩) hla).trans hx0
    have hy := (BEL.out.cell (p := ⟨lb, lp + k, none⟩) hlb).trans hy0
    have lw := heap_lt pr
    by_cases hxy : y < x
    · have hpp : pickI false x y = y := if_pos hxy
      rw [hpp] at hsn
      have HXY := Lib.hid hsn; clear hsn hpp
      go_wp2_with fail
      have HSD := Lib.hid (show (fun w' : World => w'.cell? ⟨la, lo + k, none⟩ = some (.int .i64 x) ∧ w'.cell? ⟨lb, lp + k, none⟩ = some (.int .i64 y)) wr2.drew from ⟨hx, hy⟩)
      refine wp_region_till (fun w' : World => w'.cell? ⟨la, lo + k, none⟩ = some (.int .i64 x) ∧ w'.cell? ⟨lb, lp + k, none⟩ = some (.int .i64 y)) 12 (by kernel_rfl) ?_
      refine Till.take (i := 0) (v := ?_) rfl (by kernel_rfl) (by kernel_rfl) (by kernel_rfl) (by kernel_rfl) (fun _ _ _ h => h) (Or.inl ⟨by kernel_rfl, ?_⟩) HSD.out ?_
      rotate_left
      · intro ws hsw
        obtain ⟨s1, s2⟩ := hsw
        go_simp
        try with_reducible rfl
      try simp only [Act.put, List.setIfInBounds_toArray, List.set_cons_zero, List.set_cons_succ]
      refine Till.take (i := 1) (v := ?_) rfl (by kernel_rfl) (by kernel_rfl) (by kernel_rfl) (by kernel_rfl) (fun _ _ _ h => h) (Or.inl ⟨by kernel_rfl, ?_⟩) HSD.out ?_
      rotate_left
      · intro ws hsw
        obtain ⟨s1, s2⟩ := hsw
        go_simp
        try with_reducible rfl
      try simp only [Act.put, List.setIfInBounds_toArray, List.set_cons_zero, List.set_cons_succ]
      refine Till.take (i := 2) (v := ?_) rfl (by kernel_rfl) (by kernel_rfl) (by kernel_rfl) (by kernel_rfl) (fun _ _ _ h => h) (Or.inl ⟨by kernel_rfl, ?_⟩) HSD.out ?_
      rotate_left
      · intro ws hsw
        obtain ⟨s1, s2⟩ := hsw
        go_simp
        try with_reducible rfl
      try simp only [Act.put, List.setIfInBounds_toArray, List.set_cons_zero, List.set_cons_succ]
      refine Till.take (i := 3) (v := ?_) rfl (by kernel_rfl) (by kernel_rfl) (by kernel_rfl) (by kernel_rfl) (fun _ _ _ h => h) (Or.inl ⟨by kernel_rfl, ?_⟩) HSD.out ?_
      rotate_left
      · intro ws hsw
        obtain ⟨s1, s2⟩ := hsw
        go_simp
        try with_reducible rfl
      try simp only [Act.put, List.setIfInBounds_toArray, List.set_cons_zero, List.set_cons_succ]
      refine Till.take (i := 4) (v := ?_) rfl (by kernel_rfl) (by kernel_rfl) (by kernel_rfl) (by kernel_rfl) (fun _ _ _ h => h) (Or.inl ⟨by kernel_rfl, ?_⟩) HSD.out ?_
      rotate_left
      · intro ws hsw
        obtain ⟨s1, s2⟩ := hsw
        go_simp
        try with_reducible rfl
      try simp only [Act.put, List.setIfInBounds_toArray, List.set_cons_zero, List.set_cons_succ]
      refine Till.take (i := 5) (v := ?_) rfl (by kernel_rfl) (by kernel_rfl) (by kernel_rfl) (by kernel_rfl) (fun _ _ _ h => h) (Or.inl ⟨by kernel_rfl, ?_⟩) HSD.out ?_
      rotate_left
      · intro ws hsw
        obtain ⟨s1, s2⟩ := hsw
        go_simp
        try with_reducible rfl
      try simp only [Act.put, List.setIfInBounds_toArray, List.set_cons_zero, List.set_cons_succ]
      refine Till.take (i := 6) (v := ?_) rfl (by kernel_rfl) (by kernel_rfl) (by kernel_rfl) (by kernel_rfl) (fun _ _ _ h => h) (Or.inl ⟨by kernel_rfl, ?_⟩) HSD.out ?_
      rotate_left
      · intro ws hsw
        obtain ⟨s1, s2⟩ := hsw
        go_simp
        try with_reducible rfl
      try simp only [Act.put, List.setIfInBounds_toArray, List.set_cons_zero, List.set_cons_succ]
      refine Till.take (i := 7) (v := ?_) rfl (by kernel_rfl) (by kernel_rfl) (by kernel_rfl) (by kernel_rfl) (fun _ _ _ h => h) (Or.inl ⟨by kernel_rfl, ?_⟩) HSD.out ?_
      rotate_left
      · intro ws hsw
        obtain ⟨s1, s2⟩ := hsw
        go_simp
        try with_reducible rfl
      try simp only [Act.put, List.setIfInBounds_toArray, List.set_cons_zero, List.set_cons_succ]
      refine Till.take (i := 8) (v := ?_) rfl (by kernel_rfl) (by kernel_rfl) (by kernel_rfl) (by kernel_rfl) (fun _ _ _ h => h) (Or.inl ⟨by kernel_rfl, ?_⟩) HSD.out ?_
      rotate_left
      · intro ws hsw
        obtain ⟨s1, s2⟩ := hsw
        go_simp
        try with_reducible rfl
      try simp only [Act.put, List.setIfInBounds_toArray, List.set_cons_zero, List.set_cons_succ]
      refine Till.take (i := 9) (v := ?_) rfl (by kernel_rfl) (by kernel_rfl) (by kernel_rfl) (by kernel_rfl) (fun _ _ _ h => h) (Or.inl ⟨by kernel_rfl, ?_⟩) HSD.out ?_
      rotate_left
      · intro ws hsw
        obtain ⟨s1, s2⟩ := hsw
        go_simp
        try with_reducible rfl
      try simp only [Act.put, List.setIfInBounds_toArray, List.set_cons_zero, List.set_cons_succ]
      have WN := Lib.hid (show Below wr2.heap.size wr2 (World.drew (wr2.alloc (.cells #[.int .i64 y] 3))) from below_seq (below1 _ _) (drew_below _))
      refine Till.one (i := 10) (by kernel_rfl) rfl (by rfl) (fun K hK => ?_)
      go_simp
      -- pos
      refine hK.out _ _ (fun _ => ⟨cell_later WN.out hx, cell_later WN.out hy⟩) ?_
      clear hK K
      refine Till.one (i := 11) (by kernel_rfl) rfl (by rfl) (fun K hK => ?_)
      refine step_append_lies _ rfl _ _ 27 rfl (w.heap.size + 1) 3 i0 (.int .i64 0) 1 8 Tryz.underlying27 hii hz0 hz1 hz2 rfl (by decide) (.slice aR k capR) k ((pickL false A B k).map (Value.int .i64)) rfl (show World.ownsRow (World.drew (wr2.alloc _)) _ _ _ _ _ _ from (HO.out.alloc _).row (pickL_len _ _ _ _)) ⟨wr2.heap.size, 0, none⟩ 1 1 [.int .i64 y] rfl rfl (new_int wr2 _) (one_int _) (by omega) (by unfold maxLen; omega) (by omega) (by simp; omega) (wr2.heap.size + 1) (by simp) ?_
      intro g' c' w5 hown' hgrow _ _
      have p5 := heap_grown (heap_later pr WN.out) hgrow (HO.out.ownBlock (by omega))
      have B5 := Lib.hid (below_grown (below_seq BEL.out WN.out) hgrow (Nat.le_refl _) (HO.out.ownAt (by omega)))
      have O5 := Lib.hid (OwnsI.ofRow (xs := pickL false A B (k + 1)) hown' (by rw [HXY.out]; simp) (pickL_len _ _ _ _))
      have hb5 : Below w.heap.size w w5 := B5.out
      have hx5 : w5.cell? ⟨la, lo + k, none⟩ = some (.int .i64 x) := (hb5.cell (p := ⟨la, lo + k, none⟩) hla).trans hx0
      have hy5 : w5.cell? ⟨lb, lp + k, none⟩ = some (.int .i64 y) := (hb5.cell (p := ⟨lb, lp + k, none⟩) hlb).trans hy0
      clear hb5 hown' hgrow
      refine hK.out _ _ (fun _ => ⟨hx5, hy5⟩) ?_
      clear hK K
      refine Till.one (i := 12) (by kernel_rfl) rfl (by rfl) (fun K hK => ?_)
      go_simp
      refine hK.out _ _ (fun h => absurd rfl h) ?_
      clear hK K
      refine Till.done (by kernel_rfl) ?_ _
      go_wp2
      go_roundw
      case rel => exact ⟨k + 1, by omega, by go_num, O5.out, p5, B5.out⟩
      case measure => simp [intOf]; omega
    · have hpp : pickI false x y = x := if_neg hxy
      rw [hpp] at hsn
      have HXY := Lib.hid hsn; clear hsn hpp
      go_wp2_with fail
      have HSD := Lib.hid (show (fun w' : World => w'.cell? ⟨la, lo + k, none⟩ = some (.int .i64 x) ∧ w'.cell? ⟨lb, lp + k, none⟩ = some (.int .i64 y)) wr2.drew from ⟨hx, hy⟩)
      refine wp_region_till (fun w' : World => w'.cell? ⟨la, lo + k, none⟩ = some (.int .i64 x) ∧ w'.cell? ⟨lb, lp + k, none⟩ = some (.int .i64 y)) 12 (by kernel_rfl) ?_
      refine Till.take (i := 0) (v := ?_) rfl (by kernel_rfl) (by kernel_rfl) (by kernel_rfl) (by kernel_rfl) (fun _ _ _ h => h) (Or.inl ⟨by kernel_rfl, ?_⟩) HSD.out ?_
      rotate_left
      · intro ws hsw
        obtain ⟨s1, s2⟩ := hsw
        go_simp
        try with_reducible rfl
      try simp only [Act.put, List.setIfInBounds_toArray, List.set_cons_zero, List.set_cons_succ]
      refine Till.take (i := 1) (v := ?_) rfl (by kernel_rfl) (by kernel_rfl) (by kernel_rfl) (by kernel_rfl) (fun _ _ _ h => h) (Or.inl ⟨by kernel_rfl, ?_⟩) HSD.out ?_
      rotate_left
      · intro ws hsw
        obtain ⟨s1, s2⟩ := hsw
        go_simp
        try with_reducible rfl
      try simp only [Act.put, List.setIfInBounds_toArray, List.set_cons_zero, List.set_cons_succ]
      refine Till.take (i := 2) (v := ?_) rfl (by kernel_rfl) (by kernel_rfl) (by kernel_rfl) (by kernel_rfl) (fun _ _ _ h => h) (Or.inl ⟨by kernel_rfl, ?_⟩) HSD.out ?_
      rotate_left
      · intro ws hsw
        obtain ⟨s1, s2⟩ := hsw
        go_simp
        try with_reducible rfl
      try simp only [Act.put, List.setIfInBounds_toArray, List.set_cons_zero, List.set_cons_succ]
      refine Till.take (i := 3) (v := ?_) rfl (by kernel_rfl) (by kernel_rfl) (by kernel_rfl) (by kernel_rfl) (fun _ _ _ h => h) (Or.inl ⟨by kernel_rfl, ?_⟩) HSD.out ?_
      rotate_left
      · intro ws hsw
        obtain ⟨s1, s2⟩ := hsw
        go_simp
        try with_reducible rfl
      try simp only [Act.put, List.setIfInBounds_toArray, List.set_cons_zero, List.set_cons_succ]
      refine Till.take (i := 4) (v := ?_) rfl (by kernel_rfl) (by kernel_rfl) (by kernel_rfl) (by kernel_rfl) (fun _ _ _ h => h) (Or.inl ⟨by kernel_rfl, ?_⟩) HSD.out ?_
      rotate_left
      · intro ws hsw
        obtain ⟨s1, s2⟩ := hsw
        go_simp
        try with_reducible rfl
      try simp only [Act.put, List.setIfInBounds_toArray, List.set_cons_zero, List.set_cons_succ]
      refine Till.take (i := 5) (v := ?_) rfl (by kernel_rfl) (by kernel_rfl) (by kernel_rfl) (by kernel_rfl) (fun _ _ _ h => h) (Or.inl ⟨by kernel_rfl, ?_⟩) HSD.out ?_
      rotate_left
      · intro ws hsw
        obtain ⟨s1, s2⟩ := hsw
        go_simp
        try with_reducible rfl
      try simp only [Act.put, List.setIfInBounds_toArray, List.set_cons_zero, List.set_cons_succ]
      refine Till.take (i := 6) (v := ?_) rfl (by kernel_rfl) (by kernel_rfl) (by kernel_rfl) (by kernel_rfl) (fun _ _ _ h => h) (Or.inl ⟨by kernel_rfl, ?_⟩) HSD.out ?_
      rotate_left
      · intro ws hsw
        obtain ⟨s1, s2⟩ := hsw
        go_simp
        try with_reducible rfl
      try simp only [Act.put, List.setIfInBounds_toArray, List.set_cons_zero, List.set_cons_succ]
      refine Till.take (i := 7) (v := ?_) rfl (by kernel_rfl) (by kernel_rfl) (by kernel_rfl) (by kernel_rfl) (fun _ _ _ h => h) (Or.inl ⟨by kernel_rfl, ?_⟩) HSD.out ?_
      rotate_left
      · intro ws hsw
        obtain ⟨s1, s2⟩ := hsw
        go_simp
        try with_reducible rfl
      try simp only [Act.put, List.setIfInBounds_toArray, List.set_cons_zero, List.set_cons_succ]
      refine Till.take (i := 8) (v := ?_) rfl (by kernel_rfl) (by kernel_rfl) (by kernel_rfl) (by kernel_rfl) (fun _ _ _ h => h) (Or.inl ⟨by kernel_rfl, ?_⟩) HSD.out ?_
      rotate_left
      · intro ws hsw
        obtain ⟨s1, s2⟩ := hsw
        go_simp
        try with_reducible rfl
      try simp only [Act.put, List.setIfInBounds_toArray, List.set_cons_zero, List.set_cons_succ]
      refine Till.take (i := 9) (v := ?_) rfl (by kernel_rfl) (by kernel_rfl) (by kernel_rfl) (by kernel_rfl) (fun _ _ _ h => h) (Or.inl ⟨by kernel_rfl, ?_⟩) HSD.out ?_
      rotate_left
      · intro ws hsw
        obtain ⟨s1, s2⟩ := hsw
        go_simp
        try with_reducible rfl
      try simp only [Act.put, List.setIfInBounds_toArray, List.set_cons_zero, List.set_cons_succ]
      have WN := Lib.hid (show Below wr2.heap.size wr2 (World.drew (wr2.alloc (.cells #[.int .i64 x] 3))) from below_seq (below1 _ _) (drew_below _))
      refine Till.one (i := 10) (by kernel_rfl) rfl (by rfl) (fun K hK => ?_)
      go_simp
      rw [if_neg (show ¬ y < x by omega)]
      refine hK.out _ _ (fun _ => ⟨cell_later WN.out hx, cell_later WN.out hy⟩) ?_
      clear hK K
      refine Till.one (i := 11) (by kernel_rfl) rfl (by rfl) (fun K hK => ?_)
      refine step_append_lies _ rfl _ _ 27 rfl (w.heap.size + 1) 3 i0 (.int .i64 0) 1 8 Tryz.underlying27 hii hz0 hz1 hz2 rfl (by decide) (.slice aR k capR) k ((pickL false A B k).map (Value.int .i64)) rfl (show World.ownsRow (World.drew (wr2.alloc _)) _ _ _ _ _ _ from (HO.out.alloc _).row (pickL_len _ _ _ _)) ⟨wr2.heap.size, 0, none⟩ 1 1 [.int .i64 x] rfl rfl (new_int wr2 _) (one_int _) (by omega) (by unfold maxLen; omega) (by omega) (by simp; omega) (wr2.heap.size + 1) (by simp) ?_
      intro g' c' w5 hown' hgrow _ _
      have p5 := heap_grown (heap_later pr WN.out) hgrow (HO.out.ownBlock (by omega))
      have B5 := Lib.hid (below_grown (below_seq BEL.out WN.out) hgrow (Nat.le_refl _) (HO.out.ownAt (by omega)))
      have O5 := Lib.hid (OwnsI.ofRow (xs := pickL false A B (k + 1)) hown' (by rw [HXY.out]; simp) (pickL_len _ _ _ _))
      have hb5 : Below w.heap.size w w5 := B5.out
      have hx5 : w5.cell? ⟨la, lo + k, none⟩ = some (.int .i64 x) := (hb5.cell (p := ⟨la, lo + k, none⟩) hla).trans hx0
      have hy5 : w5.cell? ⟨lb, lp + k, none⟩ = some (.int .i64 y) := (hb5.cell (p := ⟨lb, lp + k, none⟩) hlb).trans hy0
      clear hb5 hown' hgrow
      refine hK.out _ _ (fun _ => ⟨hx5, hy5⟩) ?_
      clear hK K
      refine Till.one (i := 12) (by kernel_rfl) rfl (by rfl) (fun K hK => ?_)
      go_simp
      refine hK.out _ _ (fun h => absurd rfl h) ?_
      clear hK K
      refine Till.done (by kernel_rfl) ?_ _
      go_wp2
      go_roundw
      case rel => exact ⟨k + 1, by omega, by go_num, O5.out, p5, B5.out⟩
      case measure => simp [intOf]; omega
  · obtain rfl : k = q := by omega
    obtain ⟨c0, c1, c2⟩ := cells3 pr
    go_wp2
    go_ret
    exact ⟨aR, capR, by rw [HE.out]; rfl, by rw [HE.out]; exact HO.out.lower (by omega), bo⟩

end Go.Proofs.YthpifnjoiklgnaaGreat

namespace Go.Proofs.YthpifnjoiklgnaaGreat
open Go.RowKit
set_option linter.unusedVariables false
set_option maxRecDepth 100000
set_option linter.unusedSimpArgs false

set_option maxHeartbeats 4000000 in
theorem sTilingLow_ret (W T : Int) (a : Option Addr) (n cap : Nat) (xs : List Bool) (la0 : Option Addr) (m0 lcap0 : Nat) (L0 : List Int) (la1 : Option Addr) (m1 lcap1 : Nat) (L1 : List Int) (A B : List Int) (w : World) (hn : n = xs.length) (hn' : n ≤ 1048576) (hm0 : m0 = L0.length) (hm0' : m0 ≤ 1048576) (hm1 : m1 = L1.length) (hm1' : m1 ≤ 1048576) (ha : BoolsAt w a xs) (hl0 : IntsAt w la0 L0) (hl1 : IntsAt w la1 L1) (hA : HtsR W T xs L0 A) (hB : HtsR W T xs L1 B) :
 Calls Tryz.prog 24 #[.agg #[.int .i64 W, .int .i64 T, .slice a n cap], .slice la0 m0 lcap0, .slice la1 m1 lcap1] w (RetLT w (tlowF false W T xs A B).1.length (tlowF false W T xs A B).1 (tlowF false W T xs A B).2) := by
 have HN := Lib.hid hn; clear hn
 have HM0 := Lib.hid hm0; clear hm0
 have HM1 := Lib.hid hm1; clear hm1
 have HA := Lib.hid ha; clear ha
 have HL0 := Lib.hid hl0; clear hl0
 have HL1 := Lib.hid hl1; clear hl1
 have hla := hA.len; have hlb := hB.len
 have HHA := Lib.hid hA; have HHB := Lib.hid hB
 clear hA hB
 have hlf := bothF_len false W T xs A B
 obtain ⟨p, hp⟩ : ∃ p, p = A.length := ⟨_, rfl⟩
 obtain ⟨q, hq⟩ : ∃ q, q = B.length := ⟨_, rfl⟩
 obtain ⟨F, hF⟩ : ∃ F, F = bothF false W T xs A B := ⟨_, rfl⟩
 obtain ⟨r, hr⟩ : ∃ r, r = F.length := ⟨_, rfl⟩
 have HFF : Hid (tlowF false W T xs A B = tbyF W T xs F) := by show _ = _; rw [hF]; rfl
 rw [HFF.out]
 rw [← hF, ← hp, ← hr] at hlf
 rw [← hp] at hla; rw [← hq] at hlb
 have HP := Lib.hid hp; have HQ := Lib.hid hq; have HF := Lib.hid hF; have HR := Lib.hid hr
 clear hp hq hF hr
 have cA : ∀ w : World, RetL w A.length A = RetL w p A := fun w => by rw [HP.out]
 have cB : ∀ w : World, RetL w B.length B = RetL w q B := fun w => by rw [HQ.out]
 have cF : ∀ w : World, RetL w (bothF false W T xs A B).length (bothF false W T xs A B) = RetL w r F := fun w => by rw [← HF.out, HR.out]
 have HcA := Lib.hid cA; have HcB := Lib.hid cB; have HcF := Lib.hid cF
 clear cA cB cF
 have K1 : ∀ w', BoolsAt w' a xs → IntsAt w' la0 L0 → Calls Tryz.prog 62 #[.agg #[.int .i64 W, .int .i64 T, .slice a n cap], .slice la0 m0 lcap0] w' (RetL w' p A) := fun w' h1 h2 => by have := sHeightsOf_ret W T a n cap xs la0 m0 lcap0 L0 A w' HN.out hn' HM0.out hm0' h1 h2 HHA.out; rwa [HcA.out] at this
 have K2 : ∀ w', BoolsAt w' a xs → IntsAt w' la1 L1 → Calls Tryz.prog 62 #[.agg #[.int .i64 W, .int .i64 T, .slice a n cap], .slice la1 m1 lcap1] w' (RetL w' q B) := fun w' h1 h2 => by have := sHeightsOf_ret W T a n cap xs la1 m1 lcap1 L1 B w' HN.out hn' HM1.out hm1' h1 h2 HHB.out; rwa [HcB.out] at this
 have K3 : ∀ w' a1 c1 a2 c2, BoolsAt w' a xs → IntsAt w' a1 A → IntsAt w' a2 B → Calls Tryz.prog 61 #[.agg #[.int .i64 W, .int .i64 T, .slice a n cap], .slice a1 p c1, .slice a2 q c2] w' (RetL w' r F) := fun w' a1 c1 a2 c2 h1 h2 h3 => by have := sHeightsLow_ret W T a n cap xs a1 p c1 A a2 q c2 B w' HN.out hn' HP.out (by omega) HQ.out (by omega) h1 h2 h3; rwa [HcF.out] at this
 have K4 : ∀ w' a3 c3, BoolsAt w' a xs → IntsAt w' a3 F → Calls Tryz.prog 60 #[.agg #[.int .i64 W, .int .i64 T, .slice a n cap], .slice a3 r c3] w' (RetLT w' (tbyF W T xs F).1.length (tbyF W T xs F).1 (tbyF W T xs F).2) := fun w' a3 c3 h1 h2 => sTilingBy_ret W T a n cap xs a3 r c3 F w' HN.out hn' HR.out (by omega) h1 h2
 have HK1 := Lib.hid K1; have HK2 := Lib.hid K2; have HK3 := Lib.hid K3; have HK4 := Lib.hid K4
 clear K1 K2 K3 K4
 generalize (tbyF W T xs F).2 = okv at HK4 ⊢
 generalize (tbyF W T xs F).1 = ys at HK4 ⊢
 obtain ⟨z, hz⟩ : ∃ z, z = ys.length := ⟨_, rfl⟩
 rw [← hz] at HK4 ⊢
 have HZ := Lib.hid hz; clear hz
 have PA : (w.alloc (.cells #[.int .i64 W, .int .i64 T, .slice a n cap] 25)).drew.heap[w.heap.size]? = some _ := heap_new w (.cells #[.int .i64 W, .int .i64 T, .slice a n cap] 25)
 have bA : Below w.heap.size w (w.alloc (.cells #[.int .i64 W, .int .i64 T, .slice a n cap] 25)).drew := below_seq (below1 _ _) (drew_below _)
 obtain ⟨c0, c1, c2⟩ := cells3 (heap_new w (.cells #[.int .i64 W, .int .i64 T, .slice a n cap] 25))
 go_enter Tryz.func24, Tryz.ntmps24
 go_wp2_with fail
 go_region_held3 (fun w' => w'.cell? ⟨w.heap.size, 0, none⟩ = some (.int .i64 W) ∧ w'.cell? ⟨w.heap.size, 1, none⟩ = some (.int .i64 T) ∧ w'.cell? ⟨w.heap.size, 2, none⟩ = some (.slice a n cap))
  (go_keep)
  (first
    | (go_at_call 60; refine (HK4.out _ _ _ (HA.out.below b3) (OwnsI.at o3)).mono ?_; rintro e w4 ⟨a4, k4, rfl, o4, hb4⟩; have b4 := below_seq b3 hb4; have p4 := heap_later p3 hb4; obtain ⟨g0, g1, g2⟩ := cells3 p4)
    | (go_at_call 61; refine (HK3.out _ _ _ _ _ (HA.out.below b2) (OwnsI.at (o1.below hb2)) (OwnsI.at o2)).mono ?_; rintro e w3 ⟨a3, k3, rfl, o3, hb3⟩; have b3 := below_seq b2 hb3; have p3 := heap_later p2 hb3; obtain ⟨f0, f1, f2⟩ := cells3 p3)
    | (go_at_call 62; refine (HK2.out _ (HA.out.below b1) (HL1.out.below b1)).mono ?_; rintro e w2 ⟨a2, k2, rfl, o2, hb2⟩; have b2 := below_seq b1 hb2; have p2 := heap_later p1 hb2; obtain ⟨e0, e1, e2⟩ := cells3 p2)
    | (go_at_call 62; refine (HK1.out _ (HA.out.below bA) (HL0.out.below bA)).mono ?_; rintro e w1 ⟨a1, k1, rfl, o1, hb1⟩; have b1 := below_seq bA hb1; have p1 := heap_later PA hb1; obtain ⟨d0, d1, d2⟩ := cells3 p1))
 have O4 := Lib.hid (o4.lower b3.size)
 have B4 := Lib.hid b4
 clear o1 o2 o3 o4 hb1 hb2 hb3 hb4 b1 b2 b3 b4
 go_wp2
 go_ret2
 exact ⟨a4, k4, rfl, O4.out, B4.out⟩

end Go.Proofs.YthpifnjoiklgnaaGreat

namespace Go.Proofs.YthpifnjoiklgnaaGreat
open Go.RowKit
set_option linter.unusedVariables false
set_option maxRecDepth 100000
set_option linter.unusedSimpArgs false

theorem low_none {W T : Int} {xs : List Bool} (hr : rv W T xs = true) (h : ∀ L, tok W T xs L = false) : tilT W T xs = 0 := by
 unfold tilT
 rw [if_pos hr]
 rcases Nat.eq_zero_or_pos (dpT W T xs) with e | e
 · rw [e]; rfl
 · obtain ⟨C, _, hC, _⟩ := til_some hr (V := 0) (by omega) (by omega)
   rw [h] at hC; cases hC
end Go.Proofs.YthpifnjoiklgnaaGreat

namespace Go.Proofs.YthpifnjoiklgnaaGreat
open Go.RowKit
set_option linter.unusedVariables false
set_option maxRecDepth 100000
set_option linter.unusedSimpArgs false

set_option maxHeartbeats 4000000 in
theorem sLowest_ret (W T : Int) (a : Option Addr) (n cap : Nat) (xs : List Bool) (X : List Int) (ok : Bool) (w : World) (hn : n = xs.length) (hn' : n ≤ 1048576) (hE : LowRes false W T xs X ok) (ha : BoolsAt w a xs) :
 Calls Tryz.prog 7 #[.agg #[.int .i64 W, .int .i64 T, .slice a n cap]] w (RetLT w X.length X ok) := by
 have HN := Lib.hid hn; clear hn
 have HA := Lib.hid ha; clear ha
 obtain ⟨wA, hwA⟩ : ∃ wA, wA = w.alloc (.cells #[.int .i64 W, .int .i64 T, .slice a n cap] 25) := ⟨_, rfl⟩
 have pA : wA.heap[w.heap.size]? = some (.cells #[.int .i64 W, .int .i64 T, .slice a n cap] 25 (0, 0)) := by rw [hwA]; exact heap_new _ _
 have bA : Below w.heap.size w wA := by rw [hwA]; exact below1 _ _
 have zA : wA.heap.size = w.heap.size + 1 := by rw [hwA]; simp
 obtain ⟨ALL, hALL⟩ : ∃ ALL, ALL = allF W T xs := ⟨_, rfl⟩
 have hcnt : ALL.length ≤ 4096 := by rw [hALL]; exact allF_count W T xs
 have HROW : Hid (∀ i, i < ALL.length → (ALL.getD i []).length = n ∧ tok W T xs (ALL.getD i []) = true) := fun i hi => by
  rw [hALL] at hi ⊢
  rw [HN.out]
  exact allF_row hi
 have HMEM : Hid (∀ M, tok W T xs M = true → ∃ i, i < ALL.length ∧ ALL.getD i [] = M) := fun M hM => by
  obtain ⟨i, hi, e⟩ := List.getElem_of_mem (mem_allF hM)
  rw [hALL]
  exact ⟨i, hi, by rw [← e]; simp [List.getD, hi]⟩
 obtain ⟨z, hz⟩ : ∃ z, z = ALL.length := ⟨_, rfl⟩
 rw [← hz] at hcnt
 obtain ⟨S, hS⟩ : ∃ S, simpleB W T xs = S := ⟨_, rfl⟩
 have HS := Lib.hid hS
 have HE := Lib.hid hE; clear hE hS
 have HALL := Lib.hid hALL; clear hALL
 have HZ := Lib.hid hz; clear hz
 obtain ⟨c0, c1, c2⟩ := cells3 pA
 go_enter Tryz.func7, Tryz.ntmps7
 go_wp2_with fail
 rw [← hwA]; clear hwA
 refine (sTilingsAll_ret _ _ _ _ _ xs _ HN.out hn' (HA.out.below bA)).mono ?_; rintro e w1 ⟨aa, acap, rfl, ho1, hb1⟩
 rw [← HALL.out] at ho1 ⊢
 rw [← HZ.out] at ho1 ⊢
 have p1 := heap_later pA hb1
 have b1 := below_seq bA hb1
 have A1 := Lib.hid (HA.out.below b1)
 have S1 := Lib.hid (OwnsSS.at ho1)
 obtain ⟨ws, hrow1, hrows1⟩ := ho1
 rw [← HZ.out] at hrow1
 have RS1 := Lib.hid hrows1; clear hrows1
 have RW1 := Lib.hid hrow1; clear hrow1
 have zz1 := hb1.size
 clear c0 c1 c2 hb1
 obtain ⟨c0, c1, c2⟩ := cells3 p1
 go_wp2_with fail
 refine (sSimple_any _ _ _ _ _ xs _ HN.out hn' A1.out).mono ?_; rintro e w2 ⟨rfl, hb2⟩
 rw [HS.out]
 have p2 := heap_later p1 hb2
 have b2 := below_seq b1 hb2
 have A2 := Lib.hid (A1.out.below hb2)
 have S2 := Lib.hid (S1.out.below hb2)
 have RS2 := Lib.hid (RS1.out.below hb2)
 have RW2 := Lib.hid (ownsRow_belowW RW1.out hb2)
 have zz2 := hb2.size
 clear c0 c1 c2 hb2 p1 A1 S1 RS1 RW1
 obtain ⟨c0, c1, c2⟩ := cells3 p2
 by_cases hno : S = false ∨ z = 0
 · obtain ⟨rfl, rfl⟩ : X = [] ∧ ok = false := by
    rcases HE.out with ⟨_, H, hs, ht, _⟩ | ⟨e1, e2, _⟩
    · exfalso
      rcases hno with e | e
      · have := HS.out; rw [hs, e] at this; cases this
      · obtain ⟨i, hi, _⟩ := HMEM.out X ht
        rw [← HZ.out, e] at hi; omega
    · exact ⟨e2, e1⟩
   cases S
   · clear hno
     go_wp2
     go_ret2
     refine ⟨_, _, rfl, own_nil_litL _ (by omega), below_seq b2 (below1 _ _)⟩
   · have hz0 : z = 0 := by rcases hno with e | e; cases e; exact e
     subst hz0
     clear hno
     go_wp2
     go_ret2
     refine ⟨_, _, rfl, own_nil_litL _ (by omega), below_seq b2 (below1 _ _)⟩
 · obtain rfl : S = true := by cases S; exact absurd (Or.inl rfl) hno; rfl
   have hz1 : 0 < z := by omega
   have hz2 : (0 : Int) < z := by omega
   have hz3 : ((z : Int) == 0) = false := by simp; omega
   obtain ⟨b0, o0, a0, cap0, rfl, hc0, hx0⟩ := S2.out 0 (by rw [← HZ.out]; exact hz1)
   obtain ⟨m0, hm0⟩ : ∃ m0, m0 = (ALL.getD 0 []).length := ⟨_, rfl⟩
   have hm0n : m0 = n := by rw [hm0]; exact (HROW.out 0 (by rw [← HZ.out]; exact hz1)).1
   have hm036 : m0 ≤ 1048576 := by omega
   rw [← hm0, Nat.add_zero] at hc0
   obtain ⟨M0, hM0⟩ : ∃ M0, M0 = ALL.getD 0 [] := ⟨_, rfl⟩
   have ht0 : tok W T xs M0 = true := by rw [hM0]; exact (HROW.out 0 (by rw [← HZ.out]; exact hz1)).2
   have ho0 : OwnsI w2 wA.heap.size (.slice a0 m0 cap0) M0 := by rw [hM0]; exact row_owned RW2.out HZ.out RS2.out hz1 rfl (by rw [Nat.add_zero]; exact hc0)
   obtain ⟨H0, hH0⟩ := htsR_exist W T xs M0
   rw [← hM0] at hm0
   have HM0 := Lib.hid hm0; clear hm0
   have HT0 := Lib.hid ht0; clear ht0
   have HH0 := Lib.hid hH0; clear hH0
   have O0 := Lib.hid ho0; clear ho0
   have HM0A := Lib.hid hM0; clear hM0
   clear hx0 hm0n hno
   have lb0 := World.block_lt_of_cell? w2 _ hc0
   simp only at lb0
   go_wp2
   go_loopw [5, 6] (fun l i wr => ∃ (k : Nat) (la : Option Addr) (m lcap : Nat) (L H : List Int), 1 ≤ k ∧ k ≤ z ∧ i = .int .i64 k ∧ l = .slice la m lcap ∧ m = L.length ∧ m ≤ 1048576 ∧ tok W T xs L = true ∧ HtsR W T xs L H ∧ (∀ i, i < k → ∀ B, HtsR W T xs (ALL.getD i []) B → ∀ j, j < H.length → H.getD j 0 ≤ B.getD j 0) ∧ OwnsI wr w.heap.size l L ∧ Below w2.heap.size w2 wr) (fun _ i _ => z - (intOf i).toNat)
   case atStart =>
    refine ⟨1, a0, m0, cap0, M0, H0, Nat.le_refl _, hz1, rfl, rfl, HM0.out, hm036, HT0.out, HH0.out, fun i hi B hB j hj => ?_, O0.out.lower (by omega), Below.refl _ _⟩
    obtain rfl : i = 0 := by omega
    rw [← HM0A.out] at hB
    rw [htsR_unique hB HH0.out]; exact Int.le_refl _
   case round =>
    rename World => wo
    clear O0 HM0 HT0 HH0 hm036
    obtain ⟨k, la, m, lcap, L, H, hk1, hk, rfl, rfl, hml, hm1, htl, hhl, hbel, hol, bo⟩ := hrel
    have HML := Lib.hid hml; clear hml
    have HTL := Lib.hid htl; clear htl
    have HHL := Lib.hid hhl; clear hhl
    have HBL := Lib.hid hbel; clear hbel
    have OL := Lib.hid hol; clear hol
    have b9 := below_seq b2 bo
    have p9 := heap_later p2 bo
    have A9 := Lib.hid (A2.out.below bo)
    have S9 := Lib.hid (S2.out.below bo)
    have BO := Lib.hid bo; clear bo c0 c1 c2
    obtain ⟨c0, c1, c2⟩ := cells3 p9
    by_cases hlt : k < z
    · have e1 : (k : Int) < z := by omega
      have e0 : (0 : Int) ≤ k := by omega
      have hkr : k < ALL.length := by rw [← HZ.out]; exact hlt
      obtain ⟨b6, o6, a6, cap6, e6, hc6, hx6⟩ := S9.out k hkr
      simp only [Option.some.injEq, Addr.mk.injEq, true_and, and_true] at e6
      obtain ⟨rfl, rfl⟩ := e6
      obtain ⟨m6, hm6⟩ : ∃ m6, m6 = (ALL.getD k []).length := ⟨_, rfl⟩
      have hm61 : m6 ≤ 1048576 := by rw [hm6, (HROW.out k hkr).1]; exact hn'
      rw [← hm6] at hc6
      obtain ⟨M, hM⟩ : ∃ M, M = ALL.getD k [] := ⟨_, rfl⟩
      have htM : tok W T xs M = true := by rw [hM]; exact (HROW.out k hkr).2
      rw [← hM] at hx6 hm6
      obtain ⟨B, hB⟩ := htsR_exist W T xs M
      obtain ⟨Y, K, hy1, hy2, hy3, hy4, hy5, hy6⟩ := fold_step false (HS.out) HTL.out HHL.out htM hB
      obtain ⟨y, hy⟩ : ∃ y, y = Y.length := ⟨_, rfl⟩
      have hy1m : y ≤ 1048576 := by rw [hy, hy4, ← HN.out]; exact hn'
      have HYR : Hid (∀ i, i < k + 1 → ∀ C, HtsR W T xs (ALL.getD i []) C → ∀ j, j < K.length → K.getD j 0 ≤ C.getD j 0) := fun i hi C hC j hj => by
       rw [hy5] at hj
       have h6 := hy6 j hj
       simp only [Bool.false_eq_true, if_false, if_true] at h6
       rcases Nat.lt_or_ge i k with e | e
       · have := HBL.out i e C hC j hj
         omega
       · obtain rfl : i = k := by omega
         rw [← hM] at hC
         rw [htsR_unique hC hB]; omega
      have HX6 := Lib.hid hx6; clear hx6
      have HM6 := Lib.hid hm6; clear hm6
      have HB := Lib.hid hB; clear hB
      have HY1 := Lib.hid hy1; clear hy1
      have HY2 := Lib.hid hy2; clear hy2
      have HY3 := Lib.hid hy3; clear hy3
      have HY := Lib.hid hy; clear hy
      clear hy4 hy5 hy6 hM htM hkr
      have l6 := World.block_lt_of_cell? wo _ hc6
      simp only at l6
      go_upto_region 8 with fail
      go_cut [7] (fun v7 wx => ∃ a7 cap7, v7 = .slice a7 y cap7 ∧ OwnsI wx w.heap.size (.slice a7 y cap7) Y ∧ Below w2.heap.size w2 wx)
      case first =>
       have PD : wo.drew.heap[w.heap.size]? = some _ := p9
       have d6 : wo.drew.cell? ⟨b0, o0 + k, none⟩ = some (.slice a6 m6 cap6) := hc6
       go_region_held3 (fun w' => w'.cell? ⟨w.heap.size, 0, none⟩ = some (.int .i64 W) ∧ w'.cell? ⟨w.heap.size, 1, none⟩ = some (.int .i64 T) ∧ w'.cell? ⟨w.heap.size, 2, none⟩ = some (.slice a n cap) ∧ w'.cell? ⟨b0, o0 + k, none⟩ = some (.slice a6 m6 cap6))
        (go_keep)
        ((go_at_call 24; refine (sTilingLow_ret _ _ _ _ _ xs _ _ _ L _ _ _ M H B _ HN.out hn' HML.out hm1 HM6.out hm61 (show BoolsAt wo.drew _ _ from A9.out) (show IntsAt wo.drew _ _ from OwnsI.at OL.out) (show IntsAt wo.drew _ _ from HX6.out) HHL.out HB.out).mono ?_; rintro e w10 ⟨a10, cap10, rfl, ho10, hb10⟩; rw [HY1.out] at ho10 ⊢; simp only at ho10 ⊢; rw [← HY.out] at ho10 ⊢; have p10 := heap_later PD hb10; have f6 := cell_later hb10 d6; have b10 : Below w2.heap.size w2 w10 := below_seq BO.out (below_seq (drew_below _) hb10); obtain ⟨c100, c101, c102⟩ := cells3 p10))
       all_goals
        go_wp2
        go_meet
        exact ⟨a10, cap10, rfl, ho10.lower (show w.heap.size ≤ wo.drew.heap.size from b9.size), b10⟩
      case rest =>
       rename World => w11
       obtain ⟨a7, cap7, rfl, ho7, b11⟩ := hcut
       have O7 := Lib.hid ho7; clear ho7
       go_wp2
       go_roundw
       case rel => exact ⟨k + 1, a7, y, cap7, Y, K, by omega, by omega, by go_num, rfl, HY.out, hy1m, HY2.out, HY3.out, HYR.out, O7.out, b11⟩
       case measure => simp [intOf]; omega
    · obtain rfl : k = z := by omega
      have hEdge : EdgeR false W T xs L H := ⟨HS.out, HTL.out, HHL.out, fun M B hM hB j hj => by
       obtain ⟨i, hi, e⟩ := HMEM.out M hM
       rw [← e] at hB
       have := HBL.out i (by rw [HZ.out]; exact hi) B hB j hj
       simpa using this⟩
      obtain ⟨rfl, rfl⟩ : L = X ∧ ok = true := by
       rcases HE.out with ⟨e1, H', h'⟩ | ⟨e1, e2, h'⟩
       · exact ⟨(edge_unique hEdge h').1, e1⟩
       · exfalso
         rcases h' with h' | h'
         · have := HS.out; rw [h'] at this; cases this
         · have := h' L; rw [HTL.out] at this; cases this
      clear hEdge
      go_wp2
      go_ret2
      exact ⟨la, lcap, by rw [← HML.out]; rfl, by rw [← HML.out]; exact OL.out, b9⟩

end Go.Proofs.YthpifnjoiklgnaaGreat

namespace Go.Proofs.YthpifnjoiklgnaaGreat
open Go.RowKit
set_option linter.unusedVariables false
set_option maxRecDepth 100000
set_option linter.unusedSimpArgs false

set_option maxHeartbeats 8000000 in
theorem promLowest_walk (cb : Option Addr) (n cap : Nat) (zs : List Int) (w : World) (hn : n = zs.length) (hn' : n ≤ maxLen) (hcap : n ≤ cap) (hb : BytesAt w cb zs) :
 Calls Tryz.prog 3 #[.slice cb n cap] w fun e w' => e = .returned (.bool true) ∧ Below w.heap.size w w' := by
 have HN := Lib.hid hn; clear hn
 have HB := Lib.hid hb; clear hb
 by_cases hbig : 1048576 < n
 · unfold maxLen at hn'
   go_enter Tryz.func3, Tryz.ntmps3
   go_wp2
   go_ret
   exact ⟨rfl, Below.refl _ _⟩
 have hsm : n ≤ 1048576 := by omega
 clear hbig hn'
 go_enter Tryz.func3, Tryz.ntmps3
 go_wp2_with fail
 refine (drawLowest_any _ _ _ zs _ HN.out hsm hcap HB.out).mono ?_; rintro e w1 ⟨W0, T0, a, m, c, xs, rfl, hm, h36, hs, ho, b1⟩
 have HM := Lib.hid hm; clear hm
 have A1 := Lib.hid (OwnsB.at ho); clear ho
 obtain ⟨s0, s1, s2, s3⟩ := hs
 obtain ⟨X, ok, hE⟩ := lowRes_exist false W0 T0 xs
 have hxl := hE.len
 obtain ⟨x, hx⟩ : ∃ x, x = X.length := ⟨_, rfl⟩
 rw [← hx, ← HM.out] at hxl
 have HE := Lib.hid hE; clear hE
 have HX := Lib.hid hx; clear hx
 have hbb : (ok != ok) = false := by simp
 go_wp2_with fail
 refine (iLowest_ret _ _ _ _ _ xs X ok _ HM.out (by omega) HE.out (A1.out.one _)).mono ?_; rintro e w2 ⟨a2, cap2, rfl, ho2, hb2⟩
 rw [← HX.out] at ho2 ⊢
 have b2 := below_seq (below_seq b1 (below1 _ _)) hb2
 have pr2 := heap_later (heap_new w1 (.cells #[.int .i64 W0, .int .i64 T0, .slice a m c] 25)) hb2
 have A2 := Lib.hid ((A1.out.one (.cells #[.int .i64 W0, .int .i64 T0, .slice a m c] 25)).below hb2)
 have X2 := Lib.hid (OwnsI.at ho2)
 obtain ⟨cr20, cr21, cr22⟩ := cells3 pr2
 have lr2 := heap_lt pr2
 clear ho2
 go_wp2_with fail
 refine (sLowest_ret _ _ _ _ _ xs X ok _ HM.out (by omega) HE.out A2.out).mono ?_; rintro e w3 ⟨a3, cap3, rfl, ho3, hb3⟩
 rw [← HX.out] at ho3 ⊢
 have b3 := below_seq b2 hb3
 have pr3 := heap_later pr2 hb3
 have A3 := Lib.hid (A2.out.below hb3)
 have X3 := Lib.hid (X2.out.below hb3)
 have Y3 := Lib.hid (OwnsI.at ho3)
 clear cr20 cr21 cr22 lr2
 obtain ⟨cr30, cr31, cr32⟩ := cells3 pr3
 have lr3 := heap_lt pr3
 clear ho3
 go_wp2_with fail
 refine (sameInts_same _ _ _ _ _ X _ HX.out (by omega) X3.out Y3.out).mono ?_; rintro e w4 ⟨rfl, hb4⟩
 have b4 := below_seq b3 hb4
 have pr4 := heap_later pr3 hb4
 have A4 := Lib.hid (A3.out.below hb4)
 have X4 := Lib.hid (X3.out.below hb4)
 have Y4 := Lib.hid (Y3.out.below hb4)
 clear cr30 cr31 cr32 lr3
 obtain ⟨cr40, cr41, cr42⟩ := cells3 pr4
 have lr4 := heap_lt pr4
 rcases HE.out with ⟨rfl, H, hE⟩ | ⟨rfl, rfl, hno⟩
 · obtain ⟨hs, ht, hH, _⟩ := id hE
   have hrv := (lok_rv (tok_lok1 ht)).1
   have hD : tilT W0 T0 xs = (dpT W0 T0 xs : Int) := by unfold tilT; rw [if_pos hrv]
   have hD1 := dp_pos ht
   have hD2 := dpT_le (W := W0) (T := T0) (xs := xs) (by rw [← HM.out]; omega)
   have hrank := fun k hk => edge_rank false hE (k := k) hk
   obtain ⟨D, hDD⟩ : ∃ D, dpT W0 T0 xs = D := ⟨_, rfl⟩
   rw [hDD] at hD hD1 hD2 hrank
   have HRK := Lib.hid hrank; clear hrank
   have HD := Lib.hid hD; clear hD
   have HDD := Lib.hid hDD; clear hDD
   have HHE := Lib.hid hE; clear hE
   have HT := Lib.hid ht; clear ht
   have HH := Lib.hid hH; clear hH
   have HS := Lib.hid hs; clear hs hrv
   have hdiv : (D : Int).tdiv 20 = ((D / 20 : Nat) : Int) := by rw [Int.tdiv_eq_ediv_of_nonneg (by omega)]; rfl
   have hdiv2 : (D : Int) / 20 = ((D / 20 : Nat) : Int) := rfl
   obtain ⟨d20, hd20⟩ : ∃ d20, D / 20 = d20 := ⟨_, rfl⟩
   have hd20b : d20 ≤ D := by rw [← hd20]; exact Nat.div_le_self _ _
   rw [hd20] at hdiv hdiv2
   have hwd : IntKind.i64.wrap (d20 : Int) = d20 := IntWalk.i64_in _ (by omega)
   clear hd20
   go_wp2_with fail
   refine (iTilingsMany_any _ _ _ _ _ xs _ HM.out (by omega) A4.out).mono ?_; rintro e w5 ⟨rfl, hb5⟩
   rw [HD.out]
   have b5 := below_seq b4 hb5
   have pr5 := heap_later pr4 hb5
   have A5 := Lib.hid (A4.out.below hb5)
   have X5 := Lib.hid (X4.out.below hb5)
   clear cr40 cr41 cr42 lr4
   obtain ⟨cr50, cr51, cr52⟩ := cells3 pr5
   have lr5 := heap_lt pr5
   go_wp2
   go_loopw [9] (fun i wr => ∃ k : Nat, k ≤ 300000000000 ∧ i = .int .i64 k ∧ Below w5.heap.size w5 wr) (fun i _ => D - (intOf i).toNat)
   case atStart => exact ⟨0, Nat.zero_le _, rfl, Below.refl _ _⟩
   case round =>
    rename World => wo
    obtain ⟨k, hk, rfl, bo⟩ := hrel
    have b9 := below_seq b5 bo
    have pr9 := heap_later pr5 bo
    have A9 := Lib.hid (A5.out.below bo)
    have X9 := Lib.hid (X5.out.below bo)
    have BO := Lib.hid bo; clear bo cr50 cr51 cr52 lr5
    obtain ⟨cr90, cr91, cr92⟩ := cells3 pr9
    have lr9 := heap_lt pr9
    by_cases hlt : k < D
    · have e1 : (k : Int) < D := by omega
      have e0 : (0 : Int) ≤ k := by omega
      obtain ⟨C, B, hC1, hC2, hC3, hC4⟩ := HRK.out k hlt
      simp only [Bool.false_eq_true, if_false, if_true] at hC4
      obtain ⟨cn, hcn⟩ : ∃ cn, cn = C.length := ⟨_, rfl⟩
      rw [← hcn, ← HM.out] at hC3
      have hcn36 : cn ≤ 36 := by omega
      clear hC3
      have HC1 := Lib.hid hC1; clear hC1
      have HC2 := Lib.hid hC2; clear hC2
      have HC4 := Lib.hid hC4; clear hC4
      have HCN := Lib.hid hcn; clear hcn
      have hw1 : IntKind.i64.wrap ((k : Int) + 1) = (k : Int) + 1 := IntWalk.i64_in _ (by omega)
      have hw2 : IntKind.i64.wrap ((k : Int) + 1 + d20) = (k : Int) + 1 + d20 := IntWalk.i64_in _ (by omega)
      go_wp2_with fail
      refine (iTilingOf_ret _ _ _ _ _ xs (k : Int) _ HM.out (by omega) A9.out).mono ?_; rintro e w10 ⟨a10, cap10, rfl, ho10, hb10⟩
      rw [HC1.out] at ho10 ⊢
      simp only at ho10 ⊢
      rw [← HCN.out] at ho10 ⊢
      have b10 := below_seq b9 hb10
      have pr10 := heap_later pr9 hb10
      have A10 := Lib.hid (A9.out.below hb10)
      have X10 := Lib.hid (X9.out.below hb10)
      have C10 := Lib.hid (OwnsI.at ho10)
      clear cr90 cr91 cr92 lr9
      obtain ⟨cr100, cr101, cr102⟩ := cells3 pr10
      have lr10 := heap_lt pr10
      clear ho10
      go_wp2_with fail
      refine (iBelow_ret _ _ _ _ _ xs _ _ _ X _ _ _ C H B _ HM.out (by omega) HX.out (by omega) HCN.out (by omega) A10.out X10.out C10.out HH.out HC2.out).mono ?_; rintro e w11 ⟨rfl, hb11⟩
      rw [HC4.out]
      have b11 := below_seq b10 hb11
      have pr11 := heap_later pr10 hb11
      have A11 := Lib.hid (A10.out.below hb11)
      have X11 := Lib.hid (X10.out.below hb11)
      have C11 := Lib.hid (C10.out.below hb11)
      clear cr100 cr101 cr102 lr10
      obtain ⟨cr110, cr111, cr112⟩ := cells3 pr11
      have lr11 := heap_lt pr11
      have BO11 := Lib.hid (below_seq BO.out (below_seq hb10 hb11))
      go_wp2
      go_roundw
      case rel => exact ⟨k + 1 + d20, by omega, by go_num, BO11.out⟩
      case measure => simp [intOf]; omega
    · skip
      go_wp2_with fail
      refine (iTilingOk_any _ _ _ _ _ xs _ _ _ X _ HM.out (by omega) HX.out (by omega) A9.out X9.out).mono ?_; rintro e w10 ⟨rfl, hb10⟩
      rw [HT.out]
      have b10 := below_seq b9 hb10
      have pr10 := heap_later pr9 hb10
      have A10 := Lib.hid (A9.out.below hb10)
      have X10 := Lib.hid (X9.out.below hb10)
      clear cr90 cr91 cr92 lr9
      obtain ⟨cr100, cr101, cr102⟩ := cells3 pr10
      have lr10 := heap_lt pr10
      go_wp2
      go_ret
      exact ⟨rfl, b10⟩
 · have hx0 : x = 0 := HX.out
   subst hx0
   obtain ⟨S, hS⟩ : ∃ S, simpleB W0 T0 xs = S := ⟨_, rfl⟩
   have HS := Lib.hid hS; clear hS
   have HNO := Lib.hid hno; clear hno
   go_wp2_with fail
   refine (iSimple_any _ _ _ _ _ xs _ HM.out (by omega) A4.out).mono ?_; rintro e w5 ⟨rfl, hb5⟩
   rw [HS.out]
   have b5 := below_seq b4 hb5
   have pr5 := heap_later pr4 hb5
   have A5 := Lib.hid (A4.out.below hb5)
   have X5 := Lib.hid (X4.out.below hb5)
   clear cr40 cr41 cr42 lr4
   obtain ⟨cr50, cr51, cr52⟩ := cells3 pr5
   have lr5 := heap_lt pr5
   cases S
   · skip
     go_wp2_with fail
     refine (alive_any _).mono ?_; rintro e w6 ⟨rfl, hb6⟩
     go_wp2
     go_ret
     exact ⟨rfl, below_seq b5 hb6⟩
   · have hz : tilT W0 T0 xs = 0 := by
      refine low_none (simpleB_rv HS.out) ?_
      rcases HNO.out with h | h
      · rw [HS.out] at h; cases h
      · exact h
     have HZ := Lib.hid hz; clear hz
     go_wp2_with fail
     refine (iTilingsMany_any _ _ _ _ _ xs _ HM.out (by omega) A5.out).mono ?_; rintro e w6 ⟨rfl, hb6⟩
     rw [HZ.out]
     have b6 := below_seq b5 hb6
     have pr6 := heap_later pr5 hb6
     have A6 := Lib.hid (A5.out.below hb6)
     have X6 := Lib.hid (X5.out.below hb6)
     clear cr50 cr51 cr52 lr5
     obtain ⟨cr60, cr61, cr62⟩ := cells3 pr6
     have lr6 := heap_lt pr6
     go_wp2_with fail
     refine (alive_any _).mono ?_; rintro e w7 ⟨rfl, hb7⟩
     go_wp2
     go_ret
     exact ⟨rfl, below_seq b6 hb7⟩

end Go.Proofs.YthpifnjoiklgnaaGreat
