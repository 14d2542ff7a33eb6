/- Contracts of spec.Complete and spec.TilingFirst. -/
import Derived.Test.YthjocjiiihebbaaComp
import Derived.Test.YthjocjiiihebbaaCloneI
import Derived.Test.YthjocjiiihebbaaSetS
import Derived.Test.YthjocjiiihebbaaTill
namespace Go.Proofs.Ythjocjiiihebbaa
open Go.RowKit
set_option linter.unusedVariables false
set_option maxRecDepth 100000
set_option linter.unusedSimpArgs false

def compF (W T : Int) (xs : List Bool) (L : List Int) : List Int × Bool := if lok W T xs L then compL W T xs (xs.length + 1) L else ([], false)
theorem compF_len (W T : Int) (xs : List Bool) (L : List Int) : (compF W T xs L).1.length ≤ L.length := by
  unfold compF; split
  · exact compL_len _ _ _ _ _
  · simp

set_option maxHeartbeats 4000000 in
theorem sComplete_ret (W T : Int) (a : Option Addr) (n cap : Nat) (xs : List Bool) (la : Option Addr) (m lcap : Nat) (L : List Int) (w : World) (hn : n = xs.length) (hn' : n ≤ 1048576) (hm : m = L.length) (hm' : m ≤ 1048576) (ha : BoolsAt w a xs) (hl : IntsAt w la L) :
    Calls Try.prog 113 #[.agg #[.int .i64 W, .int .i64 T, .slice a n cap], .slice la m lcap] w (RetLT w (compF W T xs L).1.length (compF W T xs L).1 (compF W T xs L).2) := by
  have HN := Lib.hid hn; clear hn
  have HM := Lib.hid hm; clear hm
  have HA := Lib.hid ha; clear ha
  have HL := Lib.hid hl; clear hl
  cases h : lok W T xs L
  · have e : compF W T xs L = ([], false) := by unfold compF; rw [h]; rfl
    rw [e]
    have H := Lib.hid h; clear h e
    go_enter Try.func113, Try.ntmps113
    go_wp2_with fail
    refine (sLaidOk_any _ _ _ _ _ xs _ _ _ L _ HN.out hn' HM.out hm' (HA.out.one _) (HL.out.one _)).mono ?_; rintro e w1 ⟨rfl, hb1⟩
    have b1 := below_seq (below1 w _) hb1
    rw [H.out]
    go_wp2
    go_ret2
    exact ⟨some ⟨w1.heap.size, 0, none⟩, 0, rfl, World.ownsRow_made w1 #[] 0 b1.size (Nat.zero_le _) rfl, below_seq b1 (below1 _ _)⟩
  · obtain ⟨h1, h2, h3⟩ := lok_rv h
    have hle : m = n := by rw [HM.out, HN.out]; exact h2
    subst hle
    obtain ⟨v1, v2, v3, v4, v5, _⟩ := rv_true h1
    have HV : Hid ((m : Int) = W * T) := by show (m : Int) = W * T; rw [HN.out]; exact v5
    have hpos := rv_pos v1 v3 HV.out
    have e : compF W T xs L = compL W T xs (m + 1) L := by unfold compF; rw [h, HN.out]; rfl
    rw [e]
    clear h2 h3 v5 e h1
    have H := Lib.hid h; clear h
    obtain ⟨i0, hi, hz0, hz1, hz2⟩ := info_parts infoInt
    obtain ⟨lb, lo, rfl, -⟩ := HL.out 0 (by rw [← HM.out]; exact hpos)
    have hfr : freeN xs L < m + 1 := by have := freeN_le xs L; have := HN.out; omega
    have HFR := Lib.hid hfr; clear hfr
    go_enter Try.func113, Try.ntmps113
    go_wp2_with fail
    refine (sLaidOk_any _ _ _ _ _ xs _ _ _ L _ HN.out hn' HM.out hm' (HA.out.one _) (HL.out.one _)).mono ?_; rintro e w1 ⟨rfl, hb1⟩
    have p1 := heap_later (heap_new w (.cells #[.int .i64 W, .int .i64 T, .slice a m cap] 35)) hb1
    have b1 := below_seq (below1 w _) hb1
    have z1 := b1.size
    have zl := heap_lt p1
    rw [H.out]
    clear hb1
    obtain ⟨c0, c1, c2⟩ := cells3 p1
    go_wp2
    have HSD := Lib.hid (show (fun w' : World => w'.cell? ⟨w.heap.size, 0, none⟩ = some (.int .i64 W) ∧ w'.cell? ⟨w.heap.size, 1, none⟩ = some (.int .i64 T) ∧ w'.cell? ⟨w.heap.size, 2, none⟩ = some (.slice a m cap)) w1.drew from ⟨c0, c1, c2⟩)
    refine cut_region (fun a0 aa w' => ∃ (v11 v12 v13 v14 v15 v16 v17 : Value) (a6 : Option Addr) (cap6 : Nat), aa = (((((((((a0.put (some 11) v11).put (some 12) v12).put (some 13) v13).put (some 14) v14).put (some 15) v15).put (some 16) v16).put (some 17) v17).put (some 4) (.slice a6 (compL W T xs (m + 1) L).1.length cap6)).put (some 5) (.bool (compL W T xs (m + 1) L).2)) ∧ OwnsI w' w.heap.size (.slice a6 (compL W T xs (m + 1) L).1.length cap6) (compL W T xs (m + 1) L).1 ∧ Below w.heap.size w w') ?_ ?_
    · refine wp_region_till (fun w' : World => w'.cell? ⟨w.heap.size, 0, none⟩ = some (.int .i64 W) ∧ w'.cell? ⟨w.heap.size, 1, none⟩ = some (.int .i64 T) ∧ w'.cell? ⟨w.heap.size, 2, none⟩ = some (.slice a m cap)) 8 (by kernel_rfl) ?_
      refine Till.take (i := 0) (v := ?_) rfl (by kernel_rfl) (by kernel_rfl) (by kernel_rfl) (by kernel_rfl) (fun _ _ _ h => nomatch h.1) (Or.inl ⟨by kernel_rfl, ?_⟩) HSD.out ?_
      rotate_left
      · intro ws hsw
        obtain ⟨s1, s2, s3⟩ := hsw
        go_simp
        try with_reducible rfl
      try simp only [Act.put, List.setIfInBounds_toArray, List.set_cons_zero, List.set_cons_succ]
      refine Till.take (i := 2) (v := ?_) rfl (by kernel_rfl) (by kernel_rfl) (by kernel_rfl) (by kernel_rfl) (fun _ _ _ h => nomatch h.1) (Or.inl ⟨by kernel_rfl, ?_⟩) HSD.out ?_
      rotate_left
      · intro ws hsw
        obtain ⟨s1, s2, s3⟩ := hsw
        go_simp
        try with_reducible rfl
      try simp only [Act.put, List.setIfInBounds_toArray, List.set_cons_zero, List.set_cons_succ]
      refine Till.one (i := 1) (by kernel_rfl) rfl (by rfl) (fun K hK => ?_)
      go_simp
      have WNA := Lib.hid (show Below w1.heap.size w1 (w1.alloc (.cells #[] 3)).drew from below_seq (below1 _ _) (drew_below _))
      refine hK.out _ _ (fun _ => ⟨cell_later WNA.out c0, cell_later WNA.out c1, cell_later WNA.out c2⟩) ?_
      clear hK K
      have HL1 := Lib.hid ((HL.out.below b1).below WNA.out)
      refine Till.one (i := 3) (by kernel_rfl) rfl (by rfl) (fun K hK => ?_)
      refine step_append_lies _ rfl _ _ 32 rfl (w.heap.size + 1) 3 i0 (.int .i64 0) 1 8 Try.underlying32 hi hz0 hz1 hz2 rfl (by decide) _ 0 [] rfl (show World.ownsRow (World.drew (w1.alloc _)) _ _ _ _ _ _ from World.ownsRow_made w1 #[] 0 (by omega) (Nat.zero_le _) rfl) ⟨lb, lo, none⟩ m lcap (L.map (Value.int .i64)) rfl (by rw [List.length_map, ← HM.out]; omega) (ints_news HL1.out) (ints_one L) hpos (by unfold maxLen; omega) (by omega) (by simp; omega) (w1.heap.size + 1) (by simp) ?_
      intro g' c' w5 hown' hgrow hor glt
      have p5 := heap_grown (heap_later p1 WNA.out) hgrow (ne_own (show w1.heap.size ≠ w.heap.size by omega))
      have B5 := Lib.hid (below_grown (below_seq b1 WNA.out) hgrow (Nat.le_refl _) (fun k e => by have e' : w1.heap.size = k := Option.some.inj e; omega))
      have O5 : Hid (OwnsI w5 (w.heap.size + 1) (.slice (some ⟨g', 0, none⟩) m c') L) := by have h := OwnsI.ofRow (xs := L) hown' (by simp) (by rw [← HM.out]; simp); rwa [Nat.zero_add] at h
      have S5 : (fun w' : World => w'.cell? ⟨w.heap.size, 0, none⟩ = some (.int .i64 W) ∧ w'.cell? ⟨w.heap.size, 1, none⟩ = some (.int .i64 T) ∧ w'.cell? ⟨w.heap.size, 2, none⟩ = some (.slice a m cap)) w5 := ⟨(cells3 p5).1, (cells3 p5).2.1, (cells3 p5).2.2⟩
      have z5 := heap_lt p5
      clear hown' hgrow
      refine hK.out _ _ (fun _ => S5) ?_
      clear hK K
      try simp only [Nat.zero_add]
      refine Till.one (i := 4) (by kernel_rfl) rfl (by rfl) (fun K hK => ?_)
      go_simp
      refine (l2Complete_ret W T xs (m + 1) _ _ _ _ _ L (w.heap.size + 1) _ HN.out hn' HM.out HFR.out (HA.out.below B5.out) O5.out (by omega)).mono ?_; rintro e w6 ⟨a6, cap6, rfl, ho6, hb6⟩
      have p6 := heap_later p5 hb6
      have S6 : (fun w' : World => w'.cell? ⟨w.heap.size, 0, none⟩ = some (.int .i64 W) ∧ w'.cell? ⟨w.heap.size, 1, none⟩ = some (.int .i64 T) ∧ w'.cell? ⟨w.heap.size, 2, none⟩ = some (.slice a m cap)) w6 := ⟨(cells3 p6).1, (cells3 p6).2.1, (cells3 p6).2.2⟩
      have B6 := Lib.hid (below_seq B5.out hb6)
      have O6 := Lib.hid (ho6.lower (show w.heap.size ≤ _ by omega))
      clear ho6 hb6
      refine hK.out _ _ (fun _ => S6) ?_
      clear hK K
      try simp only [Act.put, List.setIfInBounds_toArray, List.set_cons_zero, List.set_cons_succ]
      refine Till.take (i := 5) (v := ?_) rfl (by kernel_rfl) (by kernel_rfl) (by kernel_rfl) (by kernel_rfl) (fun _ _ _ h => nomatch h.1) (Or.inl ⟨by kernel_rfl, ?_⟩) S6 ?_
      rotate_left
      · intro ws hsw
        obtain ⟨s1, s2, s3⟩ := hsw
        go_simp
        try with_reducible rfl
      try simp only [Act.put, List.setIfInBounds_toArray, List.set_cons_zero, List.set_cons_succ]
      refine Till.take (i := 6) (v := ?_) rfl (by kernel_rfl) (by kernel_rfl) (by kernel_rfl) (by kernel_rfl) (fun _ _ _ h => nomatch h.1) (Or.inl ⟨by kernel_rfl, ?_⟩) S6 ?_
      rotate_left
      · intro ws hsw
        obtain ⟨s1, s2, s3⟩ := hsw
        go_simp
        try with_reducible rfl
      try simp only [Act.put, List.setIfInBounds_toArray, List.set_cons_zero, List.set_cons_succ]
      refine Till.take (i := 7) (v := ?_) rfl (by kernel_rfl) (by kernel_rfl) (by kernel_rfl) (by kernel_rfl) (fun _ _ _ h => nomatch h.1) (Or.inl ⟨by kernel_rfl, ?_⟩) S6 ?_
      rotate_left
      · intro ws hsw
        obtain ⟨s1, s2, s3⟩ := hsw
        go_simp
        try with_reducible rfl
      try simp only [Act.put, List.setIfInBounds_toArray, List.set_cons_zero, List.set_cons_succ]
      refine Till.one (i := 8) (by kernel_rfl) rfl (by rfl) (fun K hK => ?_)
      go_simp
      refine hK.out _ _ (fun h => absurd rfl h) ?_
      clear hK K
      exact Till.done (by kernel_rfl) ⟨rfl, _, _, _, _, _, _, _, a6, cap6, rfl, O6.out, B6.out⟩ _
    · rintro a' w6 ⟨v11, v12, v13, v14, v15, v16, v17, a6, cap6, rfl, O6, B6⟩
      go_wp2
      go_ret2
      exact ⟨a6, cap6, rfl, O6, B6⟩

def firstF (W T : Int) (xs : List Bool) : List Int × Bool := compF W T xs (bareL W T xs)
theorem firstF_len (W T : Int) (xs : List Bool) : (firstF W T xs).1.length ≤ xs.length := by
  refine Nat.le_trans (compF_len _ _ _ _) ?_
  unfold bareL; split <;> simp

set_option maxHeartbeats 2000000 in
theorem sTilingFirst_ret (W T : Int) (a : Option Addr) (n cap : Nat) (xs : List Bool) (w : World) (hn : n = xs.length) (hn' : n ≤ 1048576) (ha : BoolsAt w a xs) :
    Calls Try.prog 111 #[.agg #[.int .i64 W, .int .i64 T, .slice a n cap]] w (RetLT w (firstF W T xs).1.length (firstF W T xs).1 (firstF W T xs).2) := by
  have HN := Lib.hid hn; clear hn
  have HA := Lib.hid ha; clear ha
  have hbl := bareL_len W T xs
  rw [← HN.out] at hbl
  have p1 := heap_new w (.cells #[.int .i64 W, .int .i64 T, .slice a n cap] 35)
  have zl := heap_lt p1
  obtain ⟨w1, hw1⟩ : ∃ w1, w1 = w.alloc (.cells #[.int .i64 W, .int .i64 T, .slice a n cap] 35) := ⟨_, rfl⟩
  have b1 : Hid (Below w.heap.size w w1) := by rw [hw1]; exact below1 _ _
  rw [← hw1] at p1
  have A1 : Hid (BoolsAt w1 a xs) := HA.out.below b1.out
  obtain ⟨c0, c1, c2⟩ := cells3 p1
  go_enter Try.func111, Try.ntmps111
  go_wp2
  rw [← hw1]
  clear hw1 zl
  go_region_held3 (fun w' : World => w'.cell? ⟨w.heap.size, 0, none⟩ = some (.int .i64 W) ∧ w'.cell? ⟨w.heap.size, 1, none⟩ = some (.int .i64 T) ∧ w'.cell? ⟨w.heap.size, 2, none⟩ = some (.slice a n cap))
    (go_keep)
    (first
      | (go_at_call 113; refine (sComplete_ret _ _ _ _ _ xs _ _ _ (bareL W T xs) _ HN.out hn' rfl (by omega) (A1.out.below b3) (OwnsI.at ho3)).mono ?_; rintro e w4 ⟨a4, cap4, rfl, ho4, hb4⟩; have p4 := heap_later p3 hb4; obtain ⟨c40, c41, c42⟩ := cells3 p4)
      | (go_at_call 110; refine (sLaidBare_ret _ _ _ _ _ xs _ HN.out hn' (show BoolsAt w1.drew _ _ from A1.out)).mono ?_; rintro e w3 ⟨a3, cap3, rfl, ho3, hb3⟩; have p3 := heap_later (show w1.drew.heap[w.heap.size]? = some _ from p1) hb3; have b3 : Below w1.heap.size w1 w3 := below_seq (drew_below _) hb3; obtain ⟨c30, c31, c32⟩ := cells3 p3))
  go_wp2
  go_ret2
  exact ⟨a4, cap4, rfl, ho4.lower (by have := b1.out.size; have := b3.size; omega), below_seq b1.out (below_seq b3 hb4)⟩
end Go.Proofs.Ythjocjiiihebbaa
