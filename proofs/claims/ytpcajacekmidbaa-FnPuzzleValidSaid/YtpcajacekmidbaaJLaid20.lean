/- Contract of spec.l20Tiled: a region that is tiled is drawn. Merged of: Tiled, Some, Laid20. -/
import Derived.Test.YtpcajacekmidbaaJDrawR
import Derived.Test.YtpcajacekmidbaaJSetS
namespace Go.Proofs.Ytpcajacekmidbaa
open Go.RowKit
set_option linter.unusedVariables false
set_option maxRecDepth 100000
set_option linter.unusedSimpArgs false

def DrawnT (rb P : Nat) (w : World) (e : Ending) (w' : World) : Prop :=
  ∃ (W T : Int) (a : Option Addr) (n cap : Nat) (xs : List Bool), e = .returned (.agg #[.int .i64 W, .int .i64 T, .slice a n cap]) ∧ n = xs.length ∧ n ≤ 36 ∧ (0 ≤ W ∧ W ≤ 6 ∧ 0 ≤ T ∧ T ≤ 6) ∧ OwnsB w' w.heap.size (.slice a n cap) xs ∧ RD w' rb (P + 200) ∧ w.grownBy w' (some rb)

theorem IntsAt.far {w0 w : World} {a : Option Addr} {xs : List Int} (h : IntsAt w a xs) (h0 : IntsAt w0 a xs) {g i : Nat} (hg : w0.heap.size ≤ g) (u : Value) : IntsAt (w.setCell ⟨g, i, none⟩ u) a xs := by
  intro j hj
  obtain ⟨b, off, rfl, hc⟩ := h j hj
  obtain ⟨b', off', he, hc'⟩ := h0 j hj
  simp only [Option.some.injEq, Addr.mk.injEq, and_true] at he
  obtain ⟨rfl, rfl⟩ := he
  have hb' := World.block_lt_of_cell? w0 _ hc'
  simp only at hb'
  exact ⟨b, off, rfl, (World.cell?_setCell_other _ _ _ _ (by intro e; simp only [Addr.mk.injEq] at e; omega)).trans hc⟩
theorem layF_ok {W T : Int} {xs : List Bool} {M : List Int} {k way : Int} (h : (layF W T xs M k way).2 = true) : (layF W T xs M k way).1.length = M.length := by
  unfold layF at h ⊢
  split
  · exact laidL_len W T xs M k way
  · rename_i hl
    rw [if_neg hl] at h
    cases h

set_option maxHeartbeats 4000000 in
theorem l20Tiled_any (rb P : Nat) (n : Int) (w : World) (hn0 : 0 ≤ n) (hn1 : n ≤ 1000) (hP : P ≤ 10000) (h : RD w rb P) :
    Calls Try.prog 165 #[.pointer (some ⟨rb, 0, none⟩), .int .i64 n] w (DrawnT rb P w) := by
  have lr := h.lt
  have H := Lib.hid h; clear h
  go_enter Try.func165, Try.ntmps165
  go_wp2_with fail
  refine (l20Region_any rb P n _ hn0 hn1 hP (H.out.below (below1 _ _))).mono ?_; rintro e w1 ⟨W, T, a, m, c, xs, rfl, hm, h36, hs, o1, r1, g1⟩
  have q1 := heap_grown (heap_new w (.cells #[.int .i64 0, .int .i64 0, .slice none 0 0] 25)) g1 (by simp; omega)
  have G1 := Lib.hid (grown_seq' (World.grownBy_alloc w _ _) g1)
  have lq := heap_lt q1
  have HM := Lib.hid hm; clear hm
  obtain ⟨wB, hwB⟩ : ∃ wB, wB = w1.alloc (.cells #[.int .i64 W, .int .i64 T, .slice a m c] 25) := ⟨_, rfl⟩
  have pB : wB.heap[w1.heap.size]? = some (.cells #[.int .i64 W, .int .i64 T, .slice a m c] 25 (0, 0)) := by rw [hwB]; exact heap_new _ _
  have qB := heap_later q1 (below1 w1 (.cells #[.int .i64 W, .int .i64 T, .slice a m c] 25))
  have OB := Lib.hid (OwnsB.alloc (o1.lower (show w.heap.size + 1 ≤ _ by simp)) (.cells #[.int .i64 W, .int .i64 T, .slice a m c] 25))
  have RB := Lib.hid (r1.below (below1 w1 (.cells #[.int .i64 W, .int .i64 T, .slice a m c] 25)))
  have GB := Lib.hid (grown_seq' G1.out (World.grownBy_alloc w1 (.cells #[.int .i64 W, .int .i64 T, .slice a m c] 25) (some rb)))
  rw [← hwB] at qB OB RB GB
  obtain ⟨c0, c1, c2⟩ := cells3 pB
  clear o1 r1 g1 q1 G1
  go_wp2_with fail
  rw [← hwB]
  have zB : w1.heap.size + 1 = wB.heap.size := by rw [hwB]; simp
  clear hwB
  refine (sRegionValid_any _ _ _ _ _ xs _ HM.out (by omega) (OwnsB.at OB.out)).mono ?_; rintro e w2 ⟨rfl, hb2⟩
  have p2 := heap_later pB hb2
  have q2 := heap_later qB hb2
  have O2 := Lib.hid (OB.out.below hb2)
  have R2 := Lib.hid (RB.out.below hb2)
  have G2 := Lib.hid (grown_seq' GB.out (grown_of_below' hb2 (some rb)))
  have z2 := hb2.size
  clear c0 c1 c2 pB qB OB RB GB hb2
  obtain ⟨c0, c1, c2⟩ := cells3 p2
  obtain ⟨d0, d1, d2⟩ := cells3 q2
  have f0 := free3 q2 0
  have f1 := free3 q2 1
  have f2 := free3 q2 2
  cases hv : rv W T xs
  · go_wp2
    refine bodyPost_ret (v := .agg #[.int .i64 W, .int .i64 T, .slice a m c]) (by simp [results, Try.results165, go_sem, d0, d1, d2]) rfl ?_
    exact ⟨W, T, a, m, c, xs, rfl, HM.out, h36, hs, (O2.out.set3 (by omega) _ _ _).lower (by omega), (((R2.out.setFar lr _).setFar lr _).setFar lr _).mono (by omega), grown_far (grown_far (grown_far G2.out (Nat.le_refl _) _) (Nat.le_refl _) _) (Nat.le_refl _) _⟩
  · have hbr : bareL W T xs = List.replicate m 0 := by unfold bareL; rw [if_pos hv, HM.out]
    have HBL : Hid (m = (List.replicate m (0 : Int)).length) := by show m = _; simp
    go_wp2_with fail
    refine (sLaidBare_ret _ _ _ _ _ xs _ HM.out (by omega) (OwnsB.at O2.out)).mono ?_; rintro e w3 ⟨a3, cap3, rfl, ho3, hb3⟩
    rw [hbr] at ho3 ⊢
    rw [← HBL.out] at ho3 ⊢
    have p3 := heap_later p2 hb3
    have q3 := heap_later q2 hb3
    have O3 := Lib.hid (O2.out.below hb3)
    have R3 := Lib.hid (R2.out.below hb3)
    have G3 := Lib.hid (grown_seq' G2.out (grown_of_below' hb3 (some rb)))
    have M3 := Lib.hid (ho3.lower (show w.heap.size + 1 ≤ _ by omega))
    have z3 := hb3.size
    clear c0 c1 c2 d0 d1 d2 f0 f1 f2 p2 q2 O2 R2 G2 hb3 ho3 hbr
    have lrw : rb < w.heap.size := lr
    go_wp2_with fail
    go_loopw [6, 7] (fun v i wr => ∃ (k : Nat) (M : List Int), k ≤ m ∧ i = .int .i64 k ∧ M.length = m ∧ OwnsI wr (w.heap.size + 1) v M ∧ OwnsB wr (w.heap.size + 1) (.slice a m c) xs ∧ wr.heap[w1.heap.size]? = some (.cells #[.int .i64 W, .int .i64 T, .slice a m c] 25 (0, 0)) ∧
        wr.heap[w.heap.size]? = some (.cells #[.int .i64 0, .int .i64 0, .slice none 0 0] 25 (0, 0)) ∧ RD wr rb (P + 100 + k) ∧ w.grownBy wr (some rb) ∧ w2.heap.size ≤ wr.heap.size) (fun _ i _ => m - (intOf i).toNat)
    case atStart => exact ⟨0, List.replicate m 0, Nat.zero_le _, rfl, HBL.out.symm, M3.out, O3.out, p3, q3, R3.out, G3.out, z3⟩
    case round =>
      rename World => wo
      clear M3 O3 p3 q3 R3 G3
      obtain ⟨k, M, hk, rfl, hMl, hMo, hOo, po, qo, hro, hgo, zo⟩ := hrel
      have HMo := Lib.hid hMo; clear hMo
      have HOo := Lib.hid hOo; clear hOo
      have HRo := Lib.hid hro; clear hro
      have HGo := Lib.hid hgo; clear hgo
      obtain ⟨a6, cap6, hv6⟩ := HMo.out.form2
      rw [hMl] at hv6
      subst hv6
      have HML := Lib.hid hMl; clear hMl
      obtain ⟨c0, c1, c2⟩ := cells3 po
      have lp := heap_lt po
      by_cases hlt : k < m
      · have e1 : (k : Int) < m := by omega
        go_wp2_with fail
        refine cut_region (fun a0 aa w' => ∃ (v32 v33 v34 v35 v36 v37 v38 v39 v40 v31 v41 v42 : Value) (a8 : Option Addr) (n8 cap8 : Nat) (ok : Bool) (Y : List Int), aa = ((((((((((((((a0.put (some 32) v32).put (some 33) v33).put (some 34) v34).put (some 35) v35).put (some 36) v36).put (some 37) v37).put (some 38) v38).put (some 39) v39).put (some 40) v40).put (some 31) v31).put (some 41) v41).put (some 42) v42).put (some 8) (.slice a8 n8 cap8)).put (some 9) (.bool ok)) ∧ (ok = true → n8 = m ∧ Y.length = m) ∧ OwnsI w' (w.heap.size + 1) (.slice a8 n8 cap8) Y ∧ OwnsI w' (w.heap.size + 1) (.slice a6 m cap6) M ∧ OwnsB w' (w.heap.size + 1) (.slice a m c) xs ∧ w'.heap[w1.heap.size]? = some (.cells #[.int .i64 W, .int .i64 T, .slice a m c] 25 (0, 0)) ∧ w'.heap[w.heap.size]? = some (.cells #[.int .i64 0, .int .i64 0, .slice none 0 0] 25 (0, 0)) ∧ RD w' rb (P + 100 + (k + 1)) ∧ w.grownBy w' (some rb) ∧ w2.heap.size ≤ w'.heap.size) ?_ ?_
        · have HSD := Lib.hid (show (fun w' : World => w'.cell? ⟨w1.heap.size, 0, none⟩ = some (.int .i64 W) ∧ w'.cell? ⟨w1.heap.size, 1, none⟩ = some (.int .i64 T) ∧ w'.cell? ⟨w1.heap.size, 2, none⟩ = some (.slice a m c)) wo.drew from ⟨c0, c1, c2⟩)
          refine wp_region_till (fun w' : World => w'.cell? ⟨w1.heap.size, 0, none⟩ = some (.int .i64 W) ∧ w'.cell? ⟨w1.heap.size, 1, none⟩ = some (.int .i64 T) ∧ w'.cell? ⟨w1.heap.size, 2, none⟩ = some (.slice a m c)) 13 (by kernel_rfl) ?_
          refine Till.take (i := 0) (v := ?_) rfl (by kernel_rfl) (by kernel_rfl) (by kernel_rfl) (by kernel_rfl) (fun _ _ _ h => nomatch h.1) (Or.inl ⟨by kernel_rfl, ?_⟩) HSD.out ?_
          rotate_left
          · intro ws hsw
            obtain ⟨s1, s2, s3⟩ := hsw
            go_simp
            try with_reducible rfl
          try simp only [Act.put, List.setIfInBounds_toArray, List.set_cons_zero, List.set_cons_succ]
          refine Till.take (i := 1) (v := ?_) rfl (by kernel_rfl) (by kernel_rfl) (by kernel_rfl) (by kernel_rfl) (fun _ _ _ h => nomatch h.1) (Or.inl ⟨by kernel_rfl, ?_⟩) HSD.out ?_
          rotate_left
          · intro ws hsw
            obtain ⟨s1, s2, s3⟩ := hsw
            go_simp
            try with_reducible rfl
          try simp only [Act.put, List.setIfInBounds_toArray, List.set_cons_zero, List.set_cons_succ]
          refine Till.take (i := 2) (v := ?_) rfl (by kernel_rfl) (by kernel_rfl) (by kernel_rfl) (by kernel_rfl) (fun _ _ _ h => nomatch h.1) (Or.inl ⟨by kernel_rfl, ?_⟩) HSD.out ?_
          rotate_left
          · intro ws hsw
            obtain ⟨s1, s2, s3⟩ := hsw
            go_simp
            try with_reducible rfl
          try simp only [Act.put, List.setIfInBounds_toArray, List.set_cons_zero, List.set_cons_succ]
          refine Till.take (i := 4) (v := ?_) rfl (by kernel_rfl) (by kernel_rfl) (by kernel_rfl) (by kernel_rfl) (fun _ _ _ h => nomatch h.1) (Or.inl ⟨by kernel_rfl, ?_⟩) HSD.out ?_
          rotate_left
          · intro ws hsw
            obtain ⟨s1, s2, s3⟩ := hsw
            go_simp
            try with_reducible rfl
          try simp only [Act.put, List.setIfInBounds_toArray, List.set_cons_zero, List.set_cons_succ]
          refine Till.two (i := 3) (j := 5) (by kernel_rfl) rfl rfl (by rfl) (by rfl) (fun K hK => ?_) (fun K hK => ?_)
          · go_simp
            have WNA := Lib.hid (show Below wo.heap.size wo (wo.alloc (.cells #[.int .i64 1, .int .i64 2, .int .i64 3, .int .i64 4] 3)).drew from below_seq (below1 _ _) (drew_below _))
            refine hK.out _ _ (fun _ => ⟨cell_later WNA.out c0, cell_later WNA.out c1, cell_later WNA.out c2⟩) ?_
            clear hK K
            refine Till.one (i := 5) (by kernel_rfl) rfl (by rfl) (fun K hK => ?_)
            go_simp
            refine (pick_any rb (P + 100 + k) 4 _ (by omega) (by omega) (by omega) (HRo.out.below WNA.out)).mono ?_; rintro e w5 ⟨x, hx, rfl, r5, g5⟩
            have p5 := heap_grown (heap_later po WNA.out) g5 (by intro h; have := Option.some.inj h; omega)
            have q5 := heap_grown (heap_later qo WNA.out) g5 (by intro h; have := Option.some.inj h; omega)
            have O5 := Lib.hid (OwnsB.keptBy (HOo.out.below WNA.out) g5 (fun j e => by have := Option.some.inj e; omega))
            have M5 := Lib.hid (OwnsI.keptBy (HMo.out.below WNA.out) g5 (fun j e => by have := Option.some.inj e; omega))
            have G5 := Lib.hid (grown_seq' (grown_seq' HGo.out (grown_of_below' WNA.out (some rb))) g5)
            have R5 := Lib.hid r5
            have z5 := g5.size
            have zA : wo.heap.size + 1 ≤ w5.heap.size := by have := g5.size; simp at this; omega
            have sl := heap_grown (show (World.drew (wo.alloc (.cells #[.int .i64 1, .int .i64 2, .int .i64 3, .int .i64 4] 3))).heap[wo.heap.size]? = some _ from heap_new wo _) g5 (by intro h; have := Option.some.inj h; omega)
            obtain ⟨v, hcx⟩ : ∃ v : Int, w5.cell? ⟨wo.heap.size, x, none⟩ = some (.int .i64 v) := by
              have hx4 : x = 0 ∨ x = 1 ∨ x = 2 ∨ x = 3 := by omega
              rcases hx4 with rfl | rfl | rfl | rfl
              · exact ⟨1, by simp [World.cell?, sl]⟩
              · exact ⟨2, by simp [World.cell?, sl]⟩
              · exact ⟨3, by simp [World.cell?, sl]⟩
              · exact ⟨4, by simp [World.cell?, sl]⟩
            clear r5 g5 sl
            obtain ⟨u0, u1, u2⟩ := cells3 p5
            refine hK.out _ _ (fun _ => ⟨u0, u1, u2⟩) ?_
            clear hK K
            try simp only [Act.put, List.setIfInBounds_toArray, List.set_cons_zero, List.set_cons_succ]
            have hxi : (x : Int) < 4 := by omega
            refine Till.one (i := 6) (by kernel_rfl) rfl (by rfl) (fun K hK => ?_)
            go_simp
            refine hK.out _ _ (fun _ => ⟨u0, u1, u2⟩) ?_
            clear hK K
            try simp only [Act.put, List.setIfInBounds_toArray, List.set_cons_zero, List.set_cons_succ]
            refine Till.one (i := 7) (by kernel_rfl) rfl (by rfl) (fun K hK => ?_)
            go_simp
            refine hK.out _ _ (fun _ => ⟨u0, u1, u2⟩) ?_
            clear hK K
            try simp only [Act.put, List.setIfInBounds_toArray, List.set_cons_zero, List.set_cons_succ]
            refine Till.one (i := 8) (by kernel_rfl) rfl (by rfl) (fun K hK => ?_)
            go_simp
            refine (sLayOne_ret _ _ _ _ _ xs _ _ _ M _ _ _ HM.out (by omega) HML.out.symm (by omega) (OwnsB.at O5.out) (OwnsI.at M5.out)).mono ?_; rintro e w8 ⟨a8, cap8, rfl, ho8, hb8⟩
            have p8 := heap_later p5 hb8
            have q8 := heap_later q5 hb8
            have O8 := Lib.hid (O5.out.below hb8)
            have M8 := Lib.hid (M5.out.below hb8)
            have R8 := Lib.hid (R5.out.below hb8)
            have G8 := Lib.hid (grown_seq' G5.out (grown_of_below' hb8 (some rb)))
            have Y8 := Lib.hid (OwnsI.lower ho8 (show w.heap.size + 1 ≤ _ by omega))
            have z8 := hb8.size
            clear u0 u1 u2
            obtain ⟨u0, u1, u2⟩ := cells3 p8
            refine hK.out _ _ (fun _ => ⟨u0, u1, u2⟩) ?_
            clear hK K
            try simp only [Act.put, List.setIfInBounds_toArray, List.set_cons_zero, List.set_cons_succ]
            have HSE := Lib.hid (show (fun w' : World => w'.cell? ⟨w1.heap.size, 0, none⟩ = some (.int .i64 W) ∧ w'.cell? ⟨w1.heap.size, 1, none⟩ = some (.int .i64 T) ∧ w'.cell? ⟨w1.heap.size, 2, none⟩ = some (.slice a m c)) w8 from ⟨u0, u1, u2⟩)
            refine Till.take (i := 9) (v := ?_) rfl (by kernel_rfl) (by kernel_rfl) (by kernel_rfl) (by kernel_rfl) (fun _ _ _ h => nomatch h.1) (Or.inl ⟨by kernel_rfl, ?_⟩) HSE.out ?_
            rotate_left
            · intro ws hsw
              obtain ⟨s1, s2, s3⟩ := hsw
              go_simp
              try with_reducible rfl
            try simp only [Act.put, List.setIfInBounds_toArray, List.set_cons_zero, List.set_cons_succ]
            refine Till.take (i := 10) (v := ?_) rfl (by kernel_rfl) (by kernel_rfl) (by kernel_rfl) (by kernel_rfl) (fun _ _ _ h => nomatch h.1) (Or.inl ⟨by kernel_rfl, ?_⟩) HSE.out ?_
            rotate_left
            · intro ws hsw
              obtain ⟨s1, s2, s3⟩ := hsw
              go_simp
              try with_reducible rfl
            try simp only [Act.put, List.setIfInBounds_toArray, List.set_cons_zero, List.set_cons_succ]
            refine Till.take (i := 11) (v := ?_) rfl (by kernel_rfl) (by kernel_rfl) (by kernel_rfl) (by kernel_rfl) (fun _ _ _ h => nomatch h.1) (Or.inl ⟨by kernel_rfl, ?_⟩) HSE.out ?_
            rotate_left
            · intro ws hsw
              obtain ⟨s1, s2, s3⟩ := hsw
              go_simp
              try with_reducible rfl
            try simp only [Act.put, List.setIfInBounds_toArray, List.set_cons_zero, List.set_cons_succ]
            refine Till.take (i := 12) (v := ?_) rfl (by kernel_rfl) (by kernel_rfl) (by kernel_rfl) (by kernel_rfl) (fun _ _ _ h => nomatch h.1) (Or.inl ⟨by kernel_rfl, ?_⟩) HSE.out ?_
            rotate_left
            · intro ws hsw
              obtain ⟨s1, s2, s3⟩ := hsw
              go_simp
              try with_reducible rfl
            try simp only [Act.put, List.setIfInBounds_toArray, List.set_cons_zero, List.set_cons_succ]
            refine Till.one (i := 13) (by kernel_rfl) rfl (by rfl) (fun K hK => ?_)
            go_simp
            refine hK.out _ _ (fun h => absurd rfl h) ?_
            clear hK K
            refine Till.done (by kernel_rfl) ⟨rfl, _, _, _, _, _, _, _, _, _, _, _, _, a8, _, cap8, _, _, rfl, ?_, Y8.out, M8.out, O8.out, p8, q8, R8.out.mono (by omega), G8.out, by omega⟩ _
            intro h
            have := layF_ok h
            exact ⟨this.trans HML.out, this.trans HML.out⟩
          · go_simp
            refine (pick_any rb (P + 100 + k) 4 _ (by omega) (by omega) (by omega) (show RD wo.drew _ _ from HRo.out)).mono ?_; rintro e w4 ⟨x, hx, rfl, r5, g5⟩
            have pp := heap_grown (show wo.drew.heap[w1.heap.size]? = some _ from po) g5 (by intro h; have := Option.some.inj h; omega)
            have qq := heap_grown (show wo.drew.heap[w.heap.size]? = some _ from qo) g5 (by intro h; have := Option.some.inj h; omega)
            have OO := OwnsB.keptBy (show OwnsB wo.drew _ _ _ from HOo.out) g5 (fun j e => by have := Option.some.inj e; omega)
            have MM := OwnsI.keptBy (show OwnsI wo.drew _ _ _ from HMo.out) g5 (fun j e => by have := Option.some.inj e; omega)
            have GG := grown_seq' HGo.out (grown_seq' (grown_drewN wo 1 _) g5)
            have z4 : wo.heap.size ≤ w4.heap.size := g5.size
            obtain ⟨u0, u1, u2⟩ := cells3 pp
            refine hK.out _ _ (fun _ => ⟨u0, u1, u2⟩) ?_
            clear hK K
            try simp only [Act.put, List.setIfInBounds_toArray, List.set_cons_zero, List.set_cons_succ]
            refine Till.one (i := 3) (by kernel_rfl) rfl (by rfl) (fun K hK => ?_)
            go_simp
            obtain ⟨w5, hw5⟩ : ∃ w5, w5 = w4.alloc (.cells #[.int .i64 1, .int .i64 2, .int .i64 3, .int .i64 4] 3) := ⟨_, rfl⟩
            have bb5 : Below w4.heap.size w4 w5 := by rw [hw5]; exact below1 _ _
            have p5 := heap_later pp bb5
            have q5 := heap_later qq bb5
            have O5 := Lib.hid (OO.below bb5)
            have M5 := Lib.hid (MM.below bb5)
            have G5 := Lib.hid (grown_seq' GG (grown_of_below' bb5 (some rb)))
            have R5 := Lib.hid (r5.below bb5)
            have z5 := bb5.size
            have sl : w5.heap[w4.heap.size]? = some (.cells #[.int .i64 1, .int .i64 2, .int .i64 3, .int .i64 4] 3 (0, 0)) := by rw [hw5]; exact heap_new w4 _
            obtain ⟨v, hcx⟩ : ∃ v : Int, w5.cell? ⟨w4.heap.size, x, none⟩ = some (.int .i64 v) := by
              have hx4 : x = 0 ∨ x = 1 ∨ x = 2 ∨ x = 3 := by omega
              rcases hx4 with rfl | rfl | rfl | rfl
              · exact ⟨1, by simp [World.cell?, sl]⟩
              · exact ⟨2, by simp [World.cell?, sl]⟩
              · exact ⟨3, by simp [World.cell?, sl]⟩
              · exact ⟨4, by simp [World.cell?, sl]⟩
            clear r5 g5 sl pp qq OO MM GG u0 u1 u2
            obtain ⟨u0, u1, u2⟩ := cells3 p5
            try rw [← hw5]
            clear hw5
            refine hK.out _ _ (fun _ => ⟨u0, u1, u2⟩) ?_
            clear hK K
            try simp only [Act.put, List.setIfInBounds_toArray, List.set_cons_zero, List.set_cons_succ]
            have hxi : (x : Int) < 4 := by omega
            refine Till.one (i := 6) (by kernel_rfl) rfl (by rfl) (fun K hK => ?_)
            go_simp
            refine hK.out _ _ (fun _ => ⟨u0, u1, u2⟩) ?_
            clear hK K
            try simp only [Act.put, List.setIfInBounds_toArray, List.set_cons_zero, List.set_cons_succ]
            refine Till.one (i := 7) (by kernel_rfl) rfl (by rfl) (fun K hK => ?_)
            go_simp
            refine hK.out _ _ (fun _ => ⟨u0, u1, u2⟩) ?_
            clear hK K
            try simp only [Act.put, List.setIfInBounds_toArray, List.set_cons_zero, List.set_cons_succ]
            refine Till.one (i := 8) (by kernel_rfl) rfl (by rfl) (fun K hK => ?_)
            go_simp
            refine (sLayOne_ret _ _ _ _ _ xs _ _ _ M _ _ _ HM.out (by omega) HML.out.symm (by omega) (OwnsB.at O5.out) (OwnsI.at M5.out)).mono ?_; rintro e w8 ⟨a8, cap8, rfl, ho8, hb8⟩
            have p8 := heap_later p5 hb8
            have q8 := heap_later q5 hb8
            have O8 := Lib.hid (O5.out.below hb8)
            have M8 := Lib.hid (M5.out.below hb8)
            have R8 := Lib.hid (R5.out.below hb8)
            have G8 := Lib.hid (grown_seq' G5.out (grown_of_below' hb8 (some rb)))
            have Y8 := Lib.hid (OwnsI.lower ho8 (show w.heap.size + 1 ≤ _ by omega))
            have z8 := hb8.size
            clear u0 u1 u2
            obtain ⟨u0, u1, u2⟩ := cells3 p8
            refine hK.out _ _ (fun _ => ⟨u0, u1, u2⟩) ?_
            clear hK K
            try simp only [Act.put, List.setIfInBounds_toArray, List.set_cons_zero, List.set_cons_succ]
            have HSE := Lib.hid (show (fun w' : World => w'.cell? ⟨w1.heap.size, 0, none⟩ = some (.int .i64 W) ∧ w'.cell? ⟨w1.heap.size, 1, none⟩ = some (.int .i64 T) ∧ w'.cell? ⟨w1.heap.size, 2, none⟩ = some (.slice a m c)) w8 from ⟨u0, u1, u2⟩)
            refine Till.take (i := 9) (v := ?_) rfl (by kernel_rfl) (by kernel_rfl) (by kernel_rfl) (by kernel_rfl) (fun _ _ _ h => nomatch h.1) (Or.inl ⟨by kernel_rfl, ?_⟩) HSE.out ?_
            rotate_left
            · intro ws hsw
              obtain ⟨s1, s2, s3⟩ := hsw
              go_simp
              try with_reducible rfl
            try simp only [Act.put, List.setIfInBounds_toArray, List.set_cons_zero, List.set_cons_succ]
            refine Till.take (i := 10) (v := ?_) rfl (by kernel_rfl) (by kernel_rfl) (by kernel_rfl) (by kernel_rfl) (fun _ _ _ h => nomatch h.1) (Or.inl ⟨by kernel_rfl, ?_⟩) HSE.out ?_
            rotate_left
            · intro ws hsw
              obtain ⟨s1, s2, s3⟩ := hsw
              go_simp
              try with_reducible rfl
            try simp only [Act.put, List.setIfInBounds_toArray, List.set_cons_zero, List.set_cons_succ]
            refine Till.take (i := 11) (v := ?_) rfl (by kernel_rfl) (by kernel_rfl) (by kernel_rfl) (by kernel_rfl) (fun _ _ _ h => nomatch h.1) (Or.inl ⟨by kernel_rfl, ?_⟩) HSE.out ?_
            rotate_left
            · intro ws hsw
              obtain ⟨s1, s2, s3⟩ := hsw
              go_simp
              try with_reducible rfl
            try simp only [Act.put, List.setIfInBounds_toArray, List.set_cons_zero, List.set_cons_succ]
            refine Till.take (i := 12) (v := ?_) rfl (by kernel_rfl) (by kernel_rfl) (by kernel_rfl) (by kernel_rfl) (fun _ _ _ h => nomatch h.1) (Or.inl ⟨by kernel_rfl, ?_⟩) HSE.out ?_
            rotate_left
            · intro ws hsw
              obtain ⟨s1, s2, s3⟩ := hsw
              go_simp
              try with_reducible rfl
            try simp only [Act.put, List.setIfInBounds_toArray, List.set_cons_zero, List.set_cons_succ]
            refine Till.one (i := 13) (by kernel_rfl) rfl (by rfl) (fun K hK => ?_)
            go_simp
            refine hK.out _ _ (fun h => absurd rfl h) ?_
            clear hK K
            refine Till.done (by kernel_rfl) ⟨rfl, _, _, _, _, _, _, _, _, _, _, _, _, a8, _, cap8, _, _, rfl, ?_, Y8.out, M8.out, O8.out, p8, q8, R8.out.mono (by omega), G8.out, by omega⟩ _
            intro h
            have := layF_ok h
            exact ⟨this.trans HML.out, this.trans HML.out⟩
        · rintro aa w9 ⟨v32, v33, v34, v35, v36, v37, v38, v39, v40, v31, v41, v42, a8, n8, cap8, ok, Y, rfl, hok, hY, hM, hO, p9, q9, r9, g9, z9⟩
          try simp only [Act.put, List.setIfInBounds_toArray, List.set_cons_zero, List.set_cons_succ]
          cases ok
          · go_wp2_with fail
            exact ⟨⟨k + 1, M, by omega, by go_num, HML.out, hM, hO, p9, q9, r9, g9, z9⟩, by simp [intOf]; omega⟩
          · obtain ⟨rfl, hYl⟩ := hok rfl
            go_wp2_with fail
            exact ⟨⟨k + 1, Y, by omega, by go_num, hYl, hY, hO, p9, q9, r9, g9, z9⟩, by simp [intOf]; omega⟩
      · obtain rfl : k = m := by omega
        clear c0 c1 c2 hlt
        go_wp2_with fail
        go_loopw [6, 10] (fun v i wr => ∃ (j : Nat) (M : List Int), j ≤ k ∧ i = .int .i64 j ∧ M.length = k ∧ OwnsI wr (w.heap.size + 1) v M ∧ OwnsB wr (w.heap.size + 1) (.slice a k c) xs ∧ wr.heap[w1.heap.size]? = some (.cells #[.int .i64 W, .int .i64 T, .slice a k c] 25 (0, 0)) ∧
            wr.heap[w.heap.size]? = some (.cells #[.int .i64 0, .int .i64 0, .slice none 0 0] 25 (0, 0)) ∧ RD wr rb (P + 100 + k) ∧ w.grownBy wr (some rb) ∧ w2.heap.size ≤ wr.heap.size) (fun _ i _ => k - (intOf i).toNat)
        case atStart => exact ⟨0, M, Nat.zero_le _, rfl, HML.out, HMo.out, HOo.out, po, qo, HRo.out, HGo.out, zo⟩
        case round =>
          rename World => wi
          clear HMo HOo po qo HRo HGo zo lp HML
          obtain ⟨j, M2, hj, rfl, hMl, hMo, hOo, po, qo, hro, hgo, zo⟩ := hrel
          obtain ⟨a7, cap7, hv7⟩ := hMo.form2
          rw [hMl] at hv7
          subst hv7
          by_cases hjk : j < k
          · have e1 : (j : Int) < k := by omega
            go_wp2_with fail
            go_loopw [6, 11] (fun v i wr => ∃ (y : Nat) (M : List Int), y ≤ 2 ∧ i = .int .i64 ((y : Int) + 1) ∧ M.length = k ∧ OwnsI wr (w.heap.size + 1) v M ∧ OwnsB wr (w.heap.size + 1) (.slice a k c) xs ∧ wr.heap[w1.heap.size]? = some (.cells #[.int .i64 W, .int .i64 T, .slice a k c] 25 (0, 0)) ∧
                wr.heap[w.heap.size]? = some (.cells #[.int .i64 0, .int .i64 0, .slice none 0 0] 25 (0, 0)) ∧ RD wr rb (P + 100 + k) ∧ w.grownBy wr (some rb) ∧ w2.heap.size ≤ wr.heap.size) (fun _ i _ => 3 - (intOf i).toNat)
            case atStart => exact ⟨0, M2, by omega, rfl, hMl, hMo, hOo, po, qo, hro, hgo, zo⟩
            case round =>
              rename World => wk
              clear hMo hOo po qo hro hgo zo hMl
              obtain ⟨y, M3, hy, rfl, hMl, hMo, hOo, po, qo, hro, hgo, zo⟩ := hrel
              have HMo := Lib.hid hMo; clear hMo
              have HOo := Lib.hid hOo; clear hOo
              have HRo := Lib.hid hro; clear hro
              have HGo := Lib.hid hgo; clear hgo
              obtain ⟨a8, cap8, hv8⟩ := HMo.out.form2
              rw [hMl] at hv8
              subst hv8
              have HML := Lib.hid hMl; clear hMl
              obtain ⟨c0, c1, c2⟩ := cells3 po
              have lp := heap_lt po
              by_cases hy2 : y < 2
              · have e2 : (y : Int) + 1 ≤ 2 := by omega
                go_wp2_with fail
                refine (sLayOne_ret _ _ _ _ _ xs _ _ _ M3 _ _ _ HM.out (by omega) HML.out.symm (by omega) (OwnsB.at HOo.out) (OwnsI.at HMo.out)).mono ?_; rintro e w8 ⟨a9, cap9, rfl, ho8, hb8⟩
                have p8 := heap_later po hb8
                have q8 := heap_later qo hb8
                have O8 := HOo.out.below hb8
                have M8 := HMo.out.below hb8
                have R8 := HRo.out.below hb8
                have G8 := grown_seq' HGo.out (grown_of_below' hb8 (some rb))
                have Y8 := OwnsI.lower ho8 (show w.heap.size + 1 ≤ _ by omega)
                have z8 := hb8.size
                cases hok : (layF W T xs M3 (j : Int) ((y : Int) + 1)).2
                · go_wp2_with fail
                  exact ⟨⟨y + 1, M3, by omega, by go_num, HML.out, M8, O8, p8, q8, R8, G8, by omega⟩, by simp [intOf]; omega⟩
                · have hYl := (layF_ok hok).trans HML.out
                  rw [hYl]
                  rw [hYl] at Y8
                  go_wp2_with fail
                  exact ⟨⟨y + 1, _, by omega, by go_num, hYl, Y8, O8, p8, q8, R8, G8, by omega⟩, by simp [intOf]; omega⟩
              · obtain rfl : y = 2 := by omega
                clear hy2
                go_wp2_with fail
                exact ⟨⟨j + 1, M3, by omega, by go_num, HML.out, HMo.out, HOo.out, po, qo, HRo.out, HGo.out, zo⟩, by simp [intOf]; omega⟩
          · obtain rfl : j = k := by omega
            clear hjk
            obtain ⟨c0, c1, c2⟩ := cells3 po
            have lp := heap_lt po
            go_wp2_with fail
            obtain ⟨I0, hI0⟩ : ∃ I0 : Nat, I0 = wi.heap.size := ⟨_, rfl⟩
            obtain ⟨i0, hi, hz0, hz1, hz2⟩ := info_parts infoBool
            have hA0 := Lib.hid (OwnsI.at hMo)
            have lI : w.heap.size < wi.heap.size := by omega
            have lM : M2.length = j := hMl
            go_loopw [15] (fun i wr => ∃ (k' : Nat) (v : Value) (L : List Bool), k' ≤ j ∧ i = .int .i64 k' ∧ L.length = k' ∧ OwnsB wr (wi.heap.size + 1) v L ∧ wr.heap[wi.heap.size]? = some (.cells #[.int .i64 W, .int .i64 T, v] 25 (0, 0)) ∧ wr.heap[w.heap.size]? = some (.cells #[.int .i64 0, .int .i64 0, .slice none 0 0] 25 (0, 0)) ∧ IntsAt wr a7 M2 ∧ RD wr rb (P + 200) ∧ w.grownBy wr (some rb)) (fun i _ => j - (intOf i).toNat)
            case atStart =>
              exact ⟨0, _, [], Nat.zero_le _, rfl, rfl, OwnsB.nil _ _, heap_new _ _, heap_later qo (below1 _ _), (OwnsI.at hMo).one _, (hro.below (below1 _ _)).mono (by omega), grown_seq' hgo (World.grownBy_alloc _ _ _)⟩
            case round =>
              rename World => w40
              obtain ⟨k, v, L, hk4, rfl, hL, ho, pr, qr, hI, rr, gr⟩ := hrel
              have R := Lib.hid rr; clear rr
              have G := Lib.hid gr; clear gr
              have O := Lib.hid ho; clear ho
              have HL := Lib.hid hL; clear hL
              have HI := Lib.hid hI; clear hI
              obtain ⟨u0, u1, u2⟩ := cells3 pr
              have lX := heap_lt pr
              by_cases hlt : k < j
              · have e1 : (k : Int) < j := by omega
                obtain ⟨gb, off, ha7, hc7⟩ := HI.out k (by omega)
                subst ha7
                have HSD := Lib.hid (show (fun w' : World => w'.cell? ⟨wi.heap.size, 2, none⟩ = some v ∧ w'.cell? ⟨gb, off + k, none⟩ = some (.int .i64 (M2.getD k 0))) w40.drew from ⟨u2, hc7⟩)
                go_wp2
                refine wp_region_till (fun w' : World => w'.cell? ⟨wi.heap.size, 2, none⟩ = some v ∧ w'.cell? ⟨gb, off + k, none⟩ = some (.int .i64 (M2.getD k 0))) 10 (by kernel_rfl) ?_
                refine Till.take (i := 0) (v := ?_) rfl (by kernel_rfl) (by kernel_rfl) (by kernel_rfl) (by kernel_rfl) (fun _ _ _ h => h) (Or.inl ⟨by kernel_rfl, ?_⟩) HSD.out ?_
                rotate_left
                · intro ws hsw
                  obtain ⟨s1, s2⟩ := hsw
                  go_simp
                  try with_reducible rfl
                try simp only [Act.put, List.setIfInBounds_toArray, List.set_cons_zero, List.set_cons_succ]
                refine Till.take (i := 1) (v := ?_) rfl (by kernel_rfl) (by kernel_rfl) (by kernel_rfl) (by kernel_rfl) (fun _ _ _ h => h) (Or.inl ⟨by kernel_rfl, ?_⟩) HSD.out ?_
                rotate_left
                · intro ws hsw
                  obtain ⟨s1, s2⟩ := hsw
                  go_simp
                  try with_reducible rfl
                try simp only [Act.put, List.setIfInBounds_toArray, List.set_cons_zero, List.set_cons_succ]
                refine Till.take (i := 2) (v := ?_) rfl (by kernel_rfl) (by kernel_rfl) (by kernel_rfl) (by kernel_rfl) (fun _ _ _ h => h) (Or.inl ⟨by kernel_rfl, ?_⟩) HSD.out ?_
                rotate_left
                · intro ws hsw
                  obtain ⟨s1, s2⟩ := hsw
                  go_simp
                  try with_reducible rfl
                try simp only [Act.put, List.setIfInBounds_toArray, List.set_cons_zero, List.set_cons_succ]
                refine Till.take (i := 3) (v := ?_) rfl (by kernel_rfl) (by kernel_rfl) (by kernel_rfl) (by kernel_rfl) (fun _ _ _ h => h) (Or.inl ⟨by kernel_rfl, ?_⟩) HSD.out ?_
                rotate_left
                · intro ws hsw
                  obtain ⟨s1, s2⟩ := hsw
                  go_simp
                  try with_reducible rfl
                try simp only [Act.put, List.setIfInBounds_toArray, List.set_cons_zero, List.set_cons_succ]
                refine Till.take (i := 4) (v := ?_) rfl (by kernel_rfl) (by kernel_rfl) (by kernel_rfl) (by kernel_rfl) (fun _ _ _ h => h) (Or.inl ⟨by kernel_rfl, ?_⟩) HSD.out ?_
                rotate_left
                · intro ws hsw
                  obtain ⟨s1, s2⟩ := hsw
                  go_simp
                  try with_reducible rfl
                try simp only [Act.put, List.setIfInBounds_toArray, List.set_cons_zero, List.set_cons_succ]
                refine Till.take (i := 5) (v := ?_) rfl (by kernel_rfl) (by kernel_rfl) (by kernel_rfl) (by kernel_rfl) (fun _ _ _ h => h) (Or.inl ⟨by kernel_rfl, ?_⟩) HSD.out ?_
                rotate_left
                · intro ws hsw
                  obtain ⟨s1, s2⟩ := hsw
                  go_simp
                  try with_reducible rfl
                try simp only [Act.put, List.setIfInBounds_toArray, List.set_cons_zero, List.set_cons_succ]
                refine Till.take (i := 6) (v := ?_) rfl (by kernel_rfl) (by kernel_rfl) (by kernel_rfl) (by kernel_rfl) (fun _ _ _ h => h) (Or.inl ⟨by kernel_rfl, ?_⟩) HSD.out ?_
                rotate_left
                · intro ws hsw
                  obtain ⟨s1, s2⟩ := hsw
                  go_simp
                  try with_reducible rfl
                try simp only [Act.put, List.setIfInBounds_toArray, List.set_cons_zero, List.set_cons_succ]
                have hkM : k < M2.length := by omega
                refine Till.one (i := 7) (by kernel_rfl) rfl (by rfl) (fun K hK => ?_)
                go_simp
                generalize (M2[k] != 0) = bv
                have b1 := below1 w40 (.cells #[.bool bv] 4)
                have WN := Lib.hid (show Below w40.heap.size w40 ((w40.alloc (.cells #[.bool bv] 4)).drew) from ⟨b1.os, b1.tape, b1.output, b1.size, b1.block⟩)
                clear b1
                have O' : OwnsB (w40.alloc (.cells #[.bool bv] 4)).drew (wi.heap.size + 1) v L := O.out.alloc _
                refine hK.out _ _ (fun _ => ⟨cell_later WN.out u2, cell_later WN.out hc7⟩) ?_
                clear hK K
                refine Till.one (i := 8) (by kernel_rfl) rfl (by rfl) (fun K hK => ?_)
                refine step_append_lies _ rfl _ _ 23 rfl (wi.heap.size + 1) 4 i0 (.bool false) 1 1 Try.underlying23 hi hz0 hz1 hz2 rfl (by decide) v k (L.map Value.bool) rfl (O'.row HL.out) ⟨w40.heap.size, 0, none⟩ 1 1 _ rfl rfl (new_bool w40 _) (one_bool _) (by omega) (by unfold maxLen; omega) (by omega) (by simp; omega) (w40.heap.size + 1) (by simp) ?_
                intro g' c' w6 hown' hgrow _ _
                have hrow := fun (b : Nat) (hb : b < wi.heap.size + 1) => O.out.ownBlock hb
                have p6 := heap_grown (heap_later pr WN.out) hgrow (hrow _ (by omega))
                have q6 := heap_grown (heap_later qr WN.out) hgrow (hrow _ (by omega))
                have hrk := fun (k : Nat) (e : v.ownBlock = some k) => O.out.ownAt (Nat.le_refl _) k e
                have R6 := Lib.hid ((R.out.below WN.out).grown hgrow (fun k e => by have := hrk k e; omega))
                have I6 := Lib.hid (IntsAt.grown (HI.out.below WN.out) hA0.out hgrow (fun k e => by have := hrk k e; omega))
                have G6 := Lib.hid (show w.grownBy w6 (some rb) from grown_own (grown_seq' G.out (grown_of_below' WN.out (some rb))) hgrow (fun k e => by have := hrk k e; omega))
                have O6 := Lib.hid (OwnsB.ofRow (xs := L ++ [bv]) hown' (by simp) (by simp [HL.out]))
                clear hown' hgrow hrow hrk
                obtain ⟨t0, t1, t2⟩ := cells3 p6
                have e2 := free3 p6 2
                have l6 := heap_lt p6
                obtain ⟨gb', off', ha', hc'⟩ := I6.out k (by omega)
                cases ha'
                refine hK.out _ _ (fun _ => ⟨t2, hc'⟩) ?_
                clear hK K
                refine Till.one (i := 9) (by kernel_rfl) rfl (by rfl) (fun K hK => ?_)
                go_simp
                refine hK.out _ _ (fun _ => ⟨t2, hc'⟩) ?_
                clear hK K
                refine Till.one (i := 10) (by kernel_rfl) rfl (by rfl) (fun K hK => ?_)
                go_simp
                refine hK.out _ _ (fun h => absurd rfl h) ?_
                clear hK K
                refine Till.done (by kernel_rfl) ?_ _
                go_wp2
                go_roundw
                case rel => exact ⟨k + 1, _, L ++ [bv], by omega, by go_num, by simp [HL.out], O6.out.setBelow (by simp) _, by simpa using block_setCell p6 (i := 2) _, heap_set_other q6 (by simp; omega) _, I6.out.far hA0.out (Nat.le_refl _) _, R6.out.setFar (by omega) _, grown_far G6.out (by omega) _⟩
                case measure => simp [intOf]; omega
              · obtain rfl : k = j := by omega
                obtain ⟨a9, cap9, hv⟩ := O.out.form2
                rw [HL.out] at hv
                subst hv
                obtain ⟨d0, d1, d2⟩ := cells3 qr
                have f0 := free3 qr 0
                have f1 := free3 qr 1
                have f2 := free3 qr 2
                go_wp2
                refine bodyPost_ret (v := .agg #[.int .i64 W, .int .i64 T, .slice a9 k cap9]) (by simp [results, Try.results165, go_sem, d0, d1, d2]) rfl ?_
                exact ⟨W, T, a9, k, cap9, L, rfl, HL.out.symm, h36, hs, (O.out.set3 (by omega) _ _ _).lower (by omega), (((R.out.setFar lr _).setFar lr _).setFar lr _).mono (by omega), grown_far (grown_far (grown_far G.out (Nat.le_refl _) _) (Nat.le_refl _) _) (Nat.le_refl _) _⟩


end Go.Proofs.Ytpcajacekmidbaa

namespace Go.Proofs.Ytpcajacekmidbaa
open Go.RowKit
set_option linter.unusedVariables false
set_option maxRecDepth 100000
set_option linter.unusedSimpArgs false

theorem boxF_bd (W T : Int) : 0 ≤ (boxF W T).1 ∧ (boxF W T).1 ≤ 6 ∧ 0 ≤ (boxF W T).2.1 ∧ (boxF W T).2.1 ≤ 6 := by
  unfold boxF
  split
  · next h => have := boxB_yes h; simp only; omega
  · simp

def five : Obj := .cells #[.int .i64 2, .int .i64 3, .int .i64 4, .int .i64 4, .int .i64 6] 3 (0, 0)
def three : Obj := .cells #[.int .i64 2, .int .i64 3, .int .i64 4] 3 (0, 0)
/-- What the drawn box's variable holds. -/
def BoxIn (w0 w : World) (v : Value) : Prop := ∃ (W T : Int) (a : Option Addr) (m c : Nat) (xs : List Bool), v = .agg #[.int .i64 W, .int .i64 T, .slice a m c] ∧ m = xs.length ∧ m ≤ 24 ∧ (0 ≤ W ∧ W ≤ 6 ∧ 0 ≤ T ∧ T ≤ 6) ∧ OwnsB w (w0.heap.size + 1) (.slice a m c) xs
def BoxAt (w0 w : World) : Prop := ∃ (W T : Int) (a : Option Addr) (m c : Nat) (xs : List Bool), w.heap[w0.heap.size]? = some (.cells #[.int .i64 W, .int .i64 T, .slice a m c] 25 (0, 0)) ∧ m = xs.length ∧ m ≤ 24 ∧ (0 ≤ W ∧ W ≤ 6 ∧ 0 ≤ T ∧ T ≤ 6) ∧ OwnsB w (w0.heap.size + 1) (.slice a m c) xs
structure Box3 (rb P : Nat) (w0 : World) (b0 b1 b2 b3 b4 b5 b6 b7 b8 b9 b10 b11 : Bool) (v9 v10 v11 v12 v13 v14 v15 v16 v17 v18 v19 : Value) (w : World) : Prop where
  rd : RD w rb (P + b2.toNat + b7.toNat)
  gr : w0.grownBy w (some rb)
  lt : w0.heap.size + 1 ≤ w.heap.size
  cur : b11 = false → w.heap[w0.heap.size]? = some (.cells #[.int .i64 0, .int .i64 0, .slice none 0 0] 25 (0, 0))
  f0 : b0 = true → ∃ g, w0.heap.size < g ∧ v9 = .slice (some ⟨g, 0, none⟩) 5 5 ∧ w.heap[g]? = some five
  f1 : b1 = true → v10 = .pointer (some ⟨rb, 0, none⟩)
  f2 : b2 = true → ∃ x : Nat, x < 5 ∧ v11 = .int .i64 x
  f3 : b3 = true → ∃ g x, w0.heap.size < g ∧ x < 5 ∧ v12 = .pointer (some ⟨g, x, none⟩) ∧ w.heap[g]? = some five
  f4 : b4 = true → ∃ p : Int, 0 ≤ p ∧ p ≤ 6 ∧ v13 = .int .i64 p
  f5 : b5 = true → ∃ g, w0.heap.size < g ∧ v14 = .slice (some ⟨g, 0, none⟩) 3 3 ∧ w.heap[g]? = some three
  f6 : b6 = true → v15 = .pointer (some ⟨rb, 0, none⟩)
  f7 : b7 = true → ∃ x : Nat, x < 3 ∧ v16 = .int .i64 x
  f8 : b8 = true → ∃ g x, w0.heap.size < g ∧ x < 3 ∧ v17 = .pointer (some ⟨g, x, none⟩) ∧ w.heap[g]? = some three
  f9 : b9 = true → ∃ p : Int, 0 ≤ p ∧ p ≤ 6 ∧ v18 = .int .i64 p
  f10 : b10 = true → BoxIn w0 w v19
  f11 : b11 = true → BoxAt w0 w
def I3 (rb P : Nat) (n : Int) (w0 : World) (d : Array Bool) (a : Act) (w : World) : Prop :=
  ∃ (b0 b1 b2 b3 b4 b5 b6 b7 b8 b9 b10 b11 : Bool) (v9 v10 v11 v12 v13 v14 v15 v16 v17 v18 v19 : Value), d = #[b0, b1, b2, b3, b4, b5, b6, b7, b8, b9, b10, b11] ∧
    a = { tmps := #[.pointer (some ⟨rb, 0, none⟩), .int .i64 n, undef, undef, .pointer (some ⟨w0.heap.size, 0, none⟩), .pointer (some ⟨rb, 0, none⟩), .int .i64 0, .bool true, .bool true, v9, v10, v11, v12, v13, v14, v15, v16, v17, v18, v19, undef, undef, undef, undef, undef, undef, undef, undef], defers := [] } ∧
    Box3 rb P w0 b0 b1 b2 b3 b4 b5 b6 b7 b8 b9 b10 b11 v9 v10 v11 v12 v13 v14 v15 v16 v17 v18 v19 w
theorem BoxIn.kept {w0 w w' : World} {v : Value} {rb : Nat} (h : BoxIn w0 w v) (lr : rb < w0.heap.size) (hg : w.grownBy w' (some rb)) : BoxIn w0 w' v := by
  obtain ⟨W, T, a, m, c, xs, h1, h2, h3, h4, h5⟩ := h
  exact ⟨W, T, a, m, c, xs, h1, h2, h3, h4, OwnsB.keptBy h5 hg (fun k e => by have := Option.some.inj e; omega)⟩
theorem BoxAt.kept {w0 w w' : World} {rb : Nat} (h : BoxAt w0 w) (lr : rb < w0.heap.size) (hg : w.grownBy w' (some rb)) : BoxAt w0 w' := by
  obtain ⟨W, T, a, m, c, xs, h1, h2, h3, h4, h5⟩ := h
  exact ⟨W, T, a, m, c, xs, heap_grown h1 hg (by intro e; have := Option.some.inj e; omega), h2, h3, h4, OwnsB.keptBy h5 hg (fun k e => by have := Option.some.inj e; omega)⟩
/-- Behind new blocks, or a reader's turn, what was known is known. -/
theorem Box3.kept {rb P : Nat} {w0 w w' : World} {b0 b1 b2 b3 b4 b5 b6 b7 b8 b9 b10 b11 : Bool} {v9 v10 v11 v12 v13 v14 v15 v16 v17 v18 v19 : Value} {b2' b7' : Bool} {v11' v16' : Value}
    (h : Box3 rb P w0 b0 b1 b2 b3 b4 b5 b6 b7 b8 b9 b10 b11 v9 v10 v11 v12 v13 v14 v15 v16 v17 v18 v19 w) (lr : rb < w0.heap.size) (hg : w.grownBy w' (some rb)) (hr : RD w' rb (P + b2'.toNat + b7'.toNat))
    (f2 : b2' = true → ∃ x : Nat, x < 5 ∧ v11' = .int .i64 x) (f7 : b7' = true → ∃ x : Nat, x < 3 ∧ v16' = .int .i64 x) :
    Box3 rb P w0 b0 b1 b2' b3 b4 b5 b6 b7' b8 b9 b10 b11 v9 v10 v11' v12 v13 v14 v15 v16' v17 v18 v19 w' := by
  have k : ∀ g o, w0.heap.size ≤ g → w.heap[g]? = some o → w'.heap[g]? = some o := fun g o h1 h2 => heap_grown h2 hg (by intro e; have := Option.some.inj e; omega)
  refine ⟨hr, grown_seq' h.gr hg, Nat.le_trans h.lt hg.size, fun e => k _ _ (Nat.le_refl _) (h.cur e), fun e => ?_, h.f1, f2, fun e => ?_, h.f4, fun e => ?_, h.f6, f7, fun e => ?_, h.f9, fun e => (h.f10 e).kept lr hg, fun e => (h.f11 e).kept lr hg⟩
  · obtain ⟨g, h1, h2, h3⟩ := h.f0 e; exact ⟨g, h1, h2, k _ _ (by omega) h3⟩
  · obtain ⟨g, x, h1, h2, h3, h4⟩ := h.f3 e; exact ⟨g, x, h1, h2, h3, k _ _ (by omega) h4⟩
  · obtain ⟨g, h1, h2, h3⟩ := h.f5 e; exact ⟨g, h1, h2, k _ _ (by omega) h3⟩
  · obtain ⟨g, x, h1, h2, h3, h4⟩ := h.f8 e; exact ⟨g, x, h1, h2, h3, k _ _ (by omega) h4⟩
theorem set3_block {w : World} {g : Nat} {x y z x' y' z' : Value} {t : TypeId} (h : w.heap[g]? = some (.cells #[x, y, z] t (0, 0))) : (((w.setCell ⟨g, 0, none⟩ x').setCell ⟨g, 1, none⟩ y').setCell ⟨g, 2, none⟩ z').heap[g]? = some (.cells #[x', y', z'] t (0, 0)) := by
  have h1 := block_setCell (i := 0) h x'
  have h2 := block_setCell (i := 1) h1 y'
  have h3 := block_setCell (i := 2) h2 z'
  simpa using h3
theorem heap_set3_other {w : World} {b g : Nat} {o : Obj} (h : w.heap[b]? = some o) (hne : b ≠ g) (x y z : Value) : (((w.setCell ⟨g, 0, none⟩ x).setCell ⟨g, 1, none⟩ y).setCell ⟨g, 2, none⟩ z).heap[b]? = some o :=
  heap_set_other (heap_set_other (heap_set_other h hne x) hne y) hne z
theorem stored {rb P : Nat} {w0 w : World} {b0 b1 b2 b3 b4 b5 b6 b7 b8 b9 b10 b11 : Bool} {v9 v10 v11 v12 v13 v14 v15 v16 v17 v18 v19 : Value} {W T : Int} {a : Option Addr} {m c : Nat} {xs : List Bool}
    (h : Box3 rb P w0 b0 b1 b2 b3 b4 b5 b6 b7 b8 b9 b10 b11 v9 v10 v11 v12 v13 v14 v15 v16 v17 v18 v19 w) (lr : rb < w0.heap.size) (hcur : w.heap[w0.heap.size]? = some (.cells #[.int .i64 0, .int .i64 0, .slice none 0 0] 25 (0, 0)))
    (hm : m = xs.length) (h24 : m ≤ 24) (hbd : 0 ≤ W ∧ W ≤ 6 ∧ 0 ≤ T ∧ T ≤ 6) (ho : OwnsB w (w0.heap.size + 1) (.slice a m c) xs) :
    Box3 rb P w0 b0 b1 b2 b3 b4 b5 b6 b7 b8 b9 b10 true v9 v10 v11 v12 v13 v14 v15 v16 v17 v18 v19 (((w.setCell ⟨w0.heap.size, 0, none⟩ (.int .i64 W)).setCell ⟨w0.heap.size, 1, none⟩ (.int .i64 T)).setCell ⟨w0.heap.size, 2, none⟩ (.slice a m c)) := by
  have k : ∀ g o, w0.heap.size < g → w.heap[g]? = some o → (((w.setCell ⟨w0.heap.size, 0, none⟩ (.int .i64 W)).setCell ⟨w0.heap.size, 1, none⟩ (.int .i64 T)).setCell ⟨w0.heap.size, 2, none⟩ (.slice a m c)).heap[g]? = some o := fun g o h1 h2 => heap_set3_other h2 (by omega) _ _ _
  refine ⟨((h.rd.setFar lr _).setFar lr _).setFar lr _, grown_far (grown_far (grown_far h.gr (Nat.le_refl _) _) (Nat.le_refl _) _) (Nat.le_refl _) _, by simpa using h.lt, (fun e => nomatch e), fun e => ?_, h.f1, h.f2, fun e => ?_, h.f4, fun e => ?_, h.f6, h.f7, fun e => ?_, h.f9, fun e => ?_, fun _ => ⟨W, T, a, m, c, xs, set3_block hcur, hm, h24, hbd, ho.set3 (by omega) _ _ _⟩⟩
  · obtain ⟨g, h1, h2, h3⟩ := h.f0 e; exact ⟨g, h1, h2, k _ _ h1 h3⟩
  · obtain ⟨g, x, h1, h2, h3, h4⟩ := h.f3 e; exact ⟨g, x, h1, h2, h3, k _ _ h1 h4⟩
  · obtain ⟨g, h1, h2, h3⟩ := h.f5 e; exact ⟨g, h1, h2, k _ _ h1 h3⟩
  · obtain ⟨g, x, h1, h2, h3, h4⟩ := h.f8 e; exact ⟨g, x, h1, h2, h3, k _ _ h1 h4⟩
  · obtain ⟨W', T', a', m', c', xs', h1, h2, h3, h4, h5⟩ := h.f10 e
    exact ⟨W', T', a', m', c', xs', h1, h2, h3, h4, h5.set3 (by omega) _ _ _⟩
theorem five_at {w : World} {g x : Nat} (h : w.heap[g]? = some five) (hx : x < 5) : ∃ p : Int, 0 ≤ p ∧ p ≤ 6 ∧ w.cell? ⟨g, x, none⟩ = some (.int .i64 p) := by
  unfold five at h
  have hx4 : x = 0 ∨ x = 1 ∨ x = 2 ∨ x = 3 ∨ x = 4 := by omega
  rcases hx4 with rfl | rfl | rfl | rfl | rfl
  · exact ⟨2, by omega, by omega, by simp [World.cell?, h]⟩
  · exact ⟨3, by omega, by omega, by simp [World.cell?, h]⟩
  · exact ⟨4, by omega, by omega, by simp [World.cell?, h]⟩
  · exact ⟨4, by omega, by omega, by simp [World.cell?, h]⟩
  · exact ⟨6, by omega, by omega, by simp [World.cell?, h]⟩
theorem three_at {w : World} {g x : Nat} (h : w.heap[g]? = some three) (hx : x < 3) : ∃ p : Int, 0 ≤ p ∧ p ≤ 6 ∧ w.cell? ⟨g, x, none⟩ = some (.int .i64 p) := by
  unfold three at h
  have hx4 : x = 0 ∨ x = 1 ∨ x = 2 := by omega
  rcases hx4 with rfl | rfl | rfl
  · exact ⟨2, by omega, by omega, by simp [World.cell?, h]⟩
  · exact ⟨3, by omega, by omega, by simp [World.cell?, h]⟩
  · exact ⟨4, by omega, by omega, by simp [World.cell?, h]⟩

set_option maxHeartbeats 4000000 in
theorem l20Some_any (rb P : Nat) (n : Int) (w : World) (hn0 : 0 ≤ n) (hn1 : n ≤ 1000) (hP : P ≤ 9000) (h : RD w rb P) :
    Calls Try.prog 127 #[.pointer (some ⟨rb, 0, none⟩), .int .i64 n] w (DrawnT rb (P + 100) w) := by
  have lr := h.lt
  have H := Lib.hid h; clear h
  go_enter Try.func127, Try.ntmps127
  go_wp2_with fail
  refine (pick_any rb P 4 _ (by omega) (by omega) (by omega) (H.out.below (below1 _ _))).mono ?_; rintro e w1 ⟨x, hx, rfl, r1, g1⟩
  have q1 := heap_grown (heap_new w (.cells #[.int .i64 0, .int .i64 0, .slice none 0 0] 25)) g1 (by intro e; have := Option.some.inj e; omega)
  have R1 := Lib.hid r1
  have G1 := Lib.hid (grown_seq' (World.grownBy_alloc w (.cells #[.int .i64 0, .int .i64 0, .slice none 0 0] 25) (some rb)) g1)
  have z1 := heap_lt q1
  clear r1 g1 H
  by_cases hx0 : x = 0
  · subst hx0
    go_wp2
    refine cut_region (fun a0 a' w' => ∃ (v9 v10 v11 v12 v13 v14 v15 v16 v17 v18 v19 : Value), a' = { tmps := #[.pointer (some ⟨rb, 0, none⟩), .int .i64 n, undef, undef, .pointer (some ⟨w.heap.size, 0, none⟩), .pointer (some ⟨rb, 0, none⟩), .int .i64 0, .bool true, .bool true, v9, v10, v11, v12, v13, v14, v15, v16, v17, v18, v19, undef, undef, undef, undef, undef, undef, undef, undef], defers := [] } ∧ BoxAt w w' ∧ RD w' rb (P + 1 + 2) ∧ w.grownBy w' (some rb)) ?_ ?_
    · refine wp_region_inv (I3 rb (P + 1) n w) (by kernel_rfl) (by kernel_rfl) ?_ ?_ ?_ ?_
      · rintro d a w' ⟨b0, b1, b2, b3, b4, b5, b6, b7, b8, b9, b10, b11, v9, v10, v11, v12, v13, v14, v15, v16, v17, v18, v19, rfl, -, -⟩
        exact Nat.le_refl _
      · refine ⟨false, false, false, false, false, false, false, false, false, false, false, false, undef, undef, undef, undef, undef, undef, undef, undef, undef, undef, undef, rfl, rfl, ?_⟩
        exact ⟨R1.out, grown_seq' G1.out (grown_drewN w1 1 _), z1, fun _ => q1, (fun e => nomatch e), (fun e => nomatch e), (fun e => nomatch e), (fun e => nomatch e), (fun e => nomatch e), (fun e => nomatch e), (fun e => nomatch e), (fun e => nomatch e), (fun e => nomatch e), (fun e => nomatch e), (fun e => nomatch e), (fun e => nomatch e)⟩
      · clear q1 R1 G1 z1 w1
        rintro d a w' i ⟨b0, b1, b2, b3, b4, b5, b6, b7, b8, b9, b10, b11, v9, v10, v11, v12, v13, v14, v15, v16, v17, v18, v19, rfl, rfl, hB⟩ hi
        have hlt : i < 12 := ready_lt hi
        have hun := ready_undone hi
        have hc : i = 0 ∨ i = 1 ∨ i = 2 ∨ i = 3 ∨ i = 4 ∨ i = 5 ∨ i = 6 ∨ i = 7 ∨ i = 8 ∨ i = 9 ∨ i = 10 ∨ i = 11 := by omega
        clear hlt
        rcases hc with rfl | rfl | rfl | rfl | rfl | rfl | rfl | rfl | rfl | rfl | rfl | rfl
        · have e0 : b0 = false := hun
          subst e0
          clear hun hi
          have hk := fun o => Box3.kept hB lr (World.grownBy_alloc w' o (some rb)) (hB.rd.below (below1 w' o)) hB.f2 hB.f7
          refine wpOp_go rfl rfl (fun K hK => ?_)
          go_simp
          refine hK.out _ _ ⟨true, _, _, _, _, _, _, _, _, _, _, _, _, _, _, _, _, _, _, _, _, _, _, rfl, rfl, ?_⟩
          exact { (hk _) with f0 := fun _ => ⟨w'.heap.size, by have := hB.lt; omega, rfl, heap_new _ _⟩ }
        · have e1 : b1 = false := hun
          subst e1
          clear hun hi
          refine wpOp_go rfl rfl (fun K hK => ?_)
          go_simp
          refine hK.out _ _ ⟨_, true, _, _, _, _, _, _, _, _, _, _, _, _, _, _, _, _, _, _, _, _, _, rfl, rfl, ?_⟩
          exact { hB with f1 := fun _ => rfl }
        · have e2 : b2 = false := hun
          subst e2
          have e1 : b1 = true := ready_dep 1 hi (by kernel_rfl)
          subst e1
          clear hun hi
          obtain rfl := hB.f1 rfl
          refine wpOp_go rfl rfl (fun K hK => ?_)
          go_simp
          refine (pick_any rb _ 5 _ (by omega) (by omega) (show P + 1 + _ + _ ≤ 100000 from by cases b7 <;> simp <;> omega) hB.rd).mono ?_; rintro e w2 ⟨x, hx, rfl, r2, g2⟩
          refine hK.out _ _ ⟨_, _, true, _, _, _, _, _, _, _, _, _, _, _, _, _, _, _, _, _, _, _, _, rfl, rfl, ?_⟩
          exact Box3.kept hB lr g2 (r2.mono (by cases b7 <;> simp)) (fun _ => ⟨x, hx, rfl⟩) hB.f7
        · have e3 : b3 = false := hun
          subst e3
          have e0 : b0 = true := ready_dep 0 hi (by kernel_rfl)
          subst e0
          have e2 : b2 = true := ready_dep 2 hi (by kernel_rfl)
          subst e2
          clear hun hi
          obtain ⟨g, hg, rfl, hh⟩ := hB.f0 rfl
          obtain ⟨x, hx, rfl⟩ := hB.f2 rfl
          have hxi : (x : Int) < 5 := by omega
          refine wpOp_go rfl rfl (fun K hK => ?_)
          go_simp
          refine hK.out _ _ ⟨_, _, _, true, _, _, _, _, _, _, _, _, _, _, _, _, _, _, _, _, _, _, _, rfl, rfl, ?_⟩
          exact { hB with f3 := fun _ => ⟨g, x, hg, hx, rfl, hh⟩ }
        · have e4 : b4 = false := hun
          subst e4
          have e3 : b3 = true := ready_dep 3 hi (by kernel_rfl)
          subst e3
          clear hun hi
          obtain ⟨g, x, hg, hx, rfl, hh⟩ := hB.f3 rfl
          obtain ⟨p, hp0, hp1, hpc⟩ := five_at hh hx
          refine wpOp_go rfl rfl (fun K hK => ?_)
          go_simp
          refine hK.out _ _ ⟨_, _, _, _, true, _, _, _, _, _, _, _, _, _, _, _, _, _, _, _, _, _, _, rfl, rfl, ?_⟩
          exact { hB with f4 := fun _ => ⟨p, hp0, hp1, rfl⟩ }
        · have e5 : b5 = false := hun
          subst e5
          clear hun hi
          have hk := fun o => Box3.kept hB lr (World.grownBy_alloc w' o (some rb)) (hB.rd.below (below1 w' o)) hB.f2 hB.f7
          refine wpOp_go rfl rfl (fun K hK => ?_)
          go_simp
          refine hK.out _ _ ⟨_, _, _, _, _, true, _, _, _, _, _, _, _, _, _, _, _, _, _, _, _, _, _, rfl, rfl, ?_⟩
          exact { (hk _) with f5 := fun _ => ⟨w'.heap.size, by have := hB.lt; omega, rfl, heap_new _ _⟩ }
        · have e6 : b6 = false := hun
          subst e6
          clear hun hi
          refine wpOp_go rfl rfl (fun K hK => ?_)
          go_simp
          refine hK.out _ _ ⟨_, _, _, _, _, _, true, _, _, _, _, _, _, _, _, _, _, _, _, _, _, _, _, rfl, rfl, ?_⟩
          exact { hB with f6 := fun _ => rfl }
        · have e7 : b7 = false := hun
          subst e7
          have e6 : b6 = true := ready_dep 6 hi (by kernel_rfl)
          subst e6
          clear hun hi
          obtain rfl := hB.f6 rfl
          refine wpOp_go rfl rfl (fun K hK => ?_)
          go_simp
          refine (pick_any rb _ 3 _ (by omega) (by omega) (show P + 1 + _ + _ ≤ 100000 from by cases b2 <;> simp <;> omega) hB.rd).mono ?_; rintro e w2 ⟨x, hx, rfl, r2, g2⟩
          refine hK.out _ _ ⟨_, _, _, _, _, _, _, true, _, _, _, _, _, _, _, _, _, _, _, _, _, _, _, rfl, rfl, ?_⟩
          exact Box3.kept hB lr g2 (r2.mono (by cases b2 <;> simp)) hB.f2 (fun _ => ⟨x, hx, rfl⟩)
        · have e8 : b8 = false := hun
          subst e8
          have e5 : b5 = true := ready_dep 5 hi (by kernel_rfl)
          subst e5
          have e7 : b7 = true := ready_dep 7 hi (by kernel_rfl)
          subst e7
          clear hun hi
          obtain ⟨g, hg, rfl, hh⟩ := hB.f5 rfl
          obtain ⟨x, hx, rfl⟩ := hB.f7 rfl
          have hxi : (x : Int) < 3 := by omega
          refine wpOp_go rfl rfl (fun K hK => ?_)
          go_simp
          refine hK.out _ _ ⟨_, _, _, _, _, _, _, _, true, _, _, _, _, _, _, _, _, _, _, _, _, _, _, rfl, rfl, ?_⟩
          exact { hB with f8 := fun _ => ⟨g, x, hg, hx, rfl, hh⟩ }
        · have e9 : b9 = false := hun
          subst e9
          have e8 : b8 = true := ready_dep 8 hi (by kernel_rfl)
          subst e8
          clear hun hi
          obtain ⟨g, x, hg, hx, rfl, hh⟩ := hB.f8 rfl
          obtain ⟨p, hp0, hp1, hpc⟩ := three_at hh hx
          refine wpOp_go rfl rfl (fun K hK => ?_)
          go_simp
          refine hK.out _ _ ⟨_, _, _, _, _, _, _, _, _, true, _, _, _, _, _, _, _, _, _, _, _, _, _, rfl, rfl, ?_⟩
          exact { hB with f9 := fun _ => ⟨p, hp0, hp1, rfl⟩ }
        · have e10 : b10 = false := hun
          subst e10
          have e4 : b4 = true := ready_dep 4 hi (by kernel_rfl)
          subst e4
          have e9 : b9 = true := ready_dep 9 hi (by kernel_rfl)
          subst e9
          clear hun hi
          obtain ⟨p, hp0, hp1, rfl⟩ := hB.f4 rfl
          obtain ⟨q, hq0, hq1, rfl⟩ := hB.f9 rfl
          refine wpOp_go rfl rfl (fun K hK => ?_)
          go_simp
          refine (sRegionBox_ret p q _).mono ?_; rintro e w2 ⟨a, cap, rfl, ho, hb2⟩
          refine hK.out _ _ ⟨_, _, _, _, _, _, _, _, _, _, true, _, _, _, _, _, _, _, _, _, _, _, _, rfl, rfl, ?_⟩
          have hbd := boxF_bd p q
          exact { (Box3.kept hB lr (grown_of_below' hb2 (some rb)) (hB.rd.below hb2) hB.f2 hB.f7) with f10 := fun _ => ⟨_, _, a, _, cap, _, rfl, rfl, boxF_len p q, ⟨hbd.1, hbd.2.1, hbd.2.2.1, hbd.2.2.2⟩, ho.lower hB.lt⟩ }
        · have e11 : b11 = false := hun
          subst e11
          have e10 : b10 = true := ready_dep 10 hi (by kernel_rfl)
          subst e10
          clear hun hi
          obtain ⟨W, T, a, m, c, xs, rfl, hm, h24, hbd, ho⟩ := hB.f10 rfl
          have HM := Lib.hid hm; clear hm
          have hcur := hB.cur rfl
          obtain ⟨d0, d1, d2⟩ := cells3 hcur
          have z0 := free3 hcur 0
          have z1 := free3 hcur 1
          have z2 := free3 hcur 2
          refine wpOp_go rfl rfl (fun K hK => ?_)
          go_simp
          refine hK.out _ _ ⟨_, _, _, _, _, _, _, _, _, _, _, true, _, _, _, _, _, _, _, _, _, _, _, rfl, rfl, ?_⟩
          exact stored hB lr hcur HM.out h24 hbd ho
      · rintro d a w' ⟨b0, b1, b2, b3, b4, b5, b6, b7, b8, b9, b10, b11, v9, v10, v11, v12, v13, v14, v15, v16, v17, v18, v19, rfl, rfl, hB⟩ hall
        have e11 : b11 = true := hall 11 (by decide)
        refine ⟨rfl, v9, v10, v11, v12, v13, v14, v15, v16, v17, v18, v19, rfl, hB.f11 e11, hB.rd.mono (by cases b2 <;> cases b7 <;> simp), hB.gr⟩
    · clear q1 R1 G1 z1
      rintro a' w2 ⟨v9, v10, v11, v12, v13, v14, v15, v16, v17, v18, v19, rfl, ⟨W, T, a, m, c, xs, hc, hm, h24, hbd, ho⟩, r2, g2⟩
      have HM := Lib.hid hm; clear hm
      have HO := Lib.hid ho; clear ho
      obtain ⟨d0, d1, d2⟩ := cells3 hc
      go_wp2
      refine bodyPost_ret (v := .agg #[.int .i64 W, .int .i64 T, .slice a m c]) (by simp [results, Try.results127, go_sem, d0, d1, d2]) rfl ?_
      exact ⟨W, T, a, m, c, xs, rfl, HM.out, by omega, hbd, HO.out.lower (by omega), r2.mono (by omega), g2⟩
  · have hx0b : ((x : Int) == 0) = false := by simp; omega
    by_cases hx1 : x = 1
    · subst hx1
      go_wp2_with fail
      refine (l20Region_any rb (P + 1) n _ hn0 hn1 (by omega) R1.out).mono ?_; rintro e w2 ⟨W, T, a, m, c, xs, rfl, hm, h36, hbd, ho, r2, g2⟩
      have HM := Lib.hid hm; clear hm
      have HO := Lib.hid ho; clear ho
      have q2 := heap_grown q1 g2 (by intro e; have := Option.some.inj e; omega)
      have G2 := Lib.hid (grown_seq' G1.out g2)
      have R2 := Lib.hid r2; clear r2 g2 q1 R1 G1
      obtain ⟨d0, d1, d2⟩ := cells3 q2
      have f0 := free3 q2 0
      have f1 := free3 q2 1
      have f2 := free3 q2 2
      go_wp2
      refine bodyPost_ret (v := .agg #[.int .i64 W, .int .i64 T, .slice a m c]) (by simp [results, Try.results127, go_sem, d0, d1, d2]) rfl ?_
      exact ⟨W, T, a, m, c, xs, rfl, HM.out, h36, hbd, (HO.out.set3 (by omega) _ _ _).lower (by omega), (((R2.out.setFar lr _).setFar lr _).setFar lr _).mono (by omega), grown_far (grown_far (grown_far G2.out (Nat.le_refl _) _) (Nat.le_refl _) _) (Nat.le_refl _) _⟩
    · have hx1b : ((x : Int) == 1) = false := by simp; omega
      go_wp2_with fail
      refine (l20Tiled_any rb (P + 1) n _ hn0 hn1 (by omega) R1.out).mono ?_; rintro e w2 ⟨W, T, a, m, c, xs, rfl, hm, h36, hbd, ho, r2, g2⟩
      have HM := Lib.hid hm; clear hm
      have HO := Lib.hid ho; clear ho
      have q2 := heap_grown q1 g2 (by intro e; have := Option.some.inj e; omega)
      have G2 := Lib.hid (grown_seq' G1.out g2)
      have R2 := Lib.hid r2; clear r2 g2 q1 R1 G1
      obtain ⟨d0, d1, d2⟩ := cells3 q2
      have f0 := free3 q2 0
      have f1 := free3 q2 1
      have f2 := free3 q2 2
      go_wp2
      refine bodyPost_ret (v := .agg #[.int .i64 W, .int .i64 T, .slice a m c]) (by simp [results, Try.results127, go_sem, d0, d1, d2]) rfl ?_
      exact ⟨W, T, a, m, c, xs, rfl, HM.out, h36, hbd, (HO.out.set3 (by omega) _ _ _).lower (by omega), (((R2.out.setFar lr _).setFar lr _).setFar lr _).mono (by omega), grown_far (grown_far (grown_far G2.out (Nat.le_refl _) _) (Nat.le_refl _) _) (Nat.le_refl _) _⟩
end Go.Proofs.Ytpcajacekmidbaa

namespace Go.Proofs.Ytpcajacekmidbaa
open Go.RowKit
set_option linter.unusedVariables false
set_option maxRecDepth 100000
set_option linter.unusedSimpArgs false

def DrawnL (rb P : Nat) (w : World) (e : Ending) (w' : World) : Prop :=
  ∃ (W T : Int) (a : Option Addr) (n cap : Nat) (xs : List Bool) (la : Option Addr) (m lcap : Nat) (L : List Int), e = .returned (.tuple #[.agg #[.int .i64 W, .int .i64 T, .slice a n cap], .slice la m lcap]) ∧
    n = xs.length ∧ n ≤ 36 ∧ (0 ≤ W ∧ W ≤ 6 ∧ 0 ≤ T ∧ T ≤ 6) ∧ OwnsB w' w.heap.size (.slice a n cap) xs ∧ m = L.length ∧ m ≤ 36 ∧ OwnsI w' w.heap.size (.slice la m lcap) L ∧ RD w' rb (P + 600) ∧ w.grownBy w' (some rb)

/-- What stands while the list is made. -/
structure LS (rb : Nat) (w : World) (N : Nat) (W T : Int) (a : Option Addr) (n c : Nat) (xs : List Bool) (Pk : Nat) (v : Value) (w' : World) : Prop where
  p : w'.heap[N]? = some (.cells #[.int .i64 W, .int .i64 T, .slice a n c] 25 (0, 0))
  q : w'.heap[w.heap.size]? = some (.cells #[.int .i64 0, .int .i64 0, .slice none 0 0] 25 (0, 0))
  o : OwnsB w' (w.heap.size + 1) (.slice a n c) xs
  s : ∀ k, (Value.slice a n c).ownBlock = some k → k < N
  l : ∃ (la : Option Addr) (m lcap : Nat) (L : List Int), v = .slice la m lcap ∧ m = L.length ∧ m ≤ 36 ∧ OwnsI w' (N + 1) v L
  r : RD w' rb Pk
  g : w.grownBy w' (some rb)
  z : N + 1 ≤ w'.heap.size
  y : w.heap.size < N
section
variable {rb N n c Pk : Nat} {w w1 w2 : World} {W T : Int} {a : Option Addr} {xs : List Bool} {v : Value}
theorem LS.below (h : LS rb w N W T a n c xs Pk v w1) (lr : rb < w.heap.size) (hb : Below w1.heap.size w1 w2) : LS rb w N W T a n c xs Pk v w2 := by
  obtain ⟨la, m, lcap, L, h1, h2, h3, h4⟩ := h.l
  exact ⟨heap_later h.p hb, heap_later h.q hb, h.o.below hb, h.s, ⟨la, m, lcap, L, h1, h2, h3, h4.below hb⟩, h.r.below hb, grown_seq' h.g (grown_of_below' hb (some rb)), Nat.le_trans h.z hb.size, h.y⟩
theorem LS.pick {Pk' : Nat} (h : LS rb w N W T a n c xs Pk v w1) (lr : rb < w.heap.size) (hg : w1.grownBy w2 (some rb)) (hr : RD w2 rb Pk') : LS rb w N W T a n c xs Pk' v w2 := by
  obtain ⟨la, m, lcap, L, h1, h2, h3, h4⟩ := h.l
  have hy := h.y
  exact ⟨heap_grown h.p hg (by intro e; have := Option.some.inj e; omega), heap_grown h.q hg (by intro e; have := Option.some.inj e; omega), OwnsB.keptBy h.o hg (fun k e => by have := Option.some.inj e; omega), h.s, ⟨la, m, lcap, L, h1, h2, h3, OwnsI.keptBy h4 hg (fun k e => by have := Option.some.inj e; omega)⟩, hr, grown_seq' h.g hg, Nat.le_trans h.z hg.size, h.y⟩
/-- Another list. -/
theorem LS.list (h : LS rb w N W T a n c xs Pk v w1) {la : Option Addr} {m lcap B : Nat} {L : List Int} (hm : m = L.length) (h36 : m ≤ 36) (ho : OwnsI w1 B (.slice la m lcap) L) (hB : N + 1 ≤ B) : LS rb w N W T a n c xs Pk (.slice la m lcap) w1 :=
  ⟨h.p, h.q, h.o, h.s, ⟨la, m, lcap, L, rfl, hm, h36, ho.lower hB⟩, h.r, h.g, h.z, h.y⟩
theorem LS.mono {Pk' : Nat} (h : LS rb w N W T a n c xs Pk v w1) (hp : Pk ≤ Pk') : LS rb w N W T a n c xs Pk' v w1 :=
  ⟨h.p, h.q, h.o, h.s, h.l, h.r.mono hp, h.g, h.z, h.y⟩
theorem OwnsB.keptUp2 {w w' : World} {B : Nat} {v : Value} {xs : List Bool} {row : Option Nat} (h : OwnsB w B v xs) (hg : w.grownBy w' row) (hr : v.ownBlock = none ∨ v.ownBlock ≠ row) : OwnsB w' B v xs := World.ownsRow.kept h hg hr
/-- One number of the list is written. -/
theorem LS.store {g m lcap : Nat} (h : LS rb w N W T a n c xs Pk (.slice (some ⟨g, 0, none⟩) m lcap) w1) (lr : rb < w.heap.size) (k : Nat) (x : Int) : LS rb w N W T a n c xs Pk (.slice (some ⟨g, 0, none⟩) m lcap) (w1.setCell ⟨g, k, none⟩ (.int .i64 x)) := by
  obtain ⟨la, m', lcap', L, h1, h2, h3, h4⟩ := h.l
  simp only [Value.slice.injEq] at h1
  obtain ⟨rfl, rfl, rfl⟩ := h1
  have hs := OwnsI.set h4 k x
  have hlt := h4.lt
  have hy := h.y
  refine ⟨heap_set_other h.p (by simp; omega) _, heap_set_other h.q (by simp; omega) _, h.o.keptUp2 hs.2 (Or.inr fun e => by have := h.s g e; omega), h.s, ⟨_, _, _, L.set k x, rfl, by simpa using h2, h3, hs.1⟩, h.r.setFar (by omega) _, grown_far h.g (by omega) _, by simpa using h.z, h.y⟩
theorem LS.done {la : Option Addr} {m lcap P : Nat} (h : LS rb w N W T a n c xs Pk (.slice la m lcap) w1) (lr : rb < w.heap.size) (hn : n = xs.length) (h36 : n ≤ 36) (hs : 0 ≤ W ∧ W ≤ 6 ∧ 0 ≤ T ∧ T ≤ 6) (hP : Pk ≤ P + 600) :
    DrawnL rb P w (.returned (.tuple #[.agg #[.int .i64 W, .int .i64 T, .slice a n c], .slice la m lcap])) (((w1.setCell ⟨w.heap.size, 0, none⟩ (.int .i64 W)).setCell ⟨w.heap.size, 1, none⟩ (.int .i64 T)).setCell ⟨w.heap.size, 2, none⟩ (.slice a n c)) := by
  obtain ⟨la', m', lcap', L, h1, h2, h3, h4⟩ := h.l
  simp only [Value.slice.injEq] at h1
  obtain ⟨rfl, rfl, rfl⟩ := h1
  have hy := h.y
  refine ⟨W, T, a, n, c, xs, la, m, lcap, L, rfl, hn, h36, hs, (h.o.set3 (by omega) _ _ _).lower (by omega), h2, h3, ?_, (((h.r.setFar lr _).setFar lr _).setFar lr _).mono hP, grown_far (grown_far (grown_far h.g (Nat.le_refl _) _) (Nat.le_refl _) _) (Nat.le_refl _) _⟩
  exact (((h4.setBelow (p := ⟨w.heap.size, 0, none⟩) (by simp; omega) _).setBelow (p := ⟨w.heap.size, 1, none⟩) (by simp; omega) _).setBelow (p := ⟨w.heap.size, 2, none⟩) (by simp; omega) _).lower (by omega)
end

end Go.Proofs.Ytpcajacekmidbaa
