/- Contract of impl.cellsAround. -/
import Derived.Test.YtpcajacekmidbaaKLaid20
import Derived.Test.YtpcajacekmidbaaKAllS
namespace Go.Proofs.Ytpcajacekmidbaa
open Go.RowKit
set_option linter.unusedVariables false
set_option maxRecDepth 100000
set_option linter.unusedSimpArgs false

def RowsAt (w : World) (a : Option Addr) (rows : List (List Int)) : Prop :=
 ∀ i, i < rows.length → ∃ b off a' cap, a = some ⟨b, off, none⟩ ∧ w.cell? ⟨b, off + i, none⟩ = some (.slice a' (rows.getD i []).length cap) ∧ IntsAt w a' (rows.getD i [])
theorem RowsAt.later {w w' : World} {B : Nat} {a : Option Addr} {rows : List (List Int)} (h : RowsAt w a rows) (hb : Below B w w') (hB : w.heap.size ≤ B) : RowsAt w' a rows := by
 intro i hi
 obtain ⟨b, off, a', cap, e, hc, hx⟩ := h i hi
 have hlt := World.block_lt_of_cell? w _ hc
 simp only at hlt
 exact ⟨b, off, a', cap, e, (hb.cell (p := ⟨b, off + i, none⟩) (by show b < B; omega)).trans hc, hx.later hb hB⟩
theorem RowsAt.below {w w' : World} {a : Option Addr} {rows : List (List Int)} (h : RowsAt w a rows) (hb : Below w.heap.size w w') : RowsAt w' a rows := h.later hb (Nat.le_refl _)
theorem RowsAt.one {w : World} {a : Option Addr} {rows : List (List Int)} (h : RowsAt w a rows) (o : Obj) : RowsAt (w.alloc o) a rows := h.below (below1 w o)
theorem own_form {w : World} {B : Nat} {v : Value} {M : List Int} (h : OwnsI w B v M) : ∃ a cap, v = .slice a M.length cap ∧ IntsAt w a M := by
 obtain ⟨a, cap, rfl⟩ := h.form2
 exact ⟨a, cap, rfl, OwnsI.at h⟩
theorem OwnsSS.at {w : World} {B : Nat} {a : Option Addr} {n cap : Nat} {rows : List (List Int)} (h : OwnsSS w B (.slice a n cap) rows) : RowsAt w a rows := by
 obtain ⟨ws, h1, h2⟩ := h
 intro i hi
 obtain ⟨a', cap', e, hx⟩ := own_form (h2.own i hi)
 rcases h1.2 with ⟨_, h0⟩ | ⟨g, cap2, cur, hv, _⟩
 · omega
 · simp only [Value.slice.injEq] at hv
   obtain ⟨rfl, rfl, rfl⟩ := hv
   refine ⟨g, 0, a', cap', rfl, ?_, hx⟩
   have hl : i < ws.length := by rw [h2.len]; exact hi
   rw [Nat.zero_add, World.ownsRow.cellAt (xs := ws) h1 i (by omega)]
   have e2 : ws.getD i (.slice none 0 0) = ws[i] := by simp [List.getD, hl]
   rw [e2] at e
   rw [List.getElem?_eq_getElem hl, e]
theorem RowsAt.cell {w : World} {a : Option Addr} {rows : List (List Int)} (h : RowsAt w a rows) {i : Nat} (hi : i < rows.length) {b off : Nat} (e : a = some ⟨b, off, none⟩) : ∃ a' cap, w.cell? ⟨b, off + i, none⟩ = some (.slice a' (rows.getD i []).length cap) ∧ IntsAt w a' (rows.getD i []) := by
 obtain ⟨b', off', a', cap, e', hc, hx⟩ := h i hi
 rw [e] at e'
 cases e'
 exact ⟨a', cap, hc, hx⟩

end Go.Proofs.Ytpcajacekmidbaa

namespace Go.Proofs.Ytpcajacekmidbaa
open Go.RowKit
set_option linter.unusedVariables false
set_option maxRecDepth 100000
set_option linter.unusedSimpArgs false

theorem ownsRow_grown {w w' : World} {B n size rb : Nat} {e : TypeId} {v : Value} {xs : List Value} (h : w.ownsRow B e size v n xs) (hg : w.grownBy w' (some rb)) (hr : rb < B) : w'.ownsRow B e size v n xs := by
 refine h.kept hg ?_
 cases hk : v.ownBlock with
 | none => exact Or.inl rfl
 | some k =>
   refine Or.inr (fun e => ?_)
   have h1 := (World.ownsRow.lt h k hk).1
   have := Option.some.inj e
   omega

theorem block_set3 {w : World} {b : Nat} {x y z : Value} {t : TypeId} (h : w.heap[b]? = some (.cells #[x, y, z] t (0, 0))) (x' y' z' : Value) : (((w.setCell ⟨b, 0, none⟩ x').setCell ⟨b, 1, none⟩ y').setCell ⟨b, 2, none⟩ z').heap[b]? = some (.cells #[x', y', z'] t (0, 0)) := by
 have h1 := block_setCell h (i := 0) x'
 have h2 := block_setCell h1 (i := 1) y'
 have h3 := block_setCell h2 (i := 2) z'
 simpa using h3

theorem cell_set3 {w : World} {b g o : Nat} {v x y z : Value} (h : w.cell? ⟨g, o, none⟩ = some v) (hb : b < g) : (((w.setCell ⟨b, 0, none⟩ x).setCell ⟨b, 1, none⟩ y).setCell ⟨b, 2, none⟩ z).cell? ⟨g, o, none⟩ = some v := by
 have e : (((w.setCell ⟨b, 0, none⟩ x).setCell ⟨b, 1, none⟩ y).setCell ⟨b, 2, none⟩ z).heap[g]? = w.heap[g]? := by
  rw [Below.heap_setCell _ _ _ _ (show g ≠ b by omega), Below.heap_setCell _ _ _ _ (show g ≠ b by omega), Below.heap_setCell _ _ _ _ (show g ≠ b by omega)]
 exact (World.cell?_of_block (a := ⟨g, o, none⟩) e).trans h
set_option maxHeartbeats 2000000 in
theorem l20Tiling_any (rb P : Nat) (w : World) (hP : P ≤ 100) (h : RD w rb P) :
 Calls Try.prog 79 #[.pointer (some ⟨rb, 0, none⟩)] w (DrawnL rb (P + 400) w) := by
 have lr := h.lt
 have H := Lib.hid h; clear h
 go_enter Try.func79, Try.ntmps79
 go_wp2_with fail
 refine (l20Some_any rb P 14 _ (by omega) (by omega) (by omega) (H.out.below (below1 _ _))).mono ?_; rintro e w2 ⟨W, T, a, n, c, xs, rfl, hm, h36, hs, o2, r2, g2⟩
 have HM := Lib.hid hm; clear hm
 have q2 := heap_grown (heap_new w (.cells #[.int .i64 0, .int .i64 0, .slice none 0 0] 25)) g2 (by intro e; have := Option.some.inj e; omega)
 have G2 := Lib.hid (grown_seq' (World.grownBy_alloc w _ _) g2)
 have O2 := Lib.hid (show OwnsB w2 (w.heap.size + 1) (.slice a n c) xs from by simpa using o2)
 have R2 := Lib.hid r2
 have lq := heap_lt q2
 have hs2 : ∀ k, (Value.slice a n c).ownBlock = some k → k < w2.heap.size := fun k e => O2.out.blkLt k e
 have HS2 := Lib.hid hs2; clear hs2
 clear o2 r2 g2 H
 obtain ⟨wB, hwB⟩ : ∃ wB, wB = w2.alloc (.cells #[.int .i64 W, .int .i64 T, .slice a n c] 25) := ⟨_, rfl⟩
 have pB : wB.heap[w2.heap.size]? = some (.cells #[.int .i64 W, .int .i64 T, .slice a n c] 25 (0, 0)) := by rw [hwB]; exact heap_new _ _
 have qB : wB.heap[w.heap.size]? = some (.cells #[.int .i64 0, .int .i64 0, .slice none 0 0] 25 (0, 0)) := by rw [hwB]; exact heap_later q2 (below1 _ _)
 have OB : Hid (OwnsB wB (w.heap.size + 1) (.slice a n c) xs) := by rw [hwB]; exact O2.out.below (below1 _ _)
 have RB : Hid (RD wB rb (P + 100 + 200)) := by rw [hwB]; exact R2.out.below (below1 _ _)
 have GB : Hid (w.grownBy wB (some rb)) := by rw [hwB]; exact grown_seq' G2.out (grown_of_below' (below1 _ _) (some rb))
 have zB : w2.heap.size + 1 ≤ wB.heap.size := by rw [hwB]; simp
 obtain ⟨N, hN⟩ : ∃ N, N = w2.heap.size := ⟨_, rfl⟩
 rw [← hN] at pB zB lq HS2
 obtain ⟨c0, c1, c2⟩ := cells3 pB
 have lB := heap_lt pB
 go_wp2_with fail
 rw [← hwB, ← hN]
 clear hwB q2 G2 O2 R2 hN
 refine (sTilingsAll_ret _ _ _ _ _ xs _ HM.out (by omega) (OwnsB.at OB.out)).mono ?_; rintro e w3 ⟨aa, acap, rfl, ho3, hb3⟩
 obtain ⟨ALL, hALL⟩ : ∃ ALL, ALL = allF W T xs := ⟨_, rfl⟩
 have hcnt : ALL.length ≤ 4096 := by rw [hALL]; exact allF_count W T xs
 have HCOL : Hid (∀ i, i < ALL.length → (ALL.getD i []).length ≤ 36) := fun i hi => by
  rw [hALL] at hi ⊢
  rw [(allF_row hi).1, ← HM.out]; exact h36
 rw [← hALL] at ho3 ⊢
 clear hALL
 obtain ⟨z, hz⟩ : ∃ z, z = ALL.length := ⟨_, rfl⟩
 rw [← hz] at hcnt ho3 ⊢
 have HZ := Lib.hid hz; clear hz
 have p3 := heap_later pB hb3
 have q3 := heap_later qB hb3
 have O3 := Lib.hid (OB.out.below hb3)
 have R3 := Lib.hid (RB.out.below hb3)
 have G3 := Lib.hid (grown_seq' GB.out (grown_of_below' hb3 (some rb)))
 have z3 := hb3.size
 obtain ⟨ws, hrow3, hrows3⟩ := ho3
 have HAA : Hid (∀ b off, aa = some ⟨b, off, none⟩ → w.heap.size < b) := fun b off e => by
  have h1 := (World.ownsRow.lt hrow3 b (by rw [e]; rfl)).1
  omega
 have ROW3 := Lib.hid hrow3; clear hrow3
 have RS3 := Lib.hid hrows3; clear hrows3
 clear c0 c1 c2 pB qB OB RB GB hb3
 obtain ⟨c0, c1, c2⟩ := cells3 p3
 have l3 := heap_lt p3
 have l3q := heap_lt q3
 -- no list is to be had: a list laid at random
 by_cases hz0 : z = 0
 · subst hz0
   go_wp2_with fail
   refine (l20Laid_any rb (P + 350) 9 _ (by omega) (by omega) (by omega) (R3.out.mono (by omega))).mono ?_; rintro e w9 ⟨W', T', a', n', c', xs', la, m, lcap, L, rfl, hm', h36', hs', o9, hmL, hm36, i9, r9, g9⟩
   have q9 := heap_grown q3 g9 (by intro e; have := Option.some.inj e; omega)
   have G9 := grown_seq' G3.out g9
   have l9 := heap_lt q9
   have zz : w.heap.size + 1 ≤ w3.heap.size := by omega
   have O9 := Lib.hid o9; clear o9
   have I9 := Lib.hid i9; clear i9
   have R9 := Lib.hid r9; clear r9
   have HM9 := Lib.hid hm'; clear hm'
   have HL9 := Lib.hid hmL; clear hmL
   clear g9
   obtain ⟨d0, d1, d2⟩ := cells3 q9
   have f0 := free3 q9 0
   have f1 := free3 q9 1
   have f2 := free3 q9 2
   go_wp2
   refine bodyPost_ret (v := .tuple #[.agg #[.int .i64 W', .int .i64 T', .slice a' n' c'], .slice la m lcap]) (by simp [results, Try.results79, go_sem, d0, d1, d2]) rfl ⟨W', T', a', n', c', xs', la, m, lcap, L, rfl, HM9.out, h36', hs', ?_, HL9.out, hm36, ?_, ?_, ?_⟩
   · exact (O9.out.set3 (by omega) _ _ _).lower (by omega)
   · exact (((I9.out.setBelow (p := ⟨w.heap.size, 0, none⟩) (by simp; omega) _).setBelow (p := ⟨w.heap.size, 1, none⟩) (by simp; omega) _).setBelow (p := ⟨w.heap.size, 2, none⟩) (by simp; omega) _).lower (by omega)
   · exact (((R9.out.setFar lr _).setFar lr _).setFar lr _).mono (by omega)
   · exact grown_far (grown_far (grown_far G9 (Nat.le_refl _) _) (Nat.le_refl _) _) (Nat.le_refl _) _
 · have hz1 : 0 < z := by omega
   have hz2 : (0 : Int) < z := by omega
   go_wp2_with fail
   refine (pick_any rb (P + 300) 8 _ (by omega) (by omega) (by omega) (R3.out.mono (by omega))).mono ?_; rintro e w4 ⟨x, hx, rfl, r4, g4⟩
   have p4 := heap_grown p3 g4 (by intro e; have := Option.some.inj e; omega)
   have q4 := heap_grown q3 g4 (by intro e; have := Option.some.inj e; omega)
   have O4 := Lib.hid (O3.out.keptBy g4 (fun k e => by have := Option.some.inj e; omega))
   have ROW4 := Lib.hid (ownsRow_grown ROW3.out g4 (by omega))
   have RS4 := Lib.hid (RS3.out.kept g4 (fun i hi k hk e => by have h1 := (RS3.out.block hi hk).1; have := Option.some.inj e; omega))
   have R4 := Lib.hid r4; clear r4
   have G4 := Lib.hid (grown_seq' G3.out g4)
   have z4 := g4.size
   clear c0 c1 c2 p3 q3 O3 R3 G3 ROW3 RS3 g4
   obtain ⟨c0, c1, c2⟩ := cells3 p4
   by_cases hx0 : x = 0
   · subst hx0
     go_wp2_with fail
     refine (l20Laid_any rb (P + 350) 9 _ (by omega) (by omega) (by omega) (R4.out.mono (by omega))).mono ?_; rintro e w9 ⟨W', T', a', n', c', xs', la, m, lcap, L, rfl, hm', h36', hs', o9, hmL, hm36, i9, r9, g9⟩
     have q9 := heap_grown q4 g9 (by intro e; have := Option.some.inj e; omega)
     have G9 := grown_seq' G4.out g9
     have l9 := heap_lt q9
     have zz : w.heap.size + 1 ≤ w4.heap.size := by omega
     have O9 := Lib.hid o9; clear o9
     have I9 := Lib.hid i9; clear i9
     have R9 := Lib.hid r9; clear r9
     have HM9 := Lib.hid hm'; clear hm'
     have HL9 := Lib.hid hmL; clear hmL
     clear g9
     obtain ⟨d0, d1, d2⟩ := cells3 q9
     have f0 := free3 q9 0
     have f1 := free3 q9 1
     have f2 := free3 q9 2
     go_wp2
     refine bodyPost_ret (v := .tuple #[.agg #[.int .i64 W', .int .i64 T', .slice a' n' c'], .slice la m lcap]) (by simp [results, Try.results79, go_sem, d0, d1, d2]) rfl ⟨W', T', a', n', c', xs', la, m, lcap, L, rfl, HM9.out, h36', hs', ?_, HL9.out, hm36, ?_, ?_, ?_⟩
     · exact (O9.out.set3 (by omega) _ _ _).lower (by omega)
     · exact (((I9.out.setBelow (p := ⟨w.heap.size, 0, none⟩) (by simp; omega) _).setBelow (p := ⟨w.heap.size, 1, none⟩) (by simp; omega) _).setBelow (p := ⟨w.heap.size, 2, none⟩) (by simp; omega) _).lower (by omega)
     · exact (((R9.out.setFar lr _).setFar lr _).setFar lr _).mono (by omega)
     · exact grown_far (grown_far (grown_far G9 (Nat.le_refl _) _) (Nat.le_refl _) _) (Nat.le_refl _) _
   · have hx1 : (0 : Int) < x := by omega
     have HPK : Hid (∀ w5, w4.drew.grownBy w5 (some rb) → ∀ y, y < z → ∃ b off a' cap, aa = some ⟨b, off, none⟩ ∧ w5.cell? ⟨b, off + y, none⟩ = some (.slice a' (ALL.getD y []).length cap) ∧ OwnsI w5 wB.heap.size (.slice a' (ALL.getD y []).length cap) (ALL.getD y [])) := by
      intro w5 g5 y hy
      have hyr : y < ALL.length := by rw [← HZ.out]; exact hy
      have h1 := ownsRow_grown (show w4.drew.ownsRow wB.heap.size 26 1 (.slice aa z acap) ALL.length ws from ROW4.out) g5 (by omega)
      have h2 := (RS4.out.below (drew_below w4)).kept g5 (fun i hi k hk e => by have h1 := (RS4.out.block hi hk).1; have := Option.some.inj e; omega)
      have ho := h2.own y hyr
      obtain ⟨a', cap', e, hx⟩ := own_form ho
      rw [e] at ho
      rcases h1.2 with ⟨_, h0⟩ | ⟨g, cap2, cur, hv, _⟩
      · omega
      · simp only [Value.slice.injEq] at hv
        obtain ⟨rfl, _, rfl⟩ := hv
        refine ⟨g, 0, a', cap', rfl, ?_, ho⟩
        have hl : y < ws.length := by rw [h2.len]; exact hyr
        have h1z : w5.ownsRow wB.heap.size 26 1 (.slice (some ⟨g, 0, none⟩) z acap) z ws := by have h := h1; rw [← HZ.out] at h; exact h
        rw [Nat.zero_add, World.ownsRow.cellAt (xs := ws) h1z y (show y < z * 1 by omega)]
        have e2 : ws.getD y (.slice none 0 0) = ws[y] := by simp [List.getD, hl]
        rw [e2] at e
        rw [List.getElem?_eq_getElem hl, e]
     obtain ⟨mm, hmm, mm1, mm2, mm3⟩ : ∃ mm : Nat, (if (256 : Int) < z then (256 : Int) else (z : Int)) = mm ∧ 1 ≤ mm ∧ mm ≤ z ∧ mm ≤ 256 := by
      by_cases h : (256 : Int) < z
      · exact ⟨256, by rw [if_pos h]; rfl, by omega, by omega, by omega⟩
      · exact ⟨z, by rw [if_neg h], by omega, by omega, by omega⟩
     have HMM := Lib.hid hmm; clear hmm
     have hne1 : w.heap.size ≠ N := by omega
     go_wp2_with fail
     have hdx : decide (0 < x) = true := by simpa using (show 0 < x by omega)
     rw [hdx]
     clear hdx
     have PD : w4.drew.heap[N]? = some (.cells #[.int .i64 W, .int .i64 T, .slice a n c] 25 (0, 0)) := p4
     have QD : w4.drew.heap[w.heap.size]? = some (.cells #[.int .i64 0, .int .i64 0, .slice none 0 0] 25 (0, 0)) := q4
     have RD4 : Hid (RD w4.drew rb (P + 301)) := R4.out.mono (by omega)
     obtain ⟨SS, hSS⟩ : ∃ SS : World → Prop, SS = fun w' : World => w'.cell? ⟨N, 0, none⟩ = some (.int .i64 W) ∧ w'.cell? ⟨N, 1, none⟩ = some (.int .i64 T) ∧ w'.cell? ⟨N, 2, none⟩ = some (.slice a n c) := ⟨_, rfl⟩
     have HSD := Lib.hid (show (fun w' : World => w'.cell? ⟨N, 0, none⟩ = some (.int .i64 W) ∧ w'.cell? ⟨N, 1, none⟩ = some (.int .i64 T) ∧ w'.cell? ⟨N, 2, none⟩ = some (.slice a n c)) w4.drew from ⟨c0, c1, c2⟩)
     clear hSS SS
     refine cut_region (fun a0 aa' w' => ∃ (v18 v19 v20 v21 v22 v23 v24 v25 v26 : Value) (a7 : Option Addr) (m7 cap7 : Nat) (M : List Int), aa' = (((((((((a0.put (some 18) v18).put (some 19) v19).put (some 20) v20).put (some 21) v21).put (some 22) v22).put (some 23) v23).put (some 24) v24).put (some 25) v25).put (some 26) v26).put (some 3) (.slice a7 m7 cap7) ∧ m7 = M.length ∧ m7 ≤ 36 ∧ OwnsI w' wB.heap.size (.slice a7 m7 cap7) M ∧ w'.heap[w.heap.size]? = some (.cells #[.int .i64 W, .int .i64 T, .slice a n c] 25 (0, 0)) ∧ OwnsB w' (w.heap.size + 1) (.slice a n c) xs ∧ RD w' rb (P + 302) ∧ w.grownBy w' (some rb)) ?_ ?_
     · refine wp_region_till (fun w' : World => w'.cell? ⟨N, 0, none⟩ = some (.int .i64 W) ∧ w'.cell? ⟨N, 1, none⟩ = some (.int .i64 T) ∧ w'.cell? ⟨N, 2, none⟩ = some (.slice a n c)) 10 (by kernel_rfl) ?_
       refine Till.take (i := 0) (v := ?_) rfl (by kernel_rfl) (by kernel_rfl) (by kernel_rfl) (by kernel_rfl) (fun _ _ _ h => nomatch h.1) (Or.inl ⟨by kernel_rfl, ?_⟩) HSD.out ?_
       rotate_left
       · intro ws s1
         obtain ⟨s10, s11, s12⟩ := s1
         go_simp
         try with_reducible rfl
       try simp only [Act.put, List.setIfInBounds_toArray, List.set_cons_zero, List.set_cons_succ]
       refine Till.take (i := 1) (v := ?_) rfl (by kernel_rfl) (by kernel_rfl) (by kernel_rfl) (by kernel_rfl) (fun _ _ _ h => nomatch h.1) (Or.inl ⟨by kernel_rfl, ?_⟩) HSD.out ?_
       rotate_left
       · intro ws s1
         obtain ⟨s10, s11, s12⟩ := s1
         go_simp
         try with_reducible rfl
       try simp only [Act.put, List.setIfInBounds_toArray, List.set_cons_zero, List.set_cons_succ]
       refine Till.take (i := 2) (v := ?_) rfl (by kernel_rfl) (by kernel_rfl) (by kernel_rfl) (by kernel_rfl) (fun _ _ _ h => nomatch h.1) (Or.inl ⟨by kernel_rfl, ?_⟩) HSD.out ?_
       rotate_left
       · intro ws s1
         obtain ⟨s10, s11, s12⟩ := s1
         go_simp
         try with_reducible rfl
       try simp only [Act.put, List.setIfInBounds_toArray, List.set_cons_zero, List.set_cons_succ]
       refine Till.take (i := 3) (v := ?_) rfl (by kernel_rfl) (by kernel_rfl) (by kernel_rfl) (by kernel_rfl) (fun _ _ _ h => nomatch h.1) (Or.inl ⟨by kernel_rfl, ?_⟩) HSD.out ?_
       rotate_left
       · intro ws s1
         obtain ⟨s10, s11, s12⟩ := s1
         go_simp
         try with_reducible rfl
       try simp only [Act.put, List.setIfInBounds_toArray, List.set_cons_zero, List.set_cons_succ]
       refine Till.take (i := 4) (v := ?_) rfl (by kernel_rfl) (by kernel_rfl) (by kernel_rfl) (by kernel_rfl) (fun _ _ _ h => nomatch h.1) (Or.inl ⟨by kernel_rfl, ?_⟩) HSD.out ?_
       rotate_left
       · intro ws s1
         obtain ⟨s10, s11, s12⟩ := s1
         go_simp
         try with_reducible rfl
       try simp only [Act.put, List.setIfInBounds_toArray, List.set_cons_zero, List.set_cons_succ]
       refine Till.take (i := 5) (v := ?_) rfl (by kernel_rfl) (by kernel_rfl) (by kernel_rfl) (by kernel_rfl) (fun _ _ _ h => nomatch h.1) (Or.inl ⟨by kernel_rfl, ?_⟩) HSD.out ?_
       rotate_left
       · intro ws s1
         obtain ⟨s10, s11, s12⟩ := s1
         go_simp
         try with_reducible rfl
       try simp only [Act.put, List.setIfInBounds_toArray, List.set_cons_zero, List.set_cons_succ]
       clear HSD
       refine Till.one (i := 6) (by kernel_rfl) rfl (by rfl) (fun K hK => ?_)
       go_simp
       rw [HMM.out]
       refine (pick_any rb (P + 301) mm _ (by omega) (by omega) (by omega) RD4.out).mono ?_; rintro e w5 ⟨y, hy, rfl, r5, g5⟩
       have p5 := heap_grown PD g5 (by intro e; have := Option.some.inj e; omega)
       have q5 := heap_grown QD g5 (by intro e; have := Option.some.inj e; omega)
       obtain ⟨b7, o7, a7, cap7, haa, hc7, hx7⟩ := HPK.out w5 g5 y (by omega)
       have HB7 : Hid (∀ b off, aa = some ⟨b, off, none⟩ → w.heap.size < b) := HAA.out
       obtain ⟨m7, hm7⟩ : ∃ m7, m7 = (ALL.getD y []).length := ⟨_, rfl⟩
       have hm36 : m7 ≤ 36 := by rw [hm7]; exact HCOL.out y (by rw [← HZ.out]; omega)
       obtain ⟨M, hM⟩ : ∃ M, M = ALL.getD y [] := ⟨_, rfl⟩
       rw [← hm7, ← hM] at hx7
       rw [← hm7] at hc7
       rw [← hM] at hm7
       have HM7 := Lib.hid hm7; clear hm7 hM
       have HX7 := Lib.hid hx7; clear hx7
       have O5 := Lib.hid ((show OwnsB w4.drew (w.heap.size + 1) (.slice a n c) xs from O4.out).keptBy g5 (fun k e => by have := Option.some.inj e; omega))
       have G5 := Lib.hid (grown_seq' G4.out (grown_seq' (grown_drewN w4 1 _) g5))
       have R5 := Lib.hid r5; clear r5 g5
       subst haa
       have y0 : (0 : Int) ≤ y := by omega
       have y1 : (y : Int) < z := by omega
       obtain ⟨u0, u1, u2⟩ := cells3 p5
       have l5 := heap_lt q5
       obtain ⟨d0, d1, d2⟩ := cells3 q5
       have f0 := free3 q5 0
       have f1 := free3 q5 1
       have f2 := free3 q5 2
       clear c0 c1 c2
       refine hK.out _ _ (fun _ => ⟨u0, u1, u2⟩) ?_
       clear hK K
       try simp only [Act.put, List.setIfInBounds_toArray, List.set_cons_zero, List.set_cons_succ]
       obtain ⟨wS, hwS⟩ : ∃ wS, wS = ((w5.setCell ⟨w.heap.size, 0, none⟩ (.int .i64 W)).setCell ⟨w.heap.size, 1, none⟩ (.int .i64 T)).setCell ⟨w.heap.size, 2, none⟩ (.slice a n c) := ⟨_, rfl⟩
       have pS : wS.heap[N]? = some (.cells #[.int .i64 W, .int .i64 T, .slice a n c] 25 (0, 0)) := by rw [hwS]; exact heap_set_other (heap_set_other (heap_set_other p5 (by simp; omega) _) (by simp; omega) _) (by simp; omega) _
       obtain ⟨v0, v1, v2⟩ := cells3 pS
       have hbz := World.block_lt_of_cell? w5 _ hc7
       have hb7 : w.heap.size < b7 := HB7.out b7 o7 rfl
       have hcS : wS.cell? ⟨b7, o7 + y, none⟩ = some (.slice a7 m7 cap7) := by rw [hwS]; exact cell_set3 hc7 hb7
       have END : Hid (OwnsI wS wB.heap.size (.slice a7 m7 cap7) M ∧ wS.heap[w.heap.size]? = some (.cells #[.int .i64 W, .int .i64 T, .slice a n c] 25 (0, 0)) ∧ OwnsB wS (w.heap.size + 1) (.slice a n c) xs ∧ RD wS rb (P + 302) ∧ w.grownBy wS (some rb)) := by
        rw [hwS]
        exact ⟨((HX7.out.setBelow (p := ⟨w.heap.size, 0, none⟩) (by simp; omega) _).setBelow (p := ⟨w.heap.size, 1, none⟩) (by simp; omega) _).setBelow (p := ⟨w.heap.size, 2, none⟩) (by simp; omega) _, block_set3 q5 _ _ _, O5.out.set3 (by omega) _ _ _, (((R5.out.setFar lr _).setFar lr _).setFar lr _).mono (by omega), grown_far (grown_far (grown_far G5.out (Nat.le_refl _) _) (Nat.le_refl _) _) (Nat.le_refl _) _⟩
       have HWS := Lib.hid hwS; clear hwS
       clear O5 R5 G5 HX7
       refine Till.two (i := 7) (j := 9) (by kernel_rfl) rfl rfl (by rfl) (by rfl) (fun K hK => ?_) (fun K hK => ?_)
       · go_simp
         refine hK.out _ _ (fun _ => ⟨u0, u1, u2⟩) ?_
         clear hK K
         try simp only [Act.put, List.setIfInBounds_toArray, List.set_cons_zero, List.set_cons_succ]
         refine Till.two (i := 8) (j := 9) (by kernel_rfl) rfl rfl (by rfl) (by rfl) (fun K hK => ?_) (fun K hK => ?_)
         · go_simp
           refine hK.out _ _ (fun _ => ⟨u0, u1, u2⟩) ?_
           clear hK K
           try simp only [Act.put, List.setIfInBounds_toArray, List.set_cons_zero, List.set_cons_succ]
           refine Till.one (i := 9) (by kernel_rfl) rfl (by rfl) (fun K hK => ?_)
           go_simp
           rw [← HWS.out]
           refine hK.out _ _ (fun _ => ⟨v0, v1, v2⟩) ?_
           clear hK K
           try simp only [Act.put, List.setIfInBounds_toArray, List.set_cons_zero, List.set_cons_succ]
           refine Till.one (i := 10) (by kernel_rfl) rfl (by rfl) (fun K hK => ?_)
           go_simp
           refine hK.out _ _ (fun h => absurd rfl h) ?_
           clear hK K
           exact Till.done (by kernel_rfl) ⟨rfl, .agg #[.int .i64 W, .int .i64 T, .slice a n c], .slice (some ⟨b7, o7, none⟩) z acap, .pointer (some ⟨rb, 0, none⟩), .slice (some ⟨b7, o7, none⟩) z acap, .int .i64 z, .int .i64 mm, .int .i64 y, .pointer (some ⟨b7, o7 + y, none⟩), .slice a7 m7 cap7, a7, m7, cap7, M, rfl, HM7.out, hm36, END.out⟩ _
         · go_simp
           rw [← HWS.out]
           refine hK.out _ _ (fun _ => ⟨v0, v1, v2⟩) ?_
           clear hK K
           try simp only [Act.put, List.setIfInBounds_toArray, List.set_cons_zero, List.set_cons_succ]
           refine Till.one (i := 8) (by kernel_rfl) rfl (by rfl) (fun K hK => ?_)
           go_simp
           refine hK.out _ _ (fun _ => ⟨v0, v1, v2⟩) ?_
           clear hK K
           try simp only [Act.put, List.setIfInBounds_toArray, List.set_cons_zero, List.set_cons_succ]
           refine Till.one (i := 10) (by kernel_rfl) rfl (by rfl) (fun K hK => ?_)
           go_simp
           refine hK.out _ _ (fun h => absurd rfl h) ?_
           clear hK K
           exact Till.done (by kernel_rfl) ⟨rfl, .agg #[.int .i64 W, .int .i64 T, .slice a n c], .slice (some ⟨b7, o7, none⟩) z acap, .pointer (some ⟨rb, 0, none⟩), .slice (some ⟨b7, o7, none⟩) z acap, .int .i64 z, .int .i64 mm, .int .i64 y, .pointer (some ⟨b7, o7 + y, none⟩), .slice a7 m7 cap7, a7, m7, cap7, M, rfl, HM7.out, hm36, END.out⟩ _
       · go_simp
         rw [← HWS.out]
         refine hK.out _ _ (fun _ => ⟨v0, v1, v2⟩) ?_
         clear hK K
         try simp only [Act.put, List.setIfInBounds_toArray, List.set_cons_zero, List.set_cons_succ]
         refine Till.one (i := 7) (by kernel_rfl) rfl (by rfl) (fun K hK => ?_)
         go_simp
         refine hK.out _ _ (fun _ => ⟨v0, v1, v2⟩) ?_
         clear hK K
         try simp only [Act.put, List.setIfInBounds_toArray, List.set_cons_zero, List.set_cons_succ]
         refine Till.one (i := 8) (by kernel_rfl) rfl (by rfl) (fun K hK => ?_)
         go_simp
         refine hK.out _ _ (fun _ => ⟨v0, v1, v2⟩) ?_
         clear hK K
         try simp only [Act.put, List.setIfInBounds_toArray, List.set_cons_zero, List.set_cons_succ]
         refine Till.one (i := 10) (by kernel_rfl) rfl (by rfl) (fun K hK => ?_)
         go_simp
         refine hK.out _ _ (fun h => absurd rfl h) ?_
         clear hK K
         exact Till.done (by kernel_rfl) ⟨rfl, .agg #[.int .i64 W, .int .i64 T, .slice a n c], .slice (some ⟨b7, o7, none⟩) z acap, .pointer (some ⟨rb, 0, none⟩), .slice (some ⟨b7, o7, none⟩) z acap, .int .i64 z, .int .i64 mm, .int .i64 y, .pointer (some ⟨b7, o7 + y, none⟩), .slice a7 m7 cap7, a7, m7, cap7, M, rfl, HM7.out, hm36, END.out⟩ _
     · rintro aa' w9 ⟨v18, v19, v20, v21, v22, v23, v24, v25, v26, a7, m7, cap7, M, rfl, hm7, hm36, hx7, q9, o9, r9, g9⟩
       have HM7 := Lib.hid hm7; clear hm7
       have HX7 := Lib.hid hx7; clear hx7
       have O9 := Lib.hid o9; clear o9
       have R9 := Lib.hid r9; clear r9
       have G9 := Lib.hid g9; clear g9
       obtain ⟨d0, d1, d2⟩ := cells3 q9
       clear c0 c1 c2 HSD
       go_wp2
       refine bodyPost_ret (v := .tuple #[.agg #[.int .i64 W, .int .i64 T, .slice a n c], .slice a7 m7 cap7]) (by simp [results, Try.results79, go_sem, d0, d1, d2]) rfl ⟨W, T, a, n, c, xs, a7, m7, cap7, M, rfl, HM.out, h36, hs, O9.out.lower (by omega), HM7.out, hm36, HX7.out.lower (by omega), R9.out.mono (by omega), G9.out⟩
end Go.Proofs.Ytpcajacekmidbaa

namespace Go.Proofs.Ytpcajacekmidbaa
open Go.RowKit
set_option linter.unusedVariables false
set_option maxRecDepth 100000
set_option linter.unusedSimpArgs false

def DrawnFz (w : World) (e : Ending) (w' : World) : Prop :=
 ∃ (W T : Int) (a : Option Addr) (n cap : Nat) (xs : List Bool) (la : Option Addr) (m lcap : Nat) (L : List Int), e = .returned (.tuple #[.agg #[.int .i64 W, .int .i64 T, .slice a n cap], .slice la m lcap]) ∧ n = xs.length ∧ n ≤ 36 ∧ (0 ≤ W ∧ W ≤ 6 ∧ 0 ≤ T ∧ T ≤ 6) ∧ OwnsB w' (w.heap.size + 1) (.slice a n cap) xs ∧ m = L.length ∧ m ≤ 36 ∧ OwnsI w' (w.heap.size + 1) (.slice la m lcap) L ∧ Below w.heap.size w w'
theorem OwnsI.set3z {w : World} {B : Nat} {v : Value} {xs : List Int} (h : OwnsI w B v xs) {b : Nat} (hb : b < B) (x y z : Value) : OwnsI (((w.setCell ⟨b, 0, none⟩ x).setCell ⟨b, 1, none⟩ y).setCell ⟨b, 2, none⟩ z) B v xs :=
 ((h.setBelow (p := ⟨b, 0, none⟩) hb x).setBelow (p := ⟨b, 1, none⟩) hb y).setBelow (p := ⟨b, 2, none⟩) hb z

set_option maxHeartbeats 4000000 in
theorem drawFrozen_any (cb : Option Addr) (n cap : Nat) (zs : List Int) (w : World) (hn : n = zs.length) (hn' : n ≤ 1048576) (hcap : n ≤ cap) (hb : BytesAt w cb zs) :
 Calls Try.prog 35 #[.slice cb n cap] w (DrawnFz w) := by
 have HN := Lib.hid hn; clear hn
 have HB := Lib.hid hb; clear hb
 go_enter Try.func35, Try.ntmps35
 go_wp2_with fail
 refine (l20Open_any _ _ _ zs _ HN.out hn' hcap (HB.out.below (below1 _ _))).mono ?_; rintro e w1 ⟨rfl, r1, b1⟩
 have q1 := heap_later (heap_new w (.cells #[.int .i64 0, .int .i64 0, .slice none 0 0] 25)) b1
 have B1 := Lib.hid (below_seq (below1 w _) b1)
 have R1 : Hid (RD w1 (w.heap.size + 1) 0) := by show RD _ _ _; simpa using r1
 have l1 := heap_lt q1
 have l2 := R1.out.lt
 clear r1 b1
 go_wp2_with fail
 refine (l20Tiling_any (w.heap.size + 1) 0 _ (by omega) R1.out).mono ?_; rintro e w2 ⟨W, T, a, m, c, xs, la, q, lcap, L, rfl, hm, h36, hs, o2, hq, hq36, i2, r2, g2⟩
 have q2 := heap_grown q1 g2 (by simp)
 have B2 := Lib.hid (below_grown B1.out g2 (Nat.le_refl _) (fun k e => by cases e; omega))
 have HM := Lib.hid hm
 have HQ := Lib.hid hq
 have O2 := Lib.hid o2
 have I2 := Lib.hid i2
 clear o2 r2 g2 hm hq i2
 obtain ⟨d0, d1, d2⟩ := cells3 q2
 have f0 := free3 q2 0
 have f1 := free3 q2 1
 have f2 := free3 q2 2
 go_wp2
 refine bodyPost_ret (v := .tuple #[.agg #[.int .i64 W, .int .i64 T, .slice a m c], .slice la q lcap]) (by simp [results, Try.results35, go_sem, d0, d1, d2]) rfl ⟨W, T, a, m, c, xs, la, q, lcap, L, rfl, HM.out, h36, hs, ?_, HQ.out, hq36, ?_, below_set3 B2.out (Nat.le_refl _) _ _ _⟩
 · exact (O2.out.set3 (by omega) _ _ _).lower (by omega)
 · exact (I2.out.set3z (by omega) _ _ _).lower (by omega)


end Go.Proofs.Ytpcajacekmidbaa

namespace Go.Proofs.Ytpcajacekmidbaa
open Go.RowKit
set_option linter.unusedVariables false
set_option maxRecDepth 100000
set_option linter.unusedSimpArgs false



def dX (d : Nat) : Int := (d % 3 : Nat) - 1
def dY (d : Nat) : Int := (d / 3 : Nat) - 1
def arOk (W T : Int) (xs : List Bool) (x y : Int) (corners : Bool) (d : Nat) : Bool :=
 !(dX d == 0 && dY d == 0) && !(dX d != 0 && dY d != 0 && !corners) && atB W T xs (x + dX d) (y + dY d)
def arList (W T : Int) (xs : List Bool) (x y : Int) (corners : Bool) (D : Nat) : List Int :=
 ((List.range D).filter (arOk W T xs x y corners)).map fun d => (y + dY d) * W + (x + dX d)
theorem arList_succ (W T : Int) (xs : List Bool) (x y : Int) (corners : Bool) (D : Nat) :
 arList W T xs x y corners (D + 1) = arList W T xs x y corners D ++ if arOk W T xs x y corners D then [(y + dY D) * W + (x + dX D)] else [] := by
 unfold arList
 rw [List.range_succ, List.filter_append, List.map_append]
 congr 1
 by_cases h : arOk W T xs x y corners D = true
 · simp [h]
 · rw [Bool.not_eq_true] at h; simp [h]
theorem arList_len (W T : Int) (xs : List Bool) (x y : Int) (corners : Bool) (D : Nat) : (arList W T xs x y corners D).length ≤ D := by
 unfold arList
 rw [List.length_map]
 have := List.length_filter_le (arOk W T xs x y corners) (List.range D)
 rw [List.length_range] at this; exact this

theorem dX_at {j i : Nat} (h : i < 3) : dX (3 * j + i) = (i : Int) - 1 := by
 unfold dX; rw [Nat.mul_add_mod, Nat.mod_eq_of_lt h]
theorem dY_at {j i : Nat} (h : i < 3) : dY (3 * j + i) = (j : Int) - 1 := by
 unfold dY; rw [Nat.mul_add_div (by omega), Nat.div_eq_of_lt h]; simp
theorem arList_skip {W T : Int} {xs : List Bool} {x y : Int} {corners : Bool} {D : Nat} (h : arOk W T xs x y corners D = false) : arList W T xs x y corners (D + 1) = arList W T xs x y corners D := by
 rw [arList_succ, h]; simp
theorem arList_take {W T : Int} {xs : List Bool} {x y : Int} {corners : Bool} {D : Nat} (h : arOk W T xs x y corners D = true) : arList W T xs x y corners (D + 1) = arList W T xs x y corners D ++ [(y + dY D) * W + (x + dX D)] := by
 rw [arList_succ, h]; simp

set_option maxHeartbeats 8000000 in
theorem cellsAround_any (W T : Int) (a : Option Addr) (n cap : Nat) (xs : List Bool) (cell : Nat) (corners : Bool) (w : World) (hn : n = xs.length) (hW0 : 1 ≤ W) (hW1 : W ≤ 100) (hT0 : 0 ≤ T) (hT1 : T ≤ 100) (hWT : (n : Int) = W * T) (hc : cell < n) (ha : BoolsAt w a xs) :
 Calls Try.prog 170 #[.agg #[.int .i64 W, .int .i64 T, .slice a n cap], .int .i64 cell, .bool corners] w fun e w' => ∃ v, e = .returned v ∧ OwnsI w' w.heap.size v (arList W T xs ((cell : Int) % W) ((cell : Int) / W) corners 9) ∧ Below w.heap.size w w' := by
 have pb := (prod_bd (by omega) hW1 hT0 hT1).2
 have n4 : n ≤ 10000 := by omega
 obtain ⟨i0, hi, hz0, hz1, hz2⟩ := info_parts infoInt
 have HN := Lib.hid hn; clear hn
 have HWT := Lib.hid hWT; clear hWT
 have HA := Lib.hid ha; clear ha
 obtain ⟨m1, m2, m3, m4⟩ := divmod_bd (W := W) (k := cell) hW0
 have e0 : (0 : Int) ≤ cell := by omega
 have hWn : W ≠ 0 := by omega
 go_enter Try.func170, Try.ntmps170
 go_wp2
 go_quiet (fail)
 go_wp2
 generalize hx : (cell : Int) % W = x at *
 generalize hy : (cell : Int) / W = y at *
 obtain ⟨wA, hwA⟩ : ∃ wA, wA = (w.alloc (.cells #[.int .i64 W, .int .i64 T, .slice a n cap] 25)).drewN nq := ⟨_, rfl⟩
 have pA : wA.heap[w.heap.size]? = some (.cells #[.int .i64 W, .int .i64 T, .slice a n cap] 25 (0, 0)) := by rw [hwA]; exact heap_new w _
 have bA : Below w.heap.size w wA := by rw [hwA]; exact below_seq (below1 _ _) (drewN_below _ _)
 rw [← hwA]
 clear hwA
 go_loopw [7, 10, 11, 12, 13] (fun v dy _ _ _ wr => ∃ (j : Nat) (q : Int), j ≤ 3 ∧ Hid (q = (j : Int) - 1) ∧ -1 ≤ q ∧ q ≤ 2 ∧ dy = .int .i64 q ∧ OwnsI wr (w.heap.size + 1) v (arList W T xs x y corners (3 * j)) ∧ wr.heap[w.heap.size]? = some (.cells #[.int .i64 W, .int .i64 T, .slice a n cap] 25 (0, 0)) ∧ Below w.heap.size w wr) (fun _ dy _ _ _ _ => (2 - intOf dy).toNat)
 case atStart => exact ⟨0, -1, by omega, by show _ = _; omega, by omega, by omega, rfl, OwnsI.nil _ _, pA, bA⟩
 case round =>
  obtain ⟨j, q, hj, HQ, hq0, hq1, rfl, hown, hp, hbel⟩ := hrel
  have HO := Lib.hid hown; clear hown
  by_cases hlt : j < 3
  · have hj2 : q ≤ 1 := by have := HQ.out; omega
    go_wp2
    go_loopw [7, 11, 12, 13] (fun v dx _ _ wr => ∃ (i : Nat) (p : Int), i ≤ 3 ∧ Hid (p = (i : Int) - 1) ∧ -1 ≤ p ∧ p ≤ 2 ∧ dx = .int .i64 p ∧ OwnsI wr (w.heap.size + 1) v (arList W T xs x y corners (3 * j + i)) ∧ wr.heap[w.heap.size]? = some (.cells #[.int .i64 W, .int .i64 T, .slice a n cap] 25 (0, 0)) ∧ Below w.heap.size w wr) (fun _ dx _ _ _ => (2 - intOf dx).toNat)
    case atStart => exact ⟨0, -1, by omega, by show _ = _; omega, by omega, by omega, rfl, HO.out, hp, hbel⟩
    case round =>
     clear HO hp hbel
     obtain ⟨i, p, hi3, HP, hp0, hp1, rfl, hown, hp, hbel⟩ := hrel
     have HO := Lib.hid hown; clear hown
     obtain ⟨c0, c1, c2⟩ := cells3 hp
     have lp := heap_lt hp
     by_cases hlti : i < 3
     · have hi2 : p ≤ 1 := by have := HP.out; omega
       have eX : Hid (dX (3 * j + i) = p) := by show _ = _; rw [dX_at hlti, HP.out]
       have eY : Hid (dY (3 * j + i) = q) := by show _ = _; rw [dY_at hlti, HQ.out]
       have HAt := Lib.hid (HA.out.below hbel)
       have hall := arList_len W T xs x y corners (3 * j + i)
       have NXT : ∀ wn : World, Hid (arOk W T xs x y corners (3 * j + i) = false) → arList W T xs x y corners (3 * j + (i + 1)) = arList W T xs x y corners (3 * j + i) := fun _ h => arList_skip h.out
       have NXT' := Lib.hid NXT; clear NXT
       cases hpz : (p == 0)
       all_goals
        cases hqz : (q == 0)
        all_goals
         have hpz' : (p != 0) = !(p == 0) := rfl
         have hqz' : (q != 0) = !(q == 0) := rfl
         rw [hpz] at hpz'
         rw [hqz] at hqz'
         simp only [Bool.not_true, Bool.not_false] at hpz' hqz'
       · cases hcn : corners
         · have ok : arOk W T xs x y false (3 * j + i) = false := by unfold arOk; rw [eX.out, eY.out, hpz', hqz']; simp
           subst hcn
           have OKF := Lib.hid ok; clear ok
           have BEL := Lib.hid hbel; clear hbel
           go_wp2
           go_roundw
           case rel => exact ⟨i + 1, p + 1, by omega, by show _ = _; rw [HP.out]; omega, by omega, by omega, rfl, by rw [NXT'.out wr OKF]; exact HO.out, hp, BEL.out⟩
           case measure => simp [intOf]; omega
         · subst hcn
           have BEL := Lib.hid hbel; clear hbel
           cases hat : atB W T xs (x + p) (y + q)
           · have ok : arOk W T xs x y true (3 * j + i) = false := by unfold arOk; rw [eX.out, eY.out, hat]; simp
             have OKF := Lib.hid ok; clear ok
             go_wp2_with fail
             refine (hasCell_any _ _ _ _ _ _ _ xs _ HN.out (by omega) (by omega) (by omega) (by omega) HWT.out HAt.out).mono ?_; rintro e w6 ⟨rfl, hb6⟩
             have p6 := heap_later hp hb6
             have B6 := Lib.hid (below_seq BEL.out hb6)
             have O6 := Lib.hid (HO.out.below hb6)
             clear c0 c1 c2
             go_wp2
             go_roundw
             case rel => exact ⟨i + 1, p + 1, by omega, by show _ = _; rw [HP.out]; omega, by omega, by omega, rfl, by rw [NXT'.out wr OKF]; exact O6.out, p6, B6.out⟩
             case measure => simp [intOf]; omega
           · have ok : arOk W T xs x y true (3 * j + i) = true := by unfold arOk; rw [eX.out, eY.out, hat, hpz, hqz]; (try rw [hpz']); (try rw [hqz']); simp
             have OKF := Lib.hid ok; clear ok
             have hin : 0 ≤ x + p ∧ x + p < W ∧ 0 ≤ y + q ∧ y + q < T := by
              have h := hat; simp only [atB, Bool.and_eq_true, inF, decide_eq_true_eq] at h; exact h.1
             obtain ⟨n0, n1, n2, n3⟩ := hin
             obtain ⟨i0', i1', i2'⟩ := idx_bd n0 n1 n2 n3
             go_wp2_with fail
             refine (hasCell_any _ _ _ _ _ _ _ xs _ HN.out (by omega) (by omega) (by omega) (by omega) HWT.out HAt.out).mono ?_; rintro e w6 ⟨rfl, hb6⟩
             have p6 := heap_later hp hb6
             have B6 := Lib.hid (below_seq BEL.out hb6)
             have O6 := Lib.hid (HO.out.below hb6)
             clear c0 c1 c2
             obtain ⟨c0, c1, c2⟩ := cells3 p6
             go_wp2_with fail
             refine (cellAt_any _ _ _ _ (.bool false) _ _ _ _ n0 (by omega) i0' (by omega)).mono ?_; rintro e w7 ⟨rfl, hb7⟩
             have p7 := heap_later p6 hb7
             have B7 := Lib.hid (below_seq B6.out hb7)
             have O7 := Lib.hid (O6.out.below hb7)
             have hz7 := heap_lt p7
             clear c0 c1 c2
             go_wp2_with (at_builtin; refine wpList_append_own _ rfl _ _ 26 rfl (w.heap.size + 1) 3 i0 (.int .i64 0) 1 8 Try.underlying26 hi hz0 hz1 hz2 rfl (by decide) _ (arList W T xs x y true (3 * j + i)).length ((arList W T xs x y true (3 * j + i)).map (Value.int .i64)) rfl (World.ownsRow.alloc O7.out _) ⟨w7.heap.size, 0, none⟩ 1 1 [.int .i64 ((y + q) * W + (x + p))] rfl rfl (new_int _ _) (one_int _) (by unfold maxLen; omega) (by omega) (by simp; omega) ?_; intro v' w8 hown' hgrow _; have p8 := heap_grown (heap_later p7 (below1 _ _)) hgrow (O7.out.ownBlock (by omega)); have O8 := Lib.hid (OwnsI.ofRow (xs := arList W T xs x y true (3 * j + (i + 1))) hown' (by rw [show 3 * j + (i + 1) = 3 * j + i + 1 from rfl, arList_take OKF.out, eX.out, eY.out]; simp) (by rw [show 3 * j + (i + 1) = 3 * j + i + 1 from rfl, arList_take OKF.out]; simp)); have B8 := Lib.hid (below_grown (below_seq B7.out (below1 _ _)) hgrow (Nat.le_refl _) (O7.out.ownAt (by omega))); clear hown' hgrow)
             go_roundw
             case rel => exact ⟨i + 1, p + 1, by omega, by show _ = _; rw [HP.out]; omega, by omega, by omega, rfl, O8.out, p8, B8.out⟩
             case measure => simp [intOf]; omega
       · have BEL := Lib.hid hbel; clear hbel
         cases hat : atB W T xs (x + p) (y + q)
         · have ok : arOk W T xs x y corners (3 * j + i) = false := by unfold arOk; rw [eX.out, eY.out, hat]; simp
           have OKF := Lib.hid ok; clear ok
           go_wp2_with fail
           refine (hasCell_any _ _ _ _ _ _ _ xs _ HN.out (by omega) (by omega) (by omega) (by omega) HWT.out HAt.out).mono ?_; rintro e w6 ⟨rfl, hb6⟩
           have p6 := heap_later hp hb6
           have B6 := Lib.hid (below_seq BEL.out hb6)
           have O6 := Lib.hid (HO.out.below hb6)
           clear c0 c1 c2
           go_wp2
           go_roundw
           case rel => exact ⟨i + 1, p + 1, by omega, by show _ = _; rw [HP.out]; omega, by omega, by omega, rfl, by rw [NXT'.out wr OKF]; exact O6.out, p6, B6.out⟩
           case measure => simp [intOf]; omega
         · have ok : arOk W T xs x y corners (3 * j + i) = true := by unfold arOk; rw [eX.out, eY.out, hat, hpz, hqz]; (try rw [hpz']); (try rw [hqz']); simp
           have OKF := Lib.hid ok; clear ok
           have hin : 0 ≤ x + p ∧ x + p < W ∧ 0 ≤ y + q ∧ y + q < T := by
            have h := hat; simp only [atB, Bool.and_eq_true, inF, decide_eq_true_eq] at h; exact h.1
           obtain ⟨n0, n1, n2, n3⟩ := hin
           obtain ⟨i0', i1', i2'⟩ := idx_bd n0 n1 n2 n3
           go_wp2_with fail
           refine (hasCell_any _ _ _ _ _ _ _ xs _ HN.out (by omega) (by omega) (by omega) (by omega) HWT.out HAt.out).mono ?_; rintro e w6 ⟨rfl, hb6⟩
           have p6 := heap_later hp hb6
           have B6 := Lib.hid (below_seq BEL.out hb6)
           have O6 := Lib.hid (HO.out.below hb6)
           clear c0 c1 c2
           obtain ⟨c0, c1, c2⟩ := cells3 p6
           go_wp2_with fail
           refine (cellAt_any _ _ _ _ (.bool false) _ _ _ _ n0 (by omega) i0' (by omega)).mono ?_; rintro e w7 ⟨rfl, hb7⟩
           have p7 := heap_later p6 hb7
           have B7 := Lib.hid (below_seq B6.out hb7)
           have O7 := Lib.hid (O6.out.below hb7)
           have hz7 := heap_lt p7
           clear c0 c1 c2
           go_wp2_with (at_builtin; refine wpList_append_own _ rfl _ _ 26 rfl (w.heap.size + 1) 3 i0 (.int .i64 0) 1 8 Try.underlying26 hi hz0 hz1 hz2 rfl (by decide) _ (arList W T xs x y corners (3 * j + i)).length ((arList W T xs x y corners (3 * j + i)).map (Value.int .i64)) rfl (World.ownsRow.alloc O7.out _) ⟨w7.heap.size, 0, none⟩ 1 1 [.int .i64 ((y + q) * W + (x + p))] rfl rfl (new_int _ _) (one_int _) (by unfold maxLen; omega) (by omega) (by simp; omega) ?_; intro v' w8 hown' hgrow _; have p8 := heap_grown (heap_later p7 (below1 _ _)) hgrow (O7.out.ownBlock (by omega)); have O8 := Lib.hid (OwnsI.ofRow (xs := arList W T xs x y corners (3 * j + (i + 1))) hown' (by rw [show 3 * j + (i + 1) = 3 * j + i + 1 from rfl, arList_take OKF.out, eX.out, eY.out]; simp) (by rw [show 3 * j + (i + 1) = 3 * j + i + 1 from rfl, arList_take OKF.out]; simp)); have B8 := Lib.hid (below_grown (below_seq B7.out (below1 _ _)) hgrow (Nat.le_refl _) (O7.out.ownAt (by omega))); clear hown' hgrow)
           go_roundw
           case rel => exact ⟨i + 1, p + 1, by omega, by show _ = _; rw [HP.out]; omega, by omega, by omega, rfl, O8.out, p8, B8.out⟩
           case measure => simp [intOf]; omega
       · have BEL := Lib.hid hbel; clear hbel
         cases hat : atB W T xs (x + p) (y + q)
         · have ok : arOk W T xs x y corners (3 * j + i) = false := by unfold arOk; rw [eX.out, eY.out, hat]; simp
           have OKF := Lib.hid ok; clear ok
           go_wp2_with fail
           refine (hasCell_any _ _ _ _ _ _ _ xs _ HN.out (by omega) (by omega) (by omega) (by omega) HWT.out HAt.out).mono ?_; rintro e w6 ⟨rfl, hb6⟩
           have p6 := heap_later hp hb6
           have B6 := Lib.hid (below_seq BEL.out hb6)
           have O6 := Lib.hid (HO.out.below hb6)
           clear c0 c1 c2
           go_wp2
           go_roundw
           case rel => exact ⟨i + 1, p + 1, by omega, by show _ = _; rw [HP.out]; omega, by omega, by omega, rfl, by rw [NXT'.out wr OKF]; exact O6.out, p6, B6.out⟩
           case measure => simp [intOf]; omega
         · have ok : arOk W T xs x y corners (3 * j + i) = true := by unfold arOk; rw [eX.out, eY.out, hat, hpz, hqz]; (try rw [hpz']); (try rw [hqz']); simp
           have OKF := Lib.hid ok; clear ok
           have hin : 0 ≤ x + p ∧ x + p < W ∧ 0 ≤ y + q ∧ y + q < T := by
            have h := hat; simp only [atB, Bool.and_eq_true, inF, decide_eq_true_eq] at h; exact h.1
           obtain ⟨n0, n1, n2, n3⟩ := hin
           obtain ⟨i0', i1', i2'⟩ := idx_bd n0 n1 n2 n3
           go_wp2_with fail
           refine (hasCell_any _ _ _ _ _ _ _ xs _ HN.out (by omega) (by omega) (by omega) (by omega) HWT.out HAt.out).mono ?_; rintro e w6 ⟨rfl, hb6⟩
           have p6 := heap_later hp hb6
           have B6 := Lib.hid (below_seq BEL.out hb6)
           have O6 := Lib.hid (HO.out.below hb6)
           clear c0 c1 c2
           obtain ⟨c0, c1, c2⟩ := cells3 p6
           go_wp2_with fail
           refine (cellAt_any _ _ _ _ (.bool false) _ _ _ _ n0 (by omega) i0' (by omega)).mono ?_; rintro e w7 ⟨rfl, hb7⟩
           have p7 := heap_later p6 hb7
           have B7 := Lib.hid (below_seq B6.out hb7)
           have O7 := Lib.hid (O6.out.below hb7)
           have hz7 := heap_lt p7
           clear c0 c1 c2
           go_wp2_with (at_builtin; refine wpList_append_own _ rfl _ _ 26 rfl (w.heap.size + 1) 3 i0 (.int .i64 0) 1 8 Try.underlying26 hi hz0 hz1 hz2 rfl (by decide) _ (arList W T xs x y corners (3 * j + i)).length ((arList W T xs x y corners (3 * j + i)).map (Value.int .i64)) rfl (World.ownsRow.alloc O7.out _) ⟨w7.heap.size, 0, none⟩ 1 1 [.int .i64 ((y + q) * W + (x + p))] rfl rfl (new_int _ _) (one_int _) (by unfold maxLen; omega) (by omega) (by simp; omega) ?_; intro v' w8 hown' hgrow _; have p8 := heap_grown (heap_later p7 (below1 _ _)) hgrow (O7.out.ownBlock (by omega)); have O8 := Lib.hid (OwnsI.ofRow (xs := arList W T xs x y corners (3 * j + (i + 1))) hown' (by rw [show 3 * j + (i + 1) = 3 * j + i + 1 from rfl, arList_take OKF.out, eX.out, eY.out]; simp) (by rw [show 3 * j + (i + 1) = 3 * j + i + 1 from rfl, arList_take OKF.out]; simp)); have B8 := Lib.hid (below_grown (below_seq B7.out (below1 _ _)) hgrow (Nat.le_refl _) (O7.out.ownAt (by omega))); clear hown' hgrow)
           go_roundw
           case rel => exact ⟨i + 1, p + 1, by omega, by show _ = _; rw [HP.out]; omega, by omega, by omega, rfl, O8.out, p8, B8.out⟩
           case measure => simp [intOf]; omega
       · have ok : arOk W T xs x y corners (3 * j + i) = false := by unfold arOk; rw [eX.out, eY.out, hpz, hqz]; rfl
         have OKF := Lib.hid ok; clear ok
         have BEL := Lib.hid hbel; clear hbel
         go_wp2
         go_roundw
         case rel => exact ⟨i + 1, p + 1, by omega, by show _ = _; rw [HP.out]; omega, by omega, by omega, rfl, by rw [NXT'.out wr OKF]; exact HO.out, hp, BEL.out⟩
         case measure => simp [intOf]; omega
     · have hi2 : ¬ p ≤ 1 := by have := HP.out; omega
       obtain rfl : i = 3 := by omega
       have BEL := Lib.hid hbel; clear hbel
       go_wp2
       go_roundw
       case rel => exact ⟨j + 1, q + 1, by omega, by show _ = _; rw [HQ.out]; omega, by omega, by omega, rfl, by rw [show 3 * (j + 1) = 3 * j + 3 from rfl]; exact HO.out, hp, BEL.out⟩
       case measure => simp [intOf]; omega
  · have hj2 : ¬ q ≤ 1 := by have := HQ.out; omega
    obtain rfl : j = 3 := by omega
    have BEL := Lib.hid hbel; clear hbel
    go_wp2
    go_ret
    exact ⟨_, rfl, HO.out.lower (by omega), BEL.out⟩
end Go.Proofs.Ytpcajacekmidbaa
