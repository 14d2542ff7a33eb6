/- Contract of spec.l20Some: a region is drawn that is often tiled, or a box. -/
import Derived.Test.YtdmnfafmbdmjmaaTiled
import Derived.Test.YtdmnfafmbdmjmaaBox
import Derived.Test.YtdmnfafmbdmjmaaTill
namespace Go.Proofs.Ytdmnfafmbdmjmaa
open Go.RowKit
set_option linter.unusedVariables false
set_option maxRecDepth 100000
set_option linter.unusedSimpArgs false

theorem boxF_bd (W T : Int) : 0 ≤ (boxF W T).1 ∧ (boxF W T).1 ≤ 6 ∧ 0 ≤ (boxF W T).2.1 ∧ (boxF W T).2.1 ≤ 6 := by
  unfold boxF
  split
  · next h => have := boxB_yes h; simp only; omega
  · simp

def five : Obj := .cells #[.int .i64 2, .int .i64 3, .int .i64 4, .int .i64 4, .int .i64 6] 3 (0, 0)
def three : Obj := .cells #[.int .i64 2, .int .i64 3, .int .i64 4] 3 (0, 0)
/-- What the drawn box's variable holds. -/
def BoxIn (w0 w : World) (v : Value) : Prop := ∃ (W T : Int) (a : Option Addr) (m c : Nat) (xs : List Bool), v = .agg #[.int .i64 W, .int .i64 T, .slice a m c] ∧ m = xs.length ∧ m ≤ 24 ∧ (0 ≤ W ∧ W ≤ 6 ∧ 0 ≤ T ∧ T ≤ 6) ∧ OwnsB w (w0.heap.size + 1) (.slice a m c) xs
def BoxAt (w0 w : World) : Prop := ∃ (W T : Int) (a : Option Addr) (m c : Nat) (xs : List Bool), w.heap[w0.heap.size]? = some (.cells #[.int .i64 W, .int .i64 T, .slice a m c] 25 (0, 0)) ∧ m = xs.length ∧ m ≤ 24 ∧ (0 ≤ W ∧ W ≤ 6 ∧ 0 ≤ T ∧ T ≤ 6) ∧ OwnsB w (w0.heap.size + 1) (.slice a m c) xs
structure Box3 (rb P : Nat) (w0 : World) (b0 b1 b2 b3 b4 b5 b6 b7 b8 b9 b10 b11 : Bool) (v9 v10 v11 v12 v13 v14 v15 v16 v17 v18 v19 : Value) (w : World) : Prop where
  rd : RD w rb (P + b2.toNat + b7.toNat)
  gr : w0.grownBy w (some rb)
  lt : w0.heap.size + 1 ≤ w.heap.size
  cur : b11 = false → w.heap[w0.heap.size]? = some (.cells #[.int .i64 0, .int .i64 0, .slice none 0 0] 25 (0, 0))
  f0 : b0 = true → ∃ g, w0.heap.size < g ∧ v9 = .slice (some ⟨g, 0, none⟩) 5 5 ∧ w.heap[g]? = some five
  f1 : b1 = true → v10 = .pointer (some ⟨rb, 0, none⟩)
  f2 : b2 = true → ∃ x : Nat, x < 5 ∧ v11 = .int .i64 x
  f3 : b3 = true → ∃ g x, w0.heap.size < g ∧ x < 5 ∧ v12 = .pointer (some ⟨g, x, none⟩) ∧ w.heap[g]? = some five
  f4 : b4 = true → ∃ p : Int, 0 ≤ p ∧ p ≤ 6 ∧ v13 = .int .i64 p
  f5 : b5 = true → ∃ g, w0.heap.size < g ∧ v14 = .slice (some ⟨g, 0, none⟩) 3 3 ∧ w.heap[g]? = some three
  f6 : b6 = true → v15 = .pointer (some ⟨rb, 0, none⟩)
  f7 : b7 = true → ∃ x : Nat, x < 3 ∧ v16 = .int .i64 x
  f8 : b8 = true → ∃ g x, w0.heap.size < g ∧ x < 3 ∧ v17 = .pointer (some ⟨g, x, none⟩) ∧ w.heap[g]? = some three
  f9 : b9 = true → ∃ p : Int, 0 ≤ p ∧ p ≤ 6 ∧ v18 = .int .i64 p
  f10 : b10 = true → BoxIn w0 w v19
  f11 : b11 = true → BoxAt w0 w
def I3 (rb P : Nat) (n : Int) (w0 : World) (d : Array Bool) (a : Act) (w : World) : Prop :=
  ∃ (b0 b1 b2 b3 b4 b5 b6 b7 b8 b9 b10 b11 : Bool) (v9 v10 v11 v12 v13 v14 v15 v16 v17 v18 v19 : Value), d = #[b0, b1, b2, b3, b4, b5, b6, b7, b8, b9, b10, b11] ∧
    a = { tmps := #[.pointer (some ⟨rb, 0, none⟩), .int .i64 n, undef, undef, .pointer (some ⟨w0.heap.size, 0, none⟩), .pointer (some ⟨rb, 0, none⟩), .int .i64 0, .bool true, .bool true, v9, v10, v11, v12, v13, v14, v15, v16, v17, v18, v19, undef, undef, undef, undef, undef, undef, undef, undef], defers := [] } ∧
    Box3 rb P w0 b0 b1 b2 b3 b4 b5 b6 b7 b8 b9 b10 b11 v9 v10 v11 v12 v13 v14 v15 v16 v17 v18 v19 w
theorem BoxIn.kept {w0 w w' : World} {v : Value} {rb : Nat} (h : BoxIn w0 w v) (lr : rb < w0.heap.size) (hg : w.grownBy w' (some rb)) : BoxIn w0 w' v := by
  obtain ⟨W, T, a, m, c, xs, h1, h2, h3, h4, h5⟩ := h
  exact ⟨W, T, a, m, c, xs, h1, h2, h3, h4, OwnsB.keptBy h5 hg (fun k e => by have := Option.some.inj e; omega)⟩
theorem BoxAt.kept {w0 w w' : World} {rb : Nat} (h : BoxAt w0 w) (lr : rb < w0.heap.size) (hg : w.grownBy w' (some rb)) : BoxAt w0 w' := by
  obtain ⟨W, T, a, m, c, xs, h1, h2, h3, h4, h5⟩ := h
  exact ⟨W, T, a, m, c, xs, heap_grown h1 hg (by intro e; have := Option.some.inj e; omega), h2, h3, h4, OwnsB.keptBy h5 hg (fun k e => by have := Option.some.inj e; omega)⟩
/-- Behind new blocks, or a reader's turn, what was known is known. -/
theorem Box3.kept {rb P : Nat} {w0 w w' : World} {b0 b1 b2 b3 b4 b5 b6 b7 b8 b9 b10 b11 : Bool} {v9 v10 v11 v12 v13 v14 v15 v16 v17 v18 v19 : Value} {b2' b7' : Bool} {v11' v16' : Value}
    (h : Box3 rb P w0 b0 b1 b2 b3 b4 b5 b6 b7 b8 b9 b10 b11 v9 v10 v11 v12 v13 v14 v15 v16 v17 v18 v19 w) (lr : rb < w0.heap.size) (hg : w.grownBy w' (some rb)) (hr : RD w' rb (P + b2'.toNat + b7'.toNat))
    (f2 : b2' = true → ∃ x : Nat, x < 5 ∧ v11' = .int .i64 x) (f7 : b7' = true → ∃ x : Nat, x < 3 ∧ v16' = .int .i64 x) :
    Box3 rb P w0 b0 b1 b2' b3 b4 b5 b6 b7' b8 b9 b10 b11 v9 v10 v11' v12 v13 v14 v15 v16' v17 v18 v19 w' := by
  have k : ∀ g o, w0.heap.size ≤ g → w.heap[g]? = some o → w'.heap[g]? = some o := fun g o h1 h2 => heap_grown h2 hg (by intro e; have := Option.some.inj e; omega)
  refine ⟨hr, grown_seq' h.gr hg, Nat.le_trans h.lt hg.size, fun e => k _ _ (Nat.le_refl _) (h.cur e), fun e => ?_, h.f1, f2, fun e => ?_, h.f4, fun e => ?_, h.f6, f7, fun e => ?_, h.f9, fun e => (h.f10 e).kept lr hg, fun e => (h.f11 e).kept lr hg⟩
  · obtain ⟨g, h1, h2, h3⟩ := h.f0 e; exact ⟨g, h1, h2, k _ _ (by omega) h3⟩
  · obtain ⟨g, x, h1, h2, h3, h4⟩ := h.f3 e; exact ⟨g, x, h1, h2, h3, k _ _ (by omega) h4⟩
  · obtain ⟨g, h1, h2, h3⟩ := h.f5 e; exact ⟨g, h1, h2, k _ _ (by omega) h3⟩
  · obtain ⟨g, x, h1, h2, h3, h4⟩ := h.f8 e; exact ⟨g, x, h1, h2, h3, k _ _ (by omega) h4⟩
theorem set3_block {w : World} {g : Nat} {x y z x' y' z' : Value} {t : TypeId} (h : w.heap[g]? = some (.cells #[x, y, z] t (0, 0))) : (((w.setCell ⟨g, 0, none⟩ x').setCell ⟨g, 1, none⟩ y').setCell ⟨g, 2, none⟩ z').heap[g]? = some (.cells #[x', y', z'] t (0, 0)) := by
  have h1 := block_setCell (i := 0) h x'
  have h2 := block_setCell (i := 1) h1 y'
  have h3 := block_setCell (i := 2) h2 z'
  simpa using h3
theorem heap_set3_other {w : World} {b g : Nat} {o : Obj} (h : w.heap[b]? = some o) (hne : b ≠ g) (x y z : Value) : (((w.setCell ⟨g, 0, none⟩ x).setCell ⟨g, 1, none⟩ y).setCell ⟨g, 2, none⟩ z).heap[b]? = some o :=
  heap_set_other (heap_set_other (heap_set_other h hne x) hne y) hne z
theorem stored {rb P : Nat} {w0 w : World} {b0 b1 b2 b3 b4 b5 b6 b7 b8 b9 b10 b11 : Bool} {v9 v10 v11 v12 v13 v14 v15 v16 v17 v18 v19 : Value} {W T : Int} {a : Option Addr} {m c : Nat} {xs : List Bool}
    (h : Box3 rb P w0 b0 b1 b2 b3 b4 b5 b6 b7 b8 b9 b10 b11 v9 v10 v11 v12 v13 v14 v15 v16 v17 v18 v19 w) (lr : rb < w0.heap.size) (hcur : w.heap[w0.heap.size]? = some (.cells #[.int .i64 0, .int .i64 0, .slice none 0 0] 25 (0, 0)))
    (hm : m = xs.length) (h24 : m ≤ 24) (hbd : 0 ≤ W ∧ W ≤ 6 ∧ 0 ≤ T ∧ T ≤ 6) (ho : OwnsB w (w0.heap.size + 1) (.slice a m c) xs) :
    Box3 rb P w0 b0 b1 b2 b3 b4 b5 b6 b7 b8 b9 b10 true v9 v10 v11 v12 v13 v14 v15 v16 v17 v18 v19 (((w.setCell ⟨w0.heap.size, 0, none⟩ (.int .i64 W)).setCell ⟨w0.heap.size, 1, none⟩ (.int .i64 T)).setCell ⟨w0.heap.size, 2, none⟩ (.slice a m c)) := by
  have k : ∀ g o, w0.heap.size < g → w.heap[g]? = some o → (((w.setCell ⟨w0.heap.size, 0, none⟩ (.int .i64 W)).setCell ⟨w0.heap.size, 1, none⟩ (.int .i64 T)).setCell ⟨w0.heap.size, 2, none⟩ (.slice a m c)).heap[g]? = some o := fun g o h1 h2 => heap_set3_other h2 (by omega) _ _ _
  refine ⟨((h.rd.setFar lr _).setFar lr _).setFar lr _, grown_far (grown_far (grown_far h.gr (Nat.le_refl _) _) (Nat.le_refl _) _) (Nat.le_refl _) _, by simpa using h.lt, (fun e => nomatch e), fun e => ?_, h.f1, h.f2, fun e => ?_, h.f4, fun e => ?_, h.f6, h.f7, fun e => ?_, h.f9, fun e => ?_, fun _ => ⟨W, T, a, m, c, xs, set3_block hcur, hm, h24, hbd, ho.set3 (by omega) _ _ _⟩⟩
  · obtain ⟨g, h1, h2, h3⟩ := h.f0 e; exact ⟨g, h1, h2, k _ _ h1 h3⟩
  · obtain ⟨g, x, h1, h2, h3, h4⟩ := h.f3 e; exact ⟨g, x, h1, h2, h3, k _ _ h1 h4⟩
  · obtain ⟨g, h1, h2, h3⟩ := h.f5 e; exact ⟨g, h1, h2, k _ _ h1 h3⟩
  · obtain ⟨g, x, h1, h2, h3, h4⟩ := h.f8 e; exact ⟨g, x, h1, h2, h3, k _ _ h1 h4⟩
  · obtain ⟨W', T', a', m', c', xs', h1, h2, h3, h4, h5⟩ := h.f10 e
    exact ⟨W', T', a', m', c', xs', h1, h2, h3, h4, h5.set3 (by omega) _ _ _⟩
theorem five_at {w : World} {g x : Nat} (h : w.heap[g]? = some five) (hx : x < 5) : ∃ p : Int, 0 ≤ p ∧ p ≤ 6 ∧ w.cell? ⟨g, x, none⟩ = some (.int .i64 p) := by
  unfold five at h
  have hx4 : x = 0 ∨ x = 1 ∨ x = 2 ∨ x = 3 ∨ x = 4 := by omega
  rcases hx4 with rfl | rfl | rfl | rfl | rfl
  · exact ⟨2, by omega, by omega, by simp [World.cell?, h]⟩
  · exact ⟨3, by omega, by omega, by simp [World.cell?, h]⟩
  · exact ⟨4, by omega, by omega, by simp [World.cell?, h]⟩
  · exact ⟨4, by omega, by omega, by simp [World.cell?, h]⟩
  · exact ⟨6, by omega, by omega, by simp [World.cell?, h]⟩
theorem three_at {w : World} {g x : Nat} (h : w.heap[g]? = some three) (hx : x < 3) : ∃ p : Int, 0 ≤ p ∧ p ≤ 6 ∧ w.cell? ⟨g, x, none⟩ = some (.int .i64 p) := by
  unfold three at h
  have hx4 : x = 0 ∨ x = 1 ∨ x = 2 := by omega
  rcases hx4 with rfl | rfl | rfl
  · exact ⟨2, by omega, by omega, by simp [World.cell?, h]⟩
  · exact ⟨3, by omega, by omega, by simp [World.cell?, h]⟩
  · exact ⟨4, by omega, by omega, by simp [World.cell?, h]⟩

set_option maxHeartbeats 4000000 in
theorem l20Some_any (rb P : Nat) (n : Int) (w : World) (hn0 : 0 ≤ n) (hn1 : n ≤ 1000) (hP : P ≤ 9000) (h : RD w rb P) :
    Calls Try.prog 28 #[.pointer (some ⟨rb, 0, none⟩), .int .i64 n] w (DrawnT rb (P + 100) w) := by
  have lr := h.lt
  have H := Lib.hid h; clear h
  go_enter Try.func28, Try.ntmps28
  go_wp2_with fail
  refine (pick_any rb P 4 _ (by omega) (by omega) (by omega) (H.out.below (below1 _ _))).mono ?_; rintro e w1 ⟨x, hx, rfl, r1, g1⟩
  have q1 := heap_grown (heap_new w (.cells #[.int .i64 0, .int .i64 0, .slice none 0 0] 25)) g1 (by intro e; have := Option.some.inj e; omega)
  have R1 := Lib.hid r1
  have G1 := Lib.hid (grown_seq' (World.grownBy_alloc w (.cells #[.int .i64 0, .int .i64 0, .slice none 0 0] 25) (some rb)) g1)
  have z1 := heap_lt q1
  clear r1 g1 H
  by_cases hx0 : x = 0
  · subst hx0
    go_wp2
    refine cut_region (fun a0 a' w' => ∃ (v9 v10 v11 v12 v13 v14 v15 v16 v17 v18 v19 : Value), a' = { tmps := #[.pointer (some ⟨rb, 0, none⟩), .int .i64 n, undef, undef, .pointer (some ⟨w.heap.size, 0, none⟩), .pointer (some ⟨rb, 0, none⟩), .int .i64 0, .bool true, .bool true, v9, v10, v11, v12, v13, v14, v15, v16, v17, v18, v19, undef, undef, undef, undef, undef, undef, undef, undef], defers := [] } ∧ BoxAt w w' ∧ RD w' rb (P + 1 + 2) ∧ w.grownBy w' (some rb)) ?_ ?_
    · refine wp_region_inv (I3 rb (P + 1) n w) (by kernel_rfl) (by kernel_rfl) ?_ ?_ ?_ ?_
      · rintro d a w' ⟨b0, b1, b2, b3, b4, b5, b6, b7, b8, b9, b10, b11, v9, v10, v11, v12, v13, v14, v15, v16, v17, v18, v19, rfl, -, -⟩
        exact Nat.le_refl _
      · refine ⟨false, false, false, false, false, false, false, false, false, false, false, false, undef, undef, undef, undef, undef, undef, undef, undef, undef, undef, undef, rfl, rfl, ?_⟩
        exact ⟨R1.out, grown_seq' G1.out (grown_drewN w1 1 _), z1, fun _ => q1, (fun e => nomatch e), (fun e => nomatch e), (fun e => nomatch e), (fun e => nomatch e), (fun e => nomatch e), (fun e => nomatch e), (fun e => nomatch e), (fun e => nomatch e), (fun e => nomatch e), (fun e => nomatch e), (fun e => nomatch e), (fun e => nomatch e)⟩
      · clear q1 R1 G1 z1 w1
        rintro d a w' i ⟨b0, b1, b2, b3, b4, b5, b6, b7, b8, b9, b10, b11, v9, v10, v11, v12, v13, v14, v15, v16, v17, v18, v19, rfl, rfl, hB⟩ hi
        have hlt : i < 12 := ready_lt hi
        have hun := ready_undone hi
        have hc : i = 0 ∨ i = 1 ∨ i = 2 ∨ i = 3 ∨ i = 4 ∨ i = 5 ∨ i = 6 ∨ i = 7 ∨ i = 8 ∨ i = 9 ∨ i = 10 ∨ i = 11 := by omega
        clear hlt
        rcases hc with rfl | rfl | rfl | rfl | rfl | rfl | rfl | rfl | rfl | rfl | rfl | rfl
        · have e0 : b0 = false := hun
          subst e0
          clear hun hi
          have hk := fun o => Box3.kept hB lr (World.grownBy_alloc w' o (some rb)) (hB.rd.below (below1 w' o)) hB.f2 hB.f7
          refine wpOp_go rfl rfl (fun K hK => ?_)
          go_simp
          refine hK.out _ _ ⟨true, _, _, _, _, _, _, _, _, _, _, _, _, _, _, _, _, _, _, _, _, _, _, rfl, rfl, ?_⟩
          exact { (hk _) with f0 := fun _ => ⟨w'.heap.size, by have := hB.lt; omega, rfl, heap_new _ _⟩ }
        · have e1 : b1 = false := hun
          subst e1
          clear hun hi
          refine wpOp_go rfl rfl (fun K hK => ?_)
          go_simp
          refine hK.out _ _ ⟨_, true, _, _, _, _, _, _, _, _, _, _, _, _, _, _, _, _, _, _, _, _, _, rfl, rfl, ?_⟩
          exact { hB with f1 := fun _ => rfl }
        · have e2 : b2 = false := hun
          subst e2
          have e1 : b1 = true := ready_dep 1 hi (by kernel_rfl)
          subst e1
          clear hun hi
          obtain rfl := hB.f1 rfl
          refine wpOp_go rfl rfl (fun K hK => ?_)
          go_simp
          refine (pick_any rb _ 5 _ (by omega) (by omega) (show P + 1 + _ + _ ≤ 100000 from by cases b7 <;> simp <;> omega) hB.rd).mono ?_; rintro e w2 ⟨x, hx, rfl, r2, g2⟩
          refine hK.out _ _ ⟨_, _, true, _, _, _, _, _, _, _, _, _, _, _, _, _, _, _, _, _, _, _, _, rfl, rfl, ?_⟩
          exact Box3.kept hB lr g2 (r2.mono (by cases b7 <;> simp)) (fun _ => ⟨x, hx, rfl⟩) hB.f7
        · have e3 : b3 = false := hun
          subst e3
          have e0 : b0 = true := ready_dep 0 hi (by kernel_rfl)
          subst e0
          have e2 : b2 = true := ready_dep 2 hi (by kernel_rfl)
          subst e2
          clear hun hi
          obtain ⟨g, hg, rfl, hh⟩ := hB.f0 rfl
          obtain ⟨x, hx, rfl⟩ := hB.f2 rfl
          have hxi : (x : Int) < 5 := by omega
          refine wpOp_go rfl rfl (fun K hK => ?_)
          go_simp
          refine hK.out _ _ ⟨_, _, _, true, _, _, _, _, _, _, _, _, _, _, _, _, _, _, _, _, _, _, _, rfl, rfl, ?_⟩
          exact { hB with f3 := fun _ => ⟨g, x, hg, hx, rfl, hh⟩ }
        · have e4 : b4 = false := hun
          subst e4
          have e3 : b3 = true := ready_dep 3 hi (by kernel_rfl)
          subst e3
          clear hun hi
          obtain ⟨g, x, hg, hx, rfl, hh⟩ := hB.f3 rfl
          obtain ⟨p, hp0, hp1, hpc⟩ := five_at hh hx
          refine wpOp_go rfl rfl (fun K hK => ?_)
          go_simp
          refine hK.out _ _ ⟨_, _, _, _, true, _, _, _, _, _, _, _, _, _, _, _, _, _, _, _, _, _, _, rfl, rfl, ?_⟩
          exact { hB with f4 := fun _ => ⟨p, hp0, hp1, rfl⟩ }
        · have e5 : b5 = false := hun
          subst e5
          clear hun hi
          have hk := fun o => Box3.kept hB lr (World.grownBy_alloc w' o (some rb)) (hB.rd.below (below1 w' o)) hB.f2 hB.f7
          refine wpOp_go rfl rfl (fun K hK => ?_)
          go_simp
          refine hK.out _ _ ⟨_, _, _, _, _, true, _, _, _, _, _, _, _, _, _, _, _, _, _, _, _, _, _, rfl, rfl, ?_⟩
          exact { (hk _) with f5 := fun _ => ⟨w'.heap.size, by have := hB.lt; omega, rfl, heap_new _ _⟩ }
        · have e6 : b6 = false := hun
          subst e6
          clear hun hi
          refine wpOp_go rfl rfl (fun K hK => ?_)
          go_simp
          refine hK.out _ _ ⟨_, _, _, _, _, _, true, _, _, _, _, _, _, _, _, _, _, _, _, _, _, _, _, rfl, rfl, ?_⟩
          exact { hB with f6 := fun _ => rfl }
        · have e7 : b7 = false := hun
          subst e7
          have e6 : b6 = true := ready_dep 6 hi (by kernel_rfl)
          subst e6
          clear hun hi
          obtain rfl := hB.f6 rfl
          refine wpOp_go rfl rfl (fun K hK => ?_)
          go_simp
          refine (pick_any rb _ 3 _ (by omega) (by omega) (show P + 1 + _ + _ ≤ 100000 from by cases b2 <;> simp <;> omega) hB.rd).mono ?_; rintro e w2 ⟨x, hx, rfl, r2, g2⟩
          refine hK.out _ _ ⟨_, _, _, _, _, _, _, true, _, _, _, _, _, _, _, _, _, _, _, _, _, _, _, rfl, rfl, ?_⟩
          exact Box3.kept hB lr g2 (r2.mono (by cases b2 <;> simp)) hB.f2 (fun _ => ⟨x, hx, rfl⟩)
        · have e8 : b8 = false := hun
          subst e8
          have e5 : b5 = true := ready_dep 5 hi (by kernel_rfl)
          subst e5
          have e7 : b7 = true := ready_dep 7 hi (by kernel_rfl)
          subst e7
          clear hun hi
          obtain ⟨g, hg, rfl, hh⟩ := hB.f5 rfl
          obtain ⟨x, hx, rfl⟩ := hB.f7 rfl
          have hxi : (x : Int) < 3 := by omega
          refine wpOp_go rfl rfl (fun K hK => ?_)
          go_simp
          refine hK.out _ _ ⟨_, _, _, _, _, _, _, _, true, _, _, _, _, _, _, _, _, _, _, _, _, _, _, rfl, rfl, ?_⟩
          exact { hB with f8 := fun _ => ⟨g, x, hg, hx, rfl, hh⟩ }
        · have e9 : b9 = false := hun
          subst e9
          have e8 : b8 = true := ready_dep 8 hi (by kernel_rfl)
          subst e8
          clear hun hi
          obtain ⟨g, x, hg, hx, rfl, hh⟩ := hB.f8 rfl
          obtain ⟨p, hp0, hp1, hpc⟩ := three_at hh hx
          refine wpOp_go rfl rfl (fun K hK => ?_)
          go_simp
          refine hK.out _ _ ⟨_, _, _, _, _, _, _, _, _, true, _, _, _, _, _, _, _, _, _, _, _, _, _, rfl, rfl, ?_⟩
          exact { hB with f9 := fun _ => ⟨p, hp0, hp1, rfl⟩ }
        · have e10 : b10 = false := hun
          subst e10
          have e4 : b4 = true := ready_dep 4 hi (by kernel_rfl)
          subst e4
          have e9 : b9 = true := ready_dep 9 hi (by kernel_rfl)
          subst e9
          clear hun hi
          obtain ⟨p, hp0, hp1, rfl⟩ := hB.f4 rfl
          obtain ⟨q, hq0, hq1, rfl⟩ := hB.f9 rfl
          refine wpOp_go rfl rfl (fun K hK => ?_)
          go_simp
          refine (sRegionBox_ret p q _).mono ?_; rintro e w2 ⟨a, cap, rfl, ho, hb2⟩
          refine hK.out _ _ ⟨_, _, _, _, _, _, _, _, _, _, true, _, _, _, _, _, _, _, _, _, _, _, _, rfl, rfl, ?_⟩
          have hbd := boxF_bd p q
          exact { (Box3.kept hB lr (grown_of_below' hb2 (some rb)) (hB.rd.below hb2) hB.f2 hB.f7) with f10 := fun _ => ⟨_, _, a, _, cap, _, rfl, rfl, boxF_len p q, ⟨hbd.1, hbd.2.1, hbd.2.2.1, hbd.2.2.2⟩, ho.lower hB.lt⟩ }
        · have e11 : b11 = false := hun
          subst e11
          have e10 : b10 = true := ready_dep 10 hi (by kernel_rfl)
          subst e10
          clear hun hi
          obtain ⟨W, T, a, m, c, xs, rfl, hm, h24, hbd, ho⟩ := hB.f10 rfl
          have HM := Lib.hid hm; clear hm
          have hcur := hB.cur rfl
          obtain ⟨d0, d1, d2⟩ := cells3 hcur
          have z0 := free3 hcur 0
          have z1 := free3 hcur 1
          have z2 := free3 hcur 2
          refine wpOp_go rfl rfl (fun K hK => ?_)
          go_simp
          refine hK.out _ _ ⟨_, _, _, _, _, _, _, _, _, _, _, true, _, _, _, _, _, _, _, _, _, _, _, rfl, rfl, ?_⟩
          exact stored hB lr hcur HM.out h24 hbd ho
      · rintro d a w' ⟨b0, b1, b2, b3, b4, b5, b6, b7, b8, b9, b10, b11, v9, v10, v11, v12, v13, v14, v15, v16, v17, v18, v19, rfl, rfl, hB⟩ hall
        have e11 : b11 = true := hall 11 (by decide)
        refine ⟨rfl, v9, v10, v11, v12, v13, v14, v15, v16, v17, v18, v19, rfl, hB.f11 e11, hB.rd.mono (by cases b2 <;> cases b7 <;> simp), hB.gr⟩
    · clear q1 R1 G1 z1
      rintro a' w2 ⟨v9, v10, v11, v12, v13, v14, v15, v16, v17, v18, v19, rfl, ⟨W, T, a, m, c, xs, hc, hm, h24, hbd, ho⟩, r2, g2⟩
      have HM := Lib.hid hm; clear hm
      have HO := Lib.hid ho; clear ho
      obtain ⟨d0, d1, d2⟩ := cells3 hc
      go_wp2
      refine bodyPost_ret (v := .agg #[.int .i64 W, .int .i64 T, .slice a m c]) (by simp [results, Try.results28, go_sem, d0, d1, d2]) rfl ?_
      exact ⟨W, T, a, m, c, xs, rfl, HM.out, by omega, hbd, HO.out.lower (by omega), r2.mono (by omega), g2⟩
  · have hx0b : ((x : Int) == 0) = false := by simp; omega
    by_cases hx1 : x = 1
    · subst hx1
      go_wp2_with fail
      refine (l20Region_any rb (P + 1) n _ hn0 hn1 (by omega) R1.out).mono ?_; rintro e w2 ⟨W, T, a, m, c, xs, rfl, hm, h36, hbd, ho, r2, g2⟩
      have HM := Lib.hid hm; clear hm
      have HO := Lib.hid ho; clear ho
      have q2 := heap_grown q1 g2 (by intro e; have := Option.some.inj e; omega)
      have G2 := Lib.hid (grown_seq' G1.out g2)
      have R2 := Lib.hid r2; clear r2 g2 q1 R1 G1
      obtain ⟨d0, d1, d2⟩ := cells3 q2
      have f0 := free3 q2 0
      have f1 := free3 q2 1
      have f2 := free3 q2 2
      go_wp2
      refine bodyPost_ret (v := .agg #[.int .i64 W, .int .i64 T, .slice a m c]) (by simp [results, Try.results28, go_sem, d0, d1, d2]) rfl ?_
      exact ⟨W, T, a, m, c, xs, rfl, HM.out, h36, hbd, (HO.out.set3 (by omega) _ _ _).lower (by omega), (((R2.out.setFar lr _).setFar lr _).setFar lr _).mono (by omega), grown_far (grown_far (grown_far G2.out (Nat.le_refl _) _) (Nat.le_refl _) _) (Nat.le_refl _) _⟩
    · have hx1b : ((x : Int) == 1) = false := by simp; omega
      go_wp2_with fail
      refine (l20Tiled_any rb (P + 1) n _ hn0 hn1 (by omega) R1.out).mono ?_; rintro e w2 ⟨W, T, a, m, c, xs, rfl, hm, h36, hbd, ho, r2, g2⟩
      have HM := Lib.hid hm; clear hm
      have HO := Lib.hid ho; clear ho
      have q2 := heap_grown q1 g2 (by intro e; have := Option.some.inj e; omega)
      have G2 := Lib.hid (grown_seq' G1.out g2)
      have R2 := Lib.hid r2; clear r2 g2 q1 R1 G1
      obtain ⟨d0, d1, d2⟩ := cells3 q2
      have f0 := free3 q2 0
      have f1 := free3 q2 1
      have f2 := free3 q2 2
      go_wp2
      refine bodyPost_ret (v := .agg #[.int .i64 W, .int .i64 T, .slice a m c]) (by simp [results, Try.results28, go_sem, d0, d1, d2]) rfl ?_
      exact ⟨W, T, a, m, c, xs, rfl, HM.out, h36, hbd, (HO.out.set3 (by omega) _ _ _).lower (by omega), (((R2.out.setFar lr _).setFar lr _).setFar lr _).mono (by omega), grown_far (grown_far (grown_far G2.out (Nat.le_refl _) _) (Nat.le_refl _) _) (Nat.le_refl _) _⟩
end Go.Proofs.Ytdmnfafmbdmjmaa
