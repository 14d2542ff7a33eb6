/- The draw of CellsBeside. No statement is proved here. -/
import Derived.Test.YthlagmnnkckcnaaDraw7
namespace Go.Proofs.Ythlagmnnkckcnaa
open Go.RowKit
set_option linter.unusedVariables false
set_option maxRecDepth 100000
set_option linter.unusedSimpArgs false

theorem own_nilX (w : World) {B : Nat} (hB : B ≤ w.heap.size) : OwnsI (w.alloc (.cells #[] 3 (0, 0))) B (.slice (some ⟨w.heap.size, 0, none⟩) 0 0) [] :=
  World.ownsRow_made w #[] 0 hB (Nat.zero_le _) rfl
theorem OwnsB.aside {w w' : World} {B D : Nat} {v : Value} {xs : List Bool} {row : Option Nat} (h : OwnsB w B v xs) (hl : ∀ k, v.ownBlock = some k → k < D) (hg : w.grownBy w' row) (hr : ∀ k, row = some k → D ≤ k) : OwnsB w' B v xs := by
  refine World.ownsRow.kept h hg ?_
  cases e : v.ownBlock with
  | none => exact Or.inl rfl
  | some k =>
    refine Or.inr (fun h => ?_)
    have a := hl k e
    have := hr k h.symm
    omega

set_option maxHeartbeats 4000000 in
theorem drawCellsBeside_any (cb : Option Addr) (n cap : Nat) (zs : List Int) (w : World) (hn : n = zs.length) (hn' : n ≤ 1048576) (hcap : n ≤ cap) (hb : BytesAt w cb zs) :
    Calls Try.prog 23 #[.slice cb n cap] w (DrawnXL w) := by
  obtain ⟨i0, hi, hz0, hz1, hz2⟩ := info_parts infoInt
  have HN := Lib.hid hn; clear hn
  have HB := Lib.hid hb; clear hb
  go_enter Try.func23, Try.ntmps23
  go_wp2_with fail
  refine (l20Open_any _ _ _ zs _ HN.out hn' hcap (HB.out.below (below1 _ _))).mono ?_; rintro e w1 ⟨rfl, r1, b1⟩
  have q1 := heap_later (heap_new w (.cells #[.int .i64 0, .int .i64 0, .slice none 0 0] 25)) b1
  have B1 := Lib.hid (below_seq (below1 w _) b1)
  have R1 : Hid (RD w1 (w.heap.size + 1) 0) := by show RD _ _ _; simpa using r1
  have l1 := heap_lt q1
  have l2 := R1.out.lt
  clear r1 b1
  go_wp2_with fail
  refine (l20Some_any (w.heap.size + 1) 0 9 _ (by omega) (by omega) (by omega) R1.out).mono ?_; rintro e w2 ⟨W, T, a, m, c, xs, rfl, hm, h36, hs, o2, r2, g2⟩
  have q2 := heap_grown q1 g2 (by simp)
  have B2 := Lib.hid (below_grown B1.out g2 (Nat.le_refl _) (fun k e => by cases e; omega))
  have O2 := Lib.hid o2
  have R2 := Lib.hid r2
  have HM := Lib.hid hm
  clear o2 r2 g2 hm
  have l3 : w.heap.size + 1 < w2.heap.size := R2.out.lt
  obtain ⟨D, hD⟩ : ∃ D, D = w2.heap.size := ⟨_, rfl⟩
  have hOD : ∀ k, (Value.slice a m c).ownBlock = some k → k < D := fun k e => by rw [hD]; exact O2.out.blkLt k e
  obtain ⟨w3, hw3⟩ : ∃ w3, w3 = (w2.alloc (.cells #[.int .i64 W, .int .i64 T, .slice a m c] 25)).alloc (.cells #[] 3 (0, 0)) := ⟨_, rfl⟩
  have p3 : w3.heap[D]? = some (.cells #[.int .i64 W, .int .i64 T, .slice a m c] 25 (0, 0)) := by rw [hw3, hD]; exact heap_later (heap_new w2 _) (below1 _ _)
  have q3 : w3.heap[w.heap.size]? = some (.cells #[.int .i64 0, .int .i64 0, .slice none 0 0] 25 (0, 0)) := by rw [hw3]; exact heap_later (heap_later q2 (below1 _ _)) (below1 _ _)
  have B3 : Hid (Below w.heap.size w w3) := by rw [hw3]; exact below_seq B2.out (below2 _ _ _)
  have O3 : Hid (OwnsB w3 w1.heap.size (.slice a m c) xs) := by rw [hw3]; exact (O2.out.alloc _).alloc _
  have R3 : Hid (RD w3 (w.heap.size + 1) (0 + 100 + 200)) := by rw [hw3]; exact (R2.out.below (below1 _ _)).below (below1 _ _)
  have V3 : Hid (OwnsI w3 (D + 1) (.slice (some ⟨D + 1, 0, none⟩) 0 0) []) := by
    show OwnsI _ _ _ _
    rw [hw3, hD]; have := own_nilX (w2.alloc (.cells #[.int .i64 W, .int .i64 T, .slice a m c] 25)) (B := w2.heap.size + 1) (by simp); simpa using this
  have z3 : D + 2 = w3.heap.size := by rw [hw3, hD]; simp
  have HOD := Lib.hid hOD; clear hOD O2 R2 B2 q2
  go_wp2_with fail
  rw [← hw3, ← hD]
  have l3' : w.heap.size + 1 < D := by omega
  clear hw3 hD l3
  go_loopw [6, 7] (fun v i wr => ∃ (k : Nat) (L : List Int), k ≤ m ∧ i = .int .i64 k ∧ L.length ≤ k ∧ OwnsI wr (D + 1) v L ∧ v ≠ .slice none 0 0 ∧ OwnsB wr w1.heap.size (.slice a m c) xs ∧ RD wr (w.heap.size + 1) (300 + k) ∧ wr.heap[D]? = some (.cells #[.int .i64 W, .int .i64 T, .slice a m c] 25 (0, 0)) ∧ wr.heap[w.heap.size]? = some (.cells #[.int .i64 0, .int .i64 0, .slice none 0 0] 25 (0, 0)) ∧ Below w.heap.size w wr) (fun _ i _ => m - (intOf i).toNat)
  case atStart => exact ⟨0, [], Nat.zero_le _, rfl, Nat.le_refl _, V3.out, (by simp), O3.out, R3.out, p3, q3, B3.out⟩
  case round =>
    clear V3 O3 R3 p3 q3 B3 z3
    rename World => wo
    obtain ⟨k, L, hk, rfl, hlk, hv, hvn, ho, hrd, pr, qr, hbel⟩ := hrel
    have VO := Lib.hid hv; clear hv
    have HVN := Lib.hid hvn; clear hvn
    have OO := Lib.hid ho; clear ho
    have RO := Lib.hid hrd; clear hrd
    have BO := Lib.hid hbel; clear hbel
    obtain ⟨c0, c1, c2⟩ := cells3 pr
    have lo := heap_lt pr
    by_cases hlt : k < m
    · have e1 : (k : Int) < m := by omega
      go_wp2_with fail
      refine (pick_any (w.heap.size + 1) (300 + k) 4 _ (by omega) (by omega) (by omega) RO.out).mono ?_; rintro e w5 ⟨x, hx, rfl, r5, g5⟩
      have V5 := Lib.hid (OwnsI.keptBy VO.out g5 (fun k e => by cases e; omega))
      have O5 := Lib.hid (OwnsB.keptBy OO.out g5 (fun k e => by cases e; omega))
      have R5 := Lib.hid r5
      have p5 := heap_grown pr g5 (by simp; omega)
      have q5 := heap_grown qr g5 (by simp)
      have B5 := Lib.hid (below_grown BO.out g5 (Nat.le_refl _) (fun k e => by cases e; omega))
      clear r5 g5 c0 c1 c2 pr qr lo VO OO RO BO
      have l5 := heap_lt p5
      obtain ⟨c0, c1, c2⟩ := cells3 p5
      by_cases hx0 : x = 0
      · subst hx0
        go_wp2_with (at_builtin; refine wpList_append_own _ rfl _ _ 27 rfl (D + 1) 3 i0 (.int .i64 0) 1 8 Try.underlying27 hi hz0 hz1 hz2 rfl (by decide) _ L.length (L.map (Value.int .i64)) rfl (World.ownsRow.alloc V5.out _) ⟨w5.heap.size, 0, none⟩ 1 1 [.int .i64 k] rfl rfl (new_int _ _) (one_int _) (by unfold maxLen; omega) (by omega) (by simp; omega) ?_; intro v' w8 hown' hgrow hnil; have VN8 : v' ≠ .slice none 0 0 := (fun e => HVN.out (hnil.1 e).1); have V8 := Lib.hid (OwnsI.ofRow (xs := L ++ [(k : Int)]) hown' (by simp) (by simp)); have O8 := Lib.hid (OwnsB.aside (O5.out.alloc _) HOD.out hgrow (fun k e => by have := (World.ownsRow.lt V5.out k e).1; omega)); have R8 := Lib.hid ((R5.out.below (below1 _ _)).grown hgrow (fun k e => by have := (World.ownsRow.lt V5.out k e).1; omega)); have p8 := heap_grown (heap_later p5 (below1 _ _)) hgrow (fun e => by have := (World.ownsRow.lt V5.out _ e).1; omega); have q8 := heap_grown (heap_later q5 (below1 _ _)) hgrow (fun e => by have := (World.ownsRow.lt V5.out _ e).1; omega); have B8 := Lib.hid (below_grown (below_seq B5.out (below1 _ _)) hgrow (Nat.le_refl _) (fun k e => by have := (World.ownsRow.lt V5.out k e).1; omega)); clear hown' hgrow hnil)
        go_roundw
        case rel => exact ⟨k + 1, L ++ [(k : Int)], by omega, by go_num, by simp; omega, V8.out, VN8, O8.out, R8.out, p8, q8, B8.out⟩
        case measure => simp [intOf]; omega
      · have hxx : ((x : Int) == 0) = false := by rw [beq_eq_false_iff_ne]; omega
        go_wp2
        go_roundw
        case rel => exact ⟨k + 1, L, by omega, by go_num, by omega, V5.out, HVN.out, O5.out, R5.out, p5, q5, B5.out⟩
        case measure => simp [intOf]; omega
    · obtain rfl : k = m := by omega
      go_wp2_with fail
      refine (odd_any (w.heap.size + 1) (300 + k) 9 _ (by omega) (by omega) (by omega) RO.out).mono ?_; rintro e w5 ⟨b5, rfl, r5, g5⟩
      have V5 := Lib.hid (OwnsI.keptBy VO.out g5 (fun k e => by cases e; omega))
      have O5 := Lib.hid (OwnsB.keptBy OO.out g5 (fun k e => by cases e; omega))
      have R5 := Lib.hid r5
      have p5 := heap_grown pr g5 (by simp; omega)
      have q5 := heap_grown qr g5 (by simp)
      have B5 := Lib.hid (below_grown BO.out g5 (Nat.le_refl _) (fun k e => by cases e; omega))
      clear r5 g5 c0 c1 c2 pr qr lo VO OO RO BO
      have l5 := heap_lt p5
      cases b5
      · obtain ⟨g9, lcap, hv⟩ : ∃ g lcap, u6 = .slice (some ⟨g, 0, none⟩) L.length lcap := by
          rcases V5.out.forms with ⟨h, _⟩ | ⟨g, cap, h, _, _⟩
          · exact absurd h HVN.out
          · exact ⟨g, cap, h⟩
        subst hv
        obtain ⟨c0, c1, c2⟩ := cells3 p5
        obtain ⟨d0, d1, d2⟩ := cells3 q5
        have f0 := free3 q5 0
        have f1 := free3 q5 1
        have f2 := free3 q5 2
        go_wp2
        refine bodyPost_ret (v := .tuple #[.agg #[.int .i64 W, .int .i64 T, .slice a k c], .slice (some ⟨g9, 0, none⟩) L.length lcap]) (by simp [results, Try.results23, go_sem, d0, d1, d2]) rfl ⟨W, T, a, k, c, xs, some ⟨g9, 0, none⟩, L.length, lcap, L, rfl, HM.out, h36, hs, ?_, rfl, by omega, ?_, ⟨g9, rfl⟩, below_set3 B5.out (Nat.le_refl _) _ _ _⟩
        · exact (O5.out.set3 (by omega) _ _ _).lower (by omega)
        · exact (V5.out.set37 (by omega) _ _ _).lower (by omega)
      · obtain ⟨w6, hw6⟩ : ∃ w6, w6 = w5.alloc (.cells #[.int .i64 (-1), .int .i64 40] 3 (0, 0)) := ⟨_, rfl⟩
        have s6 : w6.heap[w5.heap.size]? = some (.cells #[.int .i64 (-1), .int .i64 40] 3 (0, 0)) := by rw [hw6]; exact heap_new _ _
        have p6 : w6.heap[D]? = some (.cells #[.int .i64 W, .int .i64 T, .slice a k c] 25 (0, 0)) := by rw [hw6]; exact heap_later p5 (below1 _ _)
        have q6 : w6.heap[w.heap.size]? = some (.cells #[.int .i64 0, .int .i64 0, .slice none 0 0] 25 (0, 0)) := by rw [hw6]; exact heap_later q5 (below1 _ _)
        have V6 : Hid (OwnsI w6 (D + 1) u6 L) := by rw [hw6]; exact V5.out.alloc _
        have O6 : Hid (OwnsB w6 w1.heap.size (.slice a k c) xs) := by rw [hw6]; exact O5.out.alloc _
        have R6 : Hid (RD w6 (w.heap.size + 1) (300 + k + 1)) := by rw [hw6]; exact R5.out.below (below1 _ _)
        have B6 : Hid (Below w.heap.size w w6) := by rw [hw6]; exact below_seq B5.out (below1 _ _)
        obtain ⟨E, hE⟩ : ∃ E, E = w5.heap.size := ⟨_, rfl⟩
        go_wp2_with fail
        rw [← hw6]
        rw [← hE] at s6 l5 ⊢
        clear hw6 hE
        refine (pick_any (w.heap.size + 1) (300 + k + 1) 2 _ (by omega) (by omega) (by omega) R6.out).mono ?_; rintro e w7 ⟨y, hy, rfl, r7, g7⟩
        have V7 := Lib.hid (OwnsI.keptBy V6.out g7 (fun k e => by cases e; omega))
        have O7 := Lib.hid (OwnsB.keptBy O6.out g7 (fun k e => by cases e; omega))
        have p7 := heap_grown p6 g7 (by simp; omega)
        have q7 := heap_grown q6 g7 (by simp)
        have s7 := heap_grown s6 g7 (by simp; omega)
        have B7 := Lib.hid (below_grown B6.out g7 (Nat.le_refl _) (fun k e => by cases e; omega))
        have z7 : D < w7.heap.size := heap_lt p7
        clear r7 g7 s6 p6 q6 V6 O6 R6 B6 V5 O5 R5 p5 q5 B5
        obtain ⟨t0, t1⟩ := cells2 s7
        have hy2 : y = 0 ∨ y = 1 := by omega
        rcases hy2 with rfl | rfl
        · go_wp2_with (at_builtin; refine wpList_append_own _ rfl _ _ 27 rfl (D + 1) 3 i0 (.int .i64 0) 1 8 Try.underlying27 hi hz0 hz1 hz2 rfl (by decide) _ L.length (L.map (Value.int .i64)) rfl (World.ownsRow.alloc V7.out _) ⟨w7.heap.size, 0, none⟩ 1 1 [.int .i64 (-1)] rfl rfl (new_int _ _) (one_int _) (by unfold maxLen; omega) (by omega) (by simp; omega) ?_; intro v' w8 hown' hgrow _; have V8 := Lib.hid (OwnsI.ofRow (xs := L ++ [(-1)]) hown' (by simp) (by simp)); have O8 := Lib.hid (OwnsB.aside (O7.out.alloc _) HOD.out hgrow (fun k e => by have := (World.ownsRow.lt V7.out k e).1; omega)); have p8 := heap_grown (heap_later p7 (below1 _ _)) hgrow (fun e => by have := (World.ownsRow.lt V7.out _ e).1; omega); have q8 := heap_grown (heap_later q7 (below1 _ _)) hgrow (fun e => by have := (World.ownsRow.lt V7.out _ e).1; omega); have B8 := Lib.hid (below_grown (below_seq B7.out (below1 _ _)) hgrow (Nat.le_refl _) (fun k e => by have := (World.ownsRow.lt V7.out k e).1; omega)); clear hown' hgrow; obtain ⟨g9, lcap, hv⟩ : ∃ g lcap, v' = .slice (some ⟨g, 0, none⟩) (L.length + 1) lcap := (by rcases V8.out.forms with ⟨_, h⟩ | ⟨g, cap, h, _, _⟩; exact absurd h (by simp); exact ⟨g, cap, by simpa using h⟩); subst hv; obtain ⟨c0, c1, c2⟩ := cells3 p8; obtain ⟨d0, d1, d2⟩ := cells3 q8; have f0 := free3 q8 0; have f1 := free3 q8 1; have f2 := free3 q8 2)
          refine bodyPost_ret (v := .tuple #[.agg #[.int .i64 W, .int .i64 T, .slice a k c], .slice (some ⟨g9, 0, none⟩) (L.length + 1) lcap]) (by simp [results, Try.results23, go_sem, d0, d1, d2]) rfl ⟨W, T, a, k, c, xs, some ⟨g9, 0, none⟩, L.length + 1, lcap, L ++ [(-1)], rfl, HM.out, h36, hs, ?_, by simp, by omega, ?_, ⟨g9, rfl⟩, below_set3 B8.out (Nat.le_refl _) _ _ _⟩
          · exact (O8.out.set3 (by omega) _ _ _).lower (by omega)
          · exact (V8.out.set37 (by omega) _ _ _).lower (by omega)
        · go_wp2_with (at_builtin; refine wpList_append_own _ rfl _ _ 27 rfl (D + 1) 3 i0 (.int .i64 0) 1 8 Try.underlying27 hi hz0 hz1 hz2 rfl (by decide) _ L.length (L.map (Value.int .i64)) rfl (World.ownsRow.alloc V7.out _) ⟨w7.heap.size, 0, none⟩ 1 1 [.int .i64 40] rfl rfl (new_int _ _) (one_int _) (by unfold maxLen; omega) (by omega) (by simp; omega) ?_; intro v' w8 hown' hgrow _; have V8 := Lib.hid (OwnsI.ofRow (xs := L ++ [40]) hown' (by simp) (by simp)); have O8 := Lib.hid (OwnsB.aside (O7.out.alloc _) HOD.out hgrow (fun k e => by have := (World.ownsRow.lt V7.out k e).1; omega)); have p8 := heap_grown (heap_later p7 (below1 _ _)) hgrow (fun e => by have := (World.ownsRow.lt V7.out _ e).1; omega); have q8 := heap_grown (heap_later q7 (below1 _ _)) hgrow (fun e => by have := (World.ownsRow.lt V7.out _ e).1; omega); have B8 := Lib.hid (below_grown (below_seq B7.out (below1 _ _)) hgrow (Nat.le_refl _) (fun k e => by have := (World.ownsRow.lt V7.out k e).1; omega)); clear hown' hgrow; obtain ⟨g9, lcap, hv⟩ : ∃ g lcap, v' = .slice (some ⟨g, 0, none⟩) (L.length + 1) lcap := (by rcases V8.out.forms with ⟨_, h⟩ | ⟨g, cap, h, _, _⟩; exact absurd h (by simp); exact ⟨g, cap, by simpa using h⟩); subst hv; obtain ⟨c0, c1, c2⟩ := cells3 p8; obtain ⟨d0, d1, d2⟩ := cells3 q8; have f0 := free3 q8 0; have f1 := free3 q8 1; have f2 := free3 q8 2)
          refine bodyPost_ret (v := .tuple #[.agg #[.int .i64 W, .int .i64 T, .slice a k c], .slice (some ⟨g9, 0, none⟩) (L.length + 1) lcap]) (by simp [results, Try.results23, go_sem, d0, d1, d2]) rfl ⟨W, T, a, k, c, xs, some ⟨g9, 0, none⟩, L.length + 1, lcap, L ++ [40], rfl, HM.out, h36, hs, ?_, by simp, by omega, ?_, ⟨g9, rfl⟩, below_set3 B8.out (Nat.le_refl _) _ _ _⟩
          · exact (O8.out.set3 (by omega) _ _ _).lower (by omega)
          · exact (V8.out.set37 (by omega) _ _ _).lower (by omega)

end Go.Proofs.Ythlagmnnkckcnaa
