/- Contract of spec.l3Less: a region without some cells. -/
import Derived.Test.YthlagmnnkckcnaaSetS
import Derived.Test.YthlagmnnkckcnaaDpQ
namespace Go.Proofs.Ythlagmnnkckcnaa
open Go.RowKit
set_option linter.unusedVariables false
set_option maxRecDepth 100000
set_option linter.unusedSimpArgs false

def lessF (xs : List Bool) (L : List Nat) (i : Nat) : Bool := xs.getD i false && !L.contains i
def lessB (xs : List Bool) (L : List Nat) : List Bool := tab xs.length (lessF xs L)
theorem lessB_len (xs : List Bool) (L : List Nat) : (lessB xs L).length = xs.length := by simp [lessB, tab_len]
theorem lessB_get {xs : List Bool} (L : List Nat) {i : Nat} (h : i < xs.length) : (lessB xs L).getD i false = (xs.getD i false && !L.contains i) := by
  unfold lessB; rw [tab_getD _ h]; rfl
theorem lessF_step {xs : List Bool} {L : List Nat} {k : Nat} (hk : k < L.length) (i : Nat) : (if i = L.getD k 0 then false else lessF xs (L.take k) i) = lessF xs (L.take (k + 1)) i := by
  have hcon : ∀ (P : List Nat) (x : Nat), (P ++ [x]).contains i = (P.contains i || i == x) := by
    intro P x
    rw [Bool.eq_iff_iff]
    simp
  unfold lessF
  rw [List.take_succ_eq_append_getElem hk, hcon]
  have e : L.getD k 0 = L[k] := by rw [List.getD_eq_getElem?_getD, List.getElem?_eq_getElem hk, Option.getD_some]
  rw [e]
  by_cases h : i = L[k]
  · rw [if_pos h]
    have h3 : (i == L[k]) = true := by rw [h]; exact beq_self_eq_true _
    rw [h3, Bool.or_true]
    simp
  · rw [if_neg h]
    have h3 : (i == L[k]) = false := beq_eq_false_iff_ne.2 h
    rw [h3, Bool.or_false]

set_option maxHeartbeats 4000000 in
theorem l3Less_any (W T : Int) (a : Option Addr) (n cap : Nat) (xs : List Bool) (la : Option Addr) (m lcap : Nat) (L : List Nat) (w : World) (hn : n = xs.length) (hn' : n ≤ 1048576) (hp : 0 < n) (hm : m = L.length) (hm' : m ≤ 1000) (hL : ∀ q, q < m → L.getD q 0 < n) (ha : BoolsAt w a xs) (hl : IntsAt w la (castL L)) :
    Calls Try.prog 78 #[.agg #[.int .i64 W, .int .i64 T, .slice a n cap], .slice la m lcap] w fun e w' => ∃ g cg,
      e = .returned (.agg #[.int .i64 W, .int .i64 T, .slice (some ⟨g, 0, none⟩) n cg]) ∧ OwnsB w' (w.heap.size + 2) (.slice (some ⟨g, 0, none⟩) n cg) (lessB xs L) ∧ Below w.heap.size w w' := by
  obtain ⟨i0, hi, hz0, hz1, hz2⟩ := info_parts infoBool
  have HN := Lib.hid hn; clear hn
  have HMM := Lib.hid hm; clear hm
  have HLL := Lib.hid hL; clear hL
  obtain ⟨b, off, rfl, hsrc⟩ := ha.addr (by rw [← HN.out]; exact hp)
  have hbl : b < w.heap.size := World.block_lt_of_cell? w _ (hsrc 0 (by rw [← HN.out]; exact hp))
  have HSRC := Lib.hid hsrc; clear hsrc ha
  have HL := Lib.hid hl; clear hl
  obtain ⟨w1, hw1⟩ : ∃ w1, w1 = (w.alloc (.cells #[.int .i64 W, .int .i64 T, .slice (some ⟨b, off, none⟩) n cap] 25)).alloc (.cells #[.int .i64 0, .int .i64 0, .slice none 0 0] 25) := ⟨_, rfl⟩
  have b1 : Below w.heap.size w w1 := by rw [hw1]; exact below2 w _ _
  have p1 : w1.heap[w.heap.size]? = some (.cells #[.int .i64 W, .int .i64 T, .slice (some ⟨b, off, none⟩) n cap] 25 (0, 0)) := by rw [hw1]; exact heap_later (heap_new w _) (below1 _ _)
  have q1 : w1.heap[w.heap.size + 1]? = some (.cells #[.int .i64 0, .int .i64 0, .slice none 0 0] 25 (0, 0)) := by rw [hw1]; exact heap_new2 w _ _
  obtain ⟨c0, c1, c2⟩ := cells3 p1
  have lp := heap_lt p1
  have lq := heap_lt q1
  have hsl : (xs.map Value.bool).length = n * 1 := by rw [List.length_map, ← HN.out]; simp
  have HSL := Lib.hid hsl; clear hsl
  have SC := fun (w' : World) (hb : Below w1.heap.size w1 w') => src_cells (w := w') (b := b) (off := off) (xs := xs) (fun i hi => (hb.cell (p := ⟨b, off + i, none⟩) (show b < w1.heap.size by omega)).trans ((b1.cell (p := ⟨b, off + i, none⟩) hbl).trans (HSRC.out i hi)))
  have HSC := Lib.hid SC; clear SC
  go_enter Try.func78, Try.ntmps78
  go_wp2_with fail
  rw [← hw1]
  clear hw1
  refine cut_region (fun a0 a' w' => ∃ (v7 v8 v9 v10 v11 v12 v13 v14 v15 : Value) (b8 g cg : Nat), a' = ((((((((((a0.put (some 7) v7).put (some 8) v8).put (some 9) v9).put (some 10) v10).put (some 11) v11).put (some 12) v12).put (some 13) v13).put (some 14) v14).put (some 15) v15).put (some 5) (.pointer (some ⟨b8, 0, none⟩))) ∧ w'.heap[b8]? = some (.cells #[.int .i64 W, .int .i64 T, .slice (some ⟨g, 0, none⟩) n cg] 25 (0, 0)) ∧ OwnsB w' (w.heap.size + 2) (.slice (some ⟨g, 0, none⟩) n cg) xs ∧ w'.heap[w.heap.size + 1]? = some (.cells #[.int .i64 0, .int .i64 0, .slice none 0 0] 25 (0, 0)) ∧ Below w.heap.size w w' ∧ b8 ≠ g) ?_ ?_
  · have HSD := Lib.hid (show (fun w' : World => w'.cell? ⟨w.heap.size, 0, none⟩ = some (.int .i64 W) ∧ w'.cell? ⟨w.heap.size, 1, none⟩ = some (.int .i64 T) ∧ w'.cell? ⟨w.heap.size, 2, none⟩ = some (.slice (some ⟨b, off, none⟩) n cap)) w1.drew from ⟨c0, c1, c2⟩)
    refine wp_region_till (fun w' : World => w'.cell? ⟨w.heap.size, 0, none⟩ = some (.int .i64 W) ∧ w'.cell? ⟨w.heap.size, 1, none⟩ = some (.int .i64 T) ∧ w'.cell? ⟨w.heap.size, 2, none⟩ = some (.slice (some ⟨b, off, none⟩) n cap)) 10 (by kernel_rfl) ?_
    refine Till.take (i := 0) (v := ?_) rfl (by kernel_rfl) (by kernel_rfl) (by kernel_rfl) (by kernel_rfl) (fun _ _ _ h => nomatch h.1) (Or.inl ⟨by kernel_rfl, ?_⟩) HSD.out ?_
    rotate_left
    · intro ws hsw
      obtain ⟨s1, s2, s3⟩ := hsw
      go_simp
      try with_reducible rfl
    try simp only [Act.put, List.setIfInBounds_toArray, List.set_cons_zero, List.set_cons_succ]
    refine Till.take (i := 1) (v := ?_) rfl (by kernel_rfl) (by kernel_rfl) (by kernel_rfl) (by kernel_rfl) (fun _ _ _ h => nomatch h.1) (Or.inl ⟨by kernel_rfl, ?_⟩) HSD.out ?_
    rotate_left
    · intro ws hsw
      obtain ⟨s1, s2, s3⟩ := hsw
      go_simp
      try with_reducible rfl
    try simp only [Act.put, List.setIfInBounds_toArray, List.set_cons_zero, List.set_cons_succ]
    refine Till.take (i := 2) (v := ?_) rfl (by kernel_rfl) (by kernel_rfl) (by kernel_rfl) (by kernel_rfl) (fun _ _ _ h => nomatch h.1) (Or.inl ⟨by kernel_rfl, ?_⟩) HSD.out ?_
    rotate_left
    · intro ws hsw
      obtain ⟨s1, s2, s3⟩ := hsw
      go_simp
      try with_reducible rfl
    try simp only [Act.put, List.setIfInBounds_toArray, List.set_cons_zero, List.set_cons_succ]
    refine Till.take (i := 3) (v := ?_) rfl (by kernel_rfl) (by kernel_rfl) (by kernel_rfl) (by kernel_rfl) (fun _ _ _ h => nomatch h.1) (Or.inl ⟨by kernel_rfl, ?_⟩) HSD.out ?_
    rotate_left
    · intro ws hsw
      obtain ⟨s1, s2, s3⟩ := hsw
      go_simp
      try with_reducible rfl
    try simp only [Act.put, List.setIfInBounds_toArray, List.set_cons_zero, List.set_cons_succ]
    refine Till.take (i := 5) (v := ?_) rfl (by kernel_rfl) (by kernel_rfl) (by kernel_rfl) (by kernel_rfl) (fun _ _ _ h => nomatch h.1) (Or.inl ⟨by kernel_rfl, ?_⟩) HSD.out ?_
    rotate_left
    · intro ws hsw
      obtain ⟨s1, s2, s3⟩ := hsw
      go_simp
      try with_reducible rfl
    try simp only [Act.put, List.setIfInBounds_toArray, List.set_cons_zero, List.set_cons_succ]
    refine Till.take (i := 6) (v := ?_) rfl (by kernel_rfl) (by kernel_rfl) (by kernel_rfl) (by kernel_rfl) (fun _ _ _ h => nomatch h.1) (Or.inl ⟨by kernel_rfl, ?_⟩) HSD.out ?_
    rotate_left
    · intro ws hsw
      obtain ⟨s1, s2, s3⟩ := hsw
      go_simp
      try with_reducible rfl
    try simp only [Act.put, List.setIfInBounds_toArray, List.set_cons_zero, List.set_cons_succ]
    refine Till.two (i := 4) (j := 9) (by kernel_rfl) rfl rfl (by rfl) (by rfl) (fun K hK => ?_) (fun K hK => ?_)
    · go_simp
      have WNA := Lib.hid (show Below w1.heap.size w1 (w1.alloc (.cells #[] 4)).drew from below_seq (below1 _ _) (drew_below _))
      refine hK.out _ _ (fun _ => ⟨cell_later WNA.out c0, cell_later WNA.out c1, cell_later WNA.out c2⟩) ?_
      clear hK K
      refine Till.two (i := 7) (j := 9) (by kernel_rfl) rfl rfl (by rfl) (by rfl) (fun K hK => ?_) (fun K hK => ?_)
      · refine step_append_lies _ rfl _ _ 23 rfl (w.heap.size + 2) 4 i0 (.bool false) 1 1 Try.underlying23 hi hz0 hz1 hz2 rfl (by decide) _ 0 [] rfl ((emptyRow w1 (by omega)).drew) ⟨b, off, none⟩ n cap (xs.map Value.bool) rfl HSL.out (HSC.out _ WNA.out) (bools_one xs) hp (by unfold maxLen; omega) (by omega) (by simp; omega) (w1.heap.size + 1) (by simp) ?_
        intro g' c' w5 hown' hgrow hor glt
        have p5 := heap_grown (heap_later p1 WNA.out) hgrow (ne_own (show w1.heap.size ≠ w.heap.size by omega))
        have q5 := heap_grown (heap_later q1 WNA.out) hgrow (ne_own (show w1.heap.size ≠ w.heap.size + 1 by omega))
        have B5 := Lib.hid (below_grown (below_seq b1 WNA.out) hgrow (Nat.le_refl _) (fun k e => by have e' : w1.heap.size = k := Option.some.inj e; omega))
        have O5 : Hid (OwnsB w5 (w.heap.size + 2) (.slice (some ⟨g', 0, none⟩) n c') xs) := by have h := OwnsB.ofRow (xs := xs) hown' (by simp) (by rw [← HN.out]; simp); rwa [Nat.zero_add] at h
        have S5 : (fun w' : World => w'.cell? ⟨w.heap.size, 0, none⟩ = some (.int .i64 W) ∧ w'.cell? ⟨w.heap.size, 1, none⟩ = some (.int .i64 T) ∧ w'.cell? ⟨w.heap.size, 2, none⟩ = some (.slice (some ⟨b, off, none⟩) n cap)) w5 := ⟨(cells3 p5).1, (cells3 p5).2.1, (cells3 p5).2.2⟩
        clear hown' hgrow
        refine hK.out _ _ (fun _ => S5) ?_
        clear hK K
        refine Till.take (i := 8) (v := ?_) rfl (by kernel_rfl) (by kernel_rfl) (by kernel_rfl) (by kernel_rfl) (fun _ _ _ h => nomatch h.1) (Or.inl ⟨by kernel_rfl, ?_⟩) S5 ?_
        rotate_left
        · intro ws hsw
          obtain ⟨s1, s2, s3⟩ := hsw
          go_simp
          try with_reducible rfl
        try simp only [Act.put, List.setIfInBounds_toArray, List.set_cons_zero, List.set_cons_succ]
        refine Till.one (i := 9) (by kernel_rfl) rfl (by rfl) (fun K hK => ?_)
        go_simp
        refine hK.out _ _ (fun _ => ⟨cell_later (below1 w5 _) S5.1, cell_later (below1 w5 _) S5.2.1, cell_later (below1 w5 _) S5.2.2⟩) ?_
        clear hK K
        refine Till.one (i := 10) (by kernel_rfl) rfl (by rfl) (fun K hK => ?_)
        go_simp
        refine hK.out _ _ (fun h => absurd rfl h) ?_
        clear hK K
        refine Till.done (by kernel_rfl) ⟨rfl, _, _, _, _, _, _, _, _, _, _, g', c', rfl, ?_, ?_, ?_, ?_, ?_⟩ _
        · exact heap_new _ _
        · exact OwnsB.alloc O5.out _
        · exact heap_later q5 (below1 _ _)
        · exact below_seq B5.out (below1 _ _)
        · exact (by omega : w5.heap.size ≠ g')

      · go_simp
        have WNB := Lib.hid (show Below w1.heap.size w1 ((w1.alloc (.cells #[] 4)).alloc (.cells #[.int .i64 0, .int .i64 0, .slice none 0 0] 25)).drew from below_seq (below2 _ _ _) (drew_below _))
        refine hK.out _ _ (fun _ => ⟨cell_later WNB.out c0, cell_later WNB.out c1, cell_later WNB.out c2⟩) ?_
        clear hK K
        refine Till.one (i := 7) (by kernel_rfl) rfl (by rfl) (fun K hK => ?_)
        refine step_append_lies _ rfl _ _ 23 rfl (w.heap.size + 2) 4 i0 (.bool false) 1 1 Try.underlying23 hi hz0 hz1 hz2 rfl (by decide) _ 0 [] rfl (((emptyRow w1 (by omega)).alloc _).drew) ⟨b, off, none⟩ n cap (xs.map Value.bool) rfl HSL.out (HSC.out _ WNB.out) (bools_one xs) hp (by unfold maxLen; omega) (by omega) (by simp; omega) (w1.heap.size + 2) (by simp) ?_
        intro g' c' w5 hown' hgrow hor glt
        have HNE : w1.heap.size + 1 ≠ g' := by rcases hor with e | e; (have e' : w1.heap.size = g' := Option.some.inj e; omega); omega
        have p5 := heap_grown (heap_later p1 WNB.out) hgrow (ne_own (show w1.heap.size ≠ w.heap.size by omega))
        have q5 := heap_grown (heap_later q1 WNB.out) hgrow (ne_own (show w1.heap.size ≠ w.heap.size + 1 by omega))
        have B5 := Lib.hid (below_grown (below_seq b1 WNB.out) hgrow (Nat.le_refl _) (fun k e => by have e' : w1.heap.size = k := Option.some.inj e; omega))
        have O5 : Hid (OwnsB w5 (w.heap.size + 2) (.slice (some ⟨g', 0, none⟩) n c') xs) := by have h := OwnsB.ofRow (xs := xs) hown' (by simp) (by rw [← HN.out]; simp); rwa [Nat.zero_add] at h
        have S5 : (fun w' : World => w'.cell? ⟨w.heap.size, 0, none⟩ = some (.int .i64 W) ∧ w'.cell? ⟨w.heap.size, 1, none⟩ = some (.int .i64 T) ∧ w'.cell? ⟨w.heap.size, 2, none⟩ = some (.slice (some ⟨b, off, none⟩) n cap)) w5 := ⟨(cells3 p5).1, (cells3 p5).2.1, (cells3 p5).2.2⟩
        have s5 := heap_grown (show (World.drew ((w1.alloc (.cells #[] 4)).alloc (.cells #[.int .i64 0, .int .i64 0, .slice none 0 0] 25))).heap[_]? = some _ from heap_new2 w1 _ _) hgrow (ne_own (show w1.heap.size ≠ w1.heap.size + 1 by omega))
        have s5c := cells3 s5
        obtain ⟨t0, t1, t2⟩ := s5c
        have e0 := free3 s5 0
        have e1 := free3 s5 1
        have e2 := free3 s5 2
        clear hown' hgrow
        refine hK.out _ _ (fun _ => S5) ?_
        clear hK K
        refine Till.take (i := 8) (v := ?_) rfl (by kernel_rfl) (by kernel_rfl) (by kernel_rfl) (by kernel_rfl) (fun _ _ _ h => nomatch h.1) (Or.inl ⟨by kernel_rfl, ?_⟩) S5 ?_
        rotate_left
        · intro ws hsw
          obtain ⟨s1, s2, s3⟩ := hsw
          go_simp
          try with_reducible rfl
        try simp only [Act.put, List.setIfInBounds_toArray, List.set_cons_zero, List.set_cons_succ]
        refine Till.one (i := 10) (by kernel_rfl) rfl (by rfl) (fun K hK => ?_)
        go_simp
        refine hK.out _ _ (fun h => absurd rfl h) ?_
        clear hK K
        refine Till.done (by kernel_rfl) ⟨rfl, _, _, _, _, _, _, _, _, _, _, g', c', rfl, ?_, ?_, ?_, ?_, ?_⟩ _
        · exact by simpa using block_setCell (block_setCell (block_setCell s5 (i := 0) (.int .i64 W)) (i := 1) (.int .i64 T)) (i := 2) _
        · exact O5.out.set3Ne HNE _ _ _
        · exact heap_set_other (heap_set_other (heap_set_other q5 (by simp; omega) _) (by simp; omega) _) (by simp; omega) _
        · exact below_set3 B5.out (by omega) _ _ _
        · exact HNE

    · go_simp
      have WNC := Lib.hid (show Below w1.heap.size w1 (w1.alloc (.cells #[.int .i64 0, .int .i64 0, .slice none 0 0] 25)).drew from below_seq (below1 _ _) (drew_below _))
      refine hK.out _ _ (fun _ => ⟨cell_later WNC.out c0, cell_later WNC.out c1, cell_later WNC.out c2⟩) ?_
      clear hK K
      refine Till.one (i := 4) (by kernel_rfl) rfl (by rfl) (fun K hK => ?_)
      go_simp
      have WND := Lib.hid (show Below w1.heap.size w1 ((w1.alloc (.cells #[.int .i64 0, .int .i64 0, .slice none 0 0] 25)).alloc (.cells #[] 4)).drew from below_seq (below2 _ _ _) (drew_below _))
      refine hK.out _ _ (fun _ => ⟨cell_later WND.out c0, cell_later WND.out c1, cell_later WND.out c2⟩) ?_
      clear hK K
      refine Till.one (i := 7) (by kernel_rfl) rfl (by rfl) (fun K hK => ?_)
      refine step_append_lies _ rfl _ _ 23 rfl (w.heap.size + 2) 4 i0 (.bool false) 1 1 Try.underlying23 hi hz0 hz1 hz2 rfl (by decide) _ 0 [] rfl (emptyRowAt (w1.alloc (.cells #[.int .i64 0, .int .i64 0, .slice none 0 0] 25)) (B := w.heap.size + 2) (k := w1.heap.size + 1) (by simp) (by simp; omega)).drew ⟨b, off, none⟩ n cap (xs.map Value.bool) rfl HSL.out (HSC.out _ WND.out) (bools_one xs) hp (by unfold maxLen; omega) (by omega) (by simp; omega) (w1.heap.size + 2) (by simp) ?_
      intro g' c' w5 hown' hgrow hor glt
      have HNE : w1.heap.size ≠ g' := by rcases hor with e | e; (have e' : w1.heap.size + 1 = g' := Option.some.inj e; omega); omega
      have p5 := heap_grown (heap_later p1 WND.out) hgrow (ne_own (show (w1.heap.size + 1) ≠ w.heap.size by omega))
      have q5 := heap_grown (heap_later q1 WND.out) hgrow (ne_own (show (w1.heap.size + 1) ≠ w.heap.size + 1 by omega))
      have B5 := Lib.hid (below_grown (below_seq b1 WND.out) hgrow (Nat.le_refl _) (fun k e => by have e' : w1.heap.size + 1 = k := Option.some.inj e; omega))
      have O5 : Hid (OwnsB w5 (w.heap.size + 2) (.slice (some ⟨g', 0, none⟩) n c') xs) := by have h := OwnsB.ofRow (xs := xs) hown' (by simp) (by rw [← HN.out]; simp); rwa [Nat.zero_add] at h
      have S5 : (fun w' : World => w'.cell? ⟨w.heap.size, 0, none⟩ = some (.int .i64 W) ∧ w'.cell? ⟨w.heap.size, 1, none⟩ = some (.int .i64 T) ∧ w'.cell? ⟨w.heap.size, 2, none⟩ = some (.slice (some ⟨b, off, none⟩) n cap)) w5 := ⟨(cells3 p5).1, (cells3 p5).2.1, (cells3 p5).2.2⟩
      have s5 := heap_grown (heap_later (heap_later (heap_new w1 (.cells #[.int .i64 0, .int .i64 0, .slice none 0 0] 25)) (below1 _ (.cells #[] 4))) (drew_below _)) hgrow (ne_own (show w1.heap.size + 1 ≠ w1.heap.size by omega))
      have s5c := cells3 s5
      obtain ⟨t0, t1, t2⟩ := s5c
      have e0 := free3 s5 0
      have e1 := free3 s5 1
      have e2 := free3 s5 2
      clear hown' hgrow
      refine hK.out _ _ (fun _ => S5) ?_
      clear hK K
      refine Till.take (i := 8) (v := ?_) rfl (by kernel_rfl) (by kernel_rfl) (by kernel_rfl) (by kernel_rfl) (fun _ _ _ h => nomatch h.1) (Or.inl ⟨by kernel_rfl, ?_⟩) S5 ?_
      rotate_left
      · intro ws hsw
        obtain ⟨s1, s2, s3⟩ := hsw
        go_simp
        try with_reducible rfl
      try simp only [Act.put, List.setIfInBounds_toArray, List.set_cons_zero, List.set_cons_succ]
      refine Till.one (i := 10) (by kernel_rfl) rfl (by rfl) (fun K hK => ?_)
      go_simp
      refine hK.out _ _ (fun h => absurd rfl h) ?_
      clear hK K
      refine Till.done (by kernel_rfl) ⟨rfl, _, _, _, _, _, _, _, _, _, _, g', c', rfl, ?_, ?_, ?_, ?_, ?_⟩ _
      · exact by simpa using block_setCell (block_setCell (block_setCell s5 (i := 0) (.int .i64 W)) (i := 1) (.int .i64 T)) (i := 2) _
      · exact O5.out.set3Ne HNE _ _ _
      · exact heap_set_other (heap_set_other (heap_set_other q5 (by simp; omega) _) (by simp; omega) _) (by simp; omega) _
      · exact below_set3 B5.out (by omega) _ _ _
      · exact HNE

  · rintro a' w5 ⟨v7, v8, v9, v10, v11, v12, v13, v14, v15, b8, g, cg, rfl, s5, O5, q5, B5, hne⟩
    try simp only [Act.put, List.setIfInBounds_toArray, List.set_cons_zero, List.set_cons_succ]
    have R5 : RowB w5 (w.heap.size + 2) g n cg (fun i => xs.getD i false) := RowB.of O5 HN.out
    have lg := R5.base
    have l5 := heap_lt s5
    clear O5 p1 q1 c0 c1 c2 HSC HSL HSRC lp lq
    go_wp2_with fail
    go_loopw [6] (fun i wr => ∃ k : Nat, k ≤ m ∧ i = .int .i64 k ∧ RowB wr (w.heap.size + 2) g n cg (lessF xs (L.take k)) ∧ wr.heap[b8]? = some (.cells #[.int .i64 W, .int .i64 T, .slice (some ⟨g, 0, none⟩) n cg] 25 (0, 0)) ∧ wr.heap[w.heap.size + 1]? = some (.cells #[.int .i64 0, .int .i64 0, .slice none 0 0] 25 (0, 0)) ∧ Below w.heap.size w wr) (fun i _ => m - (intOf i).toNat)
    case atStart => exact ⟨0, Nat.zero_le _, rfl, R5.congr (fun i hi => by simp [lessF]), s5, q5, B5⟩
    case round =>
      rename World => wo
      clear R5 s5 q5 B5 l5
      obtain ⟨k, hk, rfl, hr, s6, q6, b6⟩ := hrel
      obtain ⟨t0, t1, t2⟩ := cells3 s6
      have l6 := heap_lt s6
      by_cases hkm : k < m
      · obtain ⟨c, hc⟩ : ∃ c, c = L.getD k 0 := ⟨_, rfl⟩
        have hcn : c < n := by rw [hc]; exact HLL.out k hkm
        obtain ⟨lb, lo, ea, hlc⟩ := (HL.out.below b6) k (by rw [castL_len, ← HMM.out]; exact hkm)
        rw [castL_get, ← hc] at hlc
        cases ea
        have hcell := hr.cell hcn
        have hfree := hr.free c
        have RR := Lib.hid hr; clear hr
        have HC := Lib.hid hc; clear hc
        have e1 : (k : Int) < m := by omega
        have e2 : (c : Int) < n := by omega
        go_wp2_with fail
        go_region
        go_wp2_with fail
        have h := (RR.out.set c false).1
        refine ⟨⟨k + 1, by omega, by go_num, ?_, heap_set_other s6 (p := ⟨g, c, none⟩) hne (.bool false), heap_set_other q6 (p := ⟨g, c, none⟩) (by simp; omega) (.bool false), (b6.setCell (p := ⟨g, c, none⟩) (by simp; omega) _).drew⟩, by simp [intOf]; omega⟩
        refine RowB.congr h (fun i hi => ?_)
        rw [HC.out]
        exact lessF_step (by rw [← HMM.out]; exact hkm) i
      · obtain rfl : k = m := by omega
        have OB : OwnsB wo (w.heap.size + 2) (.slice (some ⟨g, 0, none⟩) n cg) (lessB xs L) := by
          have h := hr.owns
          rw [HN.out, HMM.out, List.take_length] at h
          rw [HN.out]
          exact h
        have OBH := Lib.hid OB; clear OB hr
        obtain ⟨d0, d1, d2⟩ := cells3 q6
        have e0 := free3 q6 0
        have e1 := free3 q6 1
        have e2 := free3 q6 2
        go_wp2
        refine bodyPost_ret (v := .agg #[.int .i64 W, .int .i64 T, .slice (some ⟨g, 0, none⟩) n cg]) (by simp [results, Try.results78, go_sem, d0, d1, d2]) rfl ⟨g, cg, rfl, ?_, ?_⟩
        · exact OBH.out.set3 (by omega) _ _ _
        · exact below_set3 b6 (by omega) _ _ _

end Go.Proofs.Ythlagmnnkckcnaa
