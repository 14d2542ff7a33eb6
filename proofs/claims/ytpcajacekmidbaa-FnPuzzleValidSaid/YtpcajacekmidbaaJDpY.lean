/- Plain facts: a region's count of tilings is the sum of the counts with the two dominoes that its first cell may have. No statement is proved here. Merged of: DpX, DpY. -/
import Derived.Test.YtpcajacekmidbaaJDpS
namespace Go.Proofs.Ytpcajacekmidbaa
open Go.RowKit
set_option linter.unusedVariables false
set_option maxRecDepth 100000
set_option linter.unusedSimpArgs false

def lessF (xs : List Bool) (L : List Nat) (i : Nat) : Bool := xs.getD i false && !L.contains i
def lessB (xs : List Bool) (L : List Nat) : List Bool := tab xs.length (lessF xs L)
theorem lessB_len (xs : List Bool) (L : List Nat) : (lessB xs L).length = xs.length := by simp [lessB, tab_len]
theorem lessB_get {xs : List Bool} (L : List Nat) {i : Nat} (h : i < xs.length) : (lessB xs L).getD i false = (xs.getD i false && !L.contains i) := by
  unfold lessB; rw [tab_getD _ h]; rfl
theorem lessF_step {xs : List Bool} {L : List Nat} {k : Nat} (hk : k < L.length) (i : Nat) : (if i = L.getD k 0 then false else lessF xs (L.take k) i) = lessF xs (L.take (k + 1)) i := by
  have hcon : ∀ (P : List Nat) (x : Nat), (P ++ [x]).contains i = (P.contains i || i == x) := by
    intro P x
    rw [Bool.eq_iff_iff]
    simp
  unfold lessF
  rw [List.take_succ_eq_append_getElem hk, hcon]
  have e : L.getD k 0 = L[k] := by rw [List.getD_eq_getElem?_getD, List.getElem?_eq_getElem hk, Option.getD_some]
  rw [e]
  by_cases h : i = L[k]
  · rw [if_pos h]
    have h3 : (i == L[k]) = true := by rw [h]; exact beq_self_eq_true _
    rw [h3, Bool.or_true]
    simp
  · rw [if_neg h]
    have h3 : (i == L[k]) = false := beq_eq_false_iff_ne.2 h
    rw [h3, Bool.or_false]

set_option maxHeartbeats 4000000 in
theorem l3Less_any (W T : Int) (a : Option Addr) (n cap : Nat) (xs : List Bool) (la : Option Addr) (m lcap : Nat) (L : List Nat) (w : World) (hn : n = xs.length) (hn' : n ≤ 1048576) (hp : 0 < n) (hm : m = L.length) (hm' : m ≤ 1000) (hL : ∀ q, q < m → L.getD q 0 < n) (ha : BoolsAt w a xs) (hl : IntsAt w la (castL L)) :
    Calls Try.prog 179 #[.agg #[.int .i64 W, .int .i64 T, .slice a n cap], .slice la m lcap] w fun e w' => ∃ g cg,
      e = .returned (.agg #[.int .i64 W, .int .i64 T, .slice (some ⟨g, 0, none⟩) n cg]) ∧ OwnsB w' (w.heap.size + 2) (.slice (some ⟨g, 0, none⟩) n cg) (lessB xs L) ∧ Below w.heap.size w w' := by
  obtain ⟨i0, hi, hz0, hz1, hz2⟩ := info_parts infoBool
  have HN := Lib.hid hn; clear hn
  have HMM := Lib.hid hm; clear hm
  have HLL := Lib.hid hL; clear hL
  obtain ⟨b, off, rfl, hsrc⟩ := ha.addr (by rw [← HN.out]; exact hp)
  have hbl : b < w.heap.size := World.block_lt_of_cell? w _ (hsrc 0 (by rw [← HN.out]; exact hp))
  have HSRC := Lib.hid hsrc; clear hsrc ha
  have HL := Lib.hid hl; clear hl
  obtain ⟨w1, hw1⟩ : ∃ w1, w1 = (w.alloc (.cells #[.int .i64 W, .int .i64 T, .slice (some ⟨b, off, none⟩) n cap] 25)).alloc (.cells #[.int .i64 0, .int .i64 0, .slice none 0 0] 25) := ⟨_, rfl⟩
  have b1 : Below w.heap.size w w1 := by rw [hw1]; exact below2 w _ _
  have p1 : w1.heap[w.heap.size]? = some (.cells #[.int .i64 W, .int .i64 T, .slice (some ⟨b, off, none⟩) n cap] 25 (0, 0)) := by rw [hw1]; exact heap_later (heap_new w _) (below1 _ _)
  have q1 : w1.heap[w.heap.size + 1]? = some (.cells #[.int .i64 0, .int .i64 0, .slice none 0 0] 25 (0, 0)) := by rw [hw1]; exact heap_new2 w _ _
  obtain ⟨c0, c1, c2⟩ := cells3 p1
  have lp := heap_lt p1
  have lq := heap_lt q1
  have hsl : (xs.map Value.bool).length = n * 1 := by rw [List.length_map, ← HN.out]; simp
  have HSL := Lib.hid hsl; clear hsl
  have SC := fun (w' : World) (hb : Below w1.heap.size w1 w') => src_cells (w := w') (b := b) (off := off) (xs := xs) (fun i hi => (hb.cell (p := ⟨b, off + i, none⟩) (show b < w1.heap.size by omega)).trans ((b1.cell (p := ⟨b, off + i, none⟩) hbl).trans (HSRC.out i hi)))
  have HSC := Lib.hid SC; clear SC
  go_enter Try.func179, Try.ntmps179
  go_wp2_with fail
  rw [← hw1]
  clear hw1
  refine cut_region (fun a0 a' w' => ∃ (v7 v8 v9 v10 v11 v12 v13 v14 v15 : Value) (b8 g cg : Nat), a' = ((((((((((a0.put (some 7) v7).put (some 8) v8).put (some 9) v9).put (some 10) v10).put (some 11) v11).put (some 12) v12).put (some 13) v13).put (some 14) v14).put (some 15) v15).put (some 5) (.pointer (some ⟨b8, 0, none⟩))) ∧ w'.heap[b8]? = some (.cells #[.int .i64 W, .int .i64 T, .slice (some ⟨g, 0, none⟩) n cg] 25 (0, 0)) ∧ OwnsB w' (w.heap.size + 2) (.slice (some ⟨g, 0, none⟩) n cg) xs ∧ w'.heap[w.heap.size + 1]? = some (.cells #[.int .i64 0, .int .i64 0, .slice none 0 0] 25 (0, 0)) ∧ Below w.heap.size w w' ∧ b8 ≠ g) ?_ ?_
  · have HSD := Lib.hid (show (fun w' : World => w'.cell? ⟨w.heap.size, 0, none⟩ = some (.int .i64 W) ∧ w'.cell? ⟨w.heap.size, 1, none⟩ = some (.int .i64 T) ∧ w'.cell? ⟨w.heap.size, 2, none⟩ = some (.slice (some ⟨b, off, none⟩) n cap)) w1.drew from ⟨c0, c1, c2⟩)
    refine wp_region_till (fun w' : World => w'.cell? ⟨w.heap.size, 0, none⟩ = some (.int .i64 W) ∧ w'.cell? ⟨w.heap.size, 1, none⟩ = some (.int .i64 T) ∧ w'.cell? ⟨w.heap.size, 2, none⟩ = some (.slice (some ⟨b, off, none⟩) n cap)) 10 (by kernel_rfl) ?_
    refine Till.take (i := 0) (v := ?_) rfl (by kernel_rfl) (by kernel_rfl) (by kernel_rfl) (by kernel_rfl) (fun _ _ _ h => nomatch h.1) (Or.inl ⟨by kernel_rfl, ?_⟩) HSD.out ?_
    rotate_left
    · intro ws hsw
      obtain ⟨s1, s2, s3⟩ := hsw
      go_simp
      try with_reducible rfl
    try simp only [Act.put, List.setIfInBounds_toArray, List.set_cons_zero, List.set_cons_succ]
    refine Till.take (i := 1) (v := ?_) rfl (by kernel_rfl) (by kernel_rfl) (by kernel_rfl) (by kernel_rfl) (fun _ _ _ h => nomatch h.1) (Or.inl ⟨by kernel_rfl, ?_⟩) HSD.out ?_
    rotate_left
    · intro ws hsw
      obtain ⟨s1, s2, s3⟩ := hsw
      go_simp
      try with_reducible rfl
    try simp only [Act.put, List.setIfInBounds_toArray, List.set_cons_zero, List.set_cons_succ]
    refine Till.take (i := 2) (v := ?_) rfl (by kernel_rfl) (by kernel_rfl) (by kernel_rfl) (by kernel_rfl) (fun _ _ _ h => nomatch h.1) (Or.inl ⟨by kernel_rfl, ?_⟩) HSD.out ?_
    rotate_left
    · intro ws hsw
      obtain ⟨s1, s2, s3⟩ := hsw
      go_simp
      try with_reducible rfl
    try simp only [Act.put, List.setIfInBounds_toArray, List.set_cons_zero, List.set_cons_succ]
    refine Till.take (i := 3) (v := ?_) rfl (by kernel_rfl) (by kernel_rfl) (by kernel_rfl) (by kernel_rfl) (fun _ _ _ h => nomatch h.1) (Or.inl ⟨by kernel_rfl, ?_⟩) HSD.out ?_
    rotate_left
    · intro ws hsw
      obtain ⟨s1, s2, s3⟩ := hsw
      go_simp
      try with_reducible rfl
    try simp only [Act.put, List.setIfInBounds_toArray, List.set_cons_zero, List.set_cons_succ]
    refine Till.take (i := 5) (v := ?_) rfl (by kernel_rfl) (by kernel_rfl) (by kernel_rfl) (by kernel_rfl) (fun _ _ _ h => nomatch h.1) (Or.inl ⟨by kernel_rfl, ?_⟩) HSD.out ?_
    rotate_left
    · intro ws hsw
      obtain ⟨s1, s2, s3⟩ := hsw
      go_simp
      try with_reducible rfl
    try simp only [Act.put, List.setIfInBounds_toArray, List.set_cons_zero, List.set_cons_succ]
    refine Till.take (i := 6) (v := ?_) rfl (by kernel_rfl) (by kernel_rfl) (by kernel_rfl) (by kernel_rfl) (fun _ _ _ h => nomatch h.1) (Or.inl ⟨by kernel_rfl, ?_⟩) HSD.out ?_
    rotate_left
    · intro ws hsw
      obtain ⟨s1, s2, s3⟩ := hsw
      go_simp
      try with_reducible rfl
    try simp only [Act.put, List.setIfInBounds_toArray, List.set_cons_zero, List.set_cons_succ]
    refine Till.two (i := 4) (j := 9) (by kernel_rfl) rfl rfl (by rfl) (by rfl) (fun K hK => ?_) (fun K hK => ?_)
    · go_simp
      have WNA := Lib.hid (show Below w1.heap.size w1 (w1.alloc (.cells #[] 4)).drew from below_seq (below1 _ _) (drew_below _))
      refine hK.out _ _ (fun _ => ⟨cell_later WNA.out c0, cell_later WNA.out c1, cell_later WNA.out c2⟩) ?_
      clear hK K
      refine Till.two (i := 7) (j := 9) (by kernel_rfl) rfl rfl (by rfl) (by rfl) (fun K hK => ?_) (fun K hK => ?_)
      · refine step_append_lies _ rfl _ _ 23 rfl (w.heap.size + 2) 4 i0 (.bool false) 1 1 Try.underlying23 hi hz0 hz1 hz2 rfl (by decide) _ 0 [] rfl ((emptyRow w1 (by omega)).drew) ⟨b, off, none⟩ n cap (xs.map Value.bool) rfl HSL.out (HSC.out _ WNA.out) (bools_one xs) hp (by unfold maxLen; omega) (by omega) (by simp; omega) (w1.heap.size + 1) (by simp) ?_
        intro g' c' w5 hown' hgrow hor glt
        have p5 := heap_grown (heap_later p1 WNA.out) hgrow (ne_own (show w1.heap.size ≠ w.heap.size by omega))
        have q5 := heap_grown (heap_later q1 WNA.out) hgrow (ne_own (show w1.heap.size ≠ w.heap.size + 1 by omega))
        have B5 := Lib.hid (below_grown (below_seq b1 WNA.out) hgrow (Nat.le_refl _) (fun k e => by have e' : w1.heap.size = k := Option.some.inj e; omega))
        have O5 : Hid (OwnsB w5 (w.heap.size + 2) (.slice (some ⟨g', 0, none⟩) n c') xs) := by have h := OwnsB.ofRow (xs := xs) hown' (by simp) (by rw [← HN.out]; simp); rwa [Nat.zero_add] at h
        have S5 : (fun w' : World => w'.cell? ⟨w.heap.size, 0, none⟩ = some (.int .i64 W) ∧ w'.cell? ⟨w.heap.size, 1, none⟩ = some (.int .i64 T) ∧ w'.cell? ⟨w.heap.size, 2, none⟩ = some (.slice (some ⟨b, off, none⟩) n cap)) w5 := ⟨(cells3 p5).1, (cells3 p5).2.1, (cells3 p5).2.2⟩
        clear hown' hgrow
        refine hK.out _ _ (fun _ => S5) ?_
        clear hK K
        refine Till.take (i := 8) (v := ?_) rfl (by kernel_rfl) (by kernel_rfl) (by kernel_rfl) (by kernel_rfl) (fun _ _ _ h => nomatch h.1) (Or.inl ⟨by kernel_rfl, ?_⟩) S5 ?_
        rotate_left
        · intro ws hsw
          obtain ⟨s1, s2, s3⟩ := hsw
          go_simp
          try with_reducible rfl
        try simp only [Act.put, List.setIfInBounds_toArray, List.set_cons_zero, List.set_cons_succ]
        refine Till.one (i := 9) (by kernel_rfl) rfl (by rfl) (fun K hK => ?_)
        go_simp
        refine hK.out _ _ (fun _ => ⟨cell_later (below1 w5 _) S5.1, cell_later (below1 w5 _) S5.2.1, cell_later (below1 w5 _) S5.2.2⟩) ?_
        clear hK K
        refine Till.one (i := 10) (by kernel_rfl) rfl (by rfl) (fun K hK => ?_)
        go_simp
        refine hK.out _ _ (fun h => absurd rfl h) ?_
        clear hK K
        refine Till.done (by kernel_rfl) ⟨rfl, _, _, _, _, _, _, _, _, _, _, g', c', rfl, ?_, ?_, ?_, ?_, ?_⟩ _
        · exact heap_new _ _
        · exact OwnsB.alloc O5.out _
        · exact heap_later q5 (below1 _ _)
        · exact below_seq B5.out (below1 _ _)
        · exact (by omega : w5.heap.size ≠ g')

      · go_simp
        have WNB := Lib.hid (show Below w1.heap.size w1 ((w1.alloc (.cells #[] 4)).alloc (.cells #[.int .i64 0, .int .i64 0, .slice none 0 0] 25)).drew from below_seq (below2 _ _ _) (drew_below _))
        refine hK.out _ _ (fun _ => ⟨cell_later WNB.out c0, cell_later WNB.out c1, cell_later WNB.out c2⟩) ?_
        clear hK K
        refine Till.one (i := 7) (by kernel_rfl) rfl (by rfl) (fun K hK => ?_)
        refine step_append_lies _ rfl _ _ 23 rfl (w.heap.size + 2) 4 i0 (.bool false) 1 1 Try.underlying23 hi hz0 hz1 hz2 rfl (by decide) _ 0 [] rfl (((emptyRow w1 (by omega)).alloc _).drew) ⟨b, off, none⟩ n cap (xs.map Value.bool) rfl HSL.out (HSC.out _ WNB.out) (bools_one xs) hp (by unfold maxLen; omega) (by omega) (by simp; omega) (w1.heap.size + 2) (by simp) ?_
        intro g' c' w5 hown' hgrow hor glt
        have HNE : w1.heap.size + 1 ≠ g' := by rcases hor with e | e; (have e' : w1.heap.size = g' := Option.some.inj e; omega); omega
        have p5 := heap_grown (heap_later p1 WNB.out) hgrow (ne_own (show w1.heap.size ≠ w.heap.size by omega))
        have q5 := heap_grown (heap_later q1 WNB.out) hgrow (ne_own (show w1.heap.size ≠ w.heap.size + 1 by omega))
        have B5 := Lib.hid (below_grown (below_seq b1 WNB.out) hgrow (Nat.le_refl _) (fun k e => by have e' : w1.heap.size = k := Option.some.inj e; omega))
        have O5 : Hid (OwnsB w5 (w.heap.size + 2) (.slice (some ⟨g', 0, none⟩) n c') xs) := by have h := OwnsB.ofRow (xs := xs) hown' (by simp) (by rw [← HN.out]; simp); rwa [Nat.zero_add] at h
        have S5 : (fun w' : World => w'.cell? ⟨w.heap.size, 0, none⟩ = some (.int .i64 W) ∧ w'.cell? ⟨w.heap.size, 1, none⟩ = some (.int .i64 T) ∧ w'.cell? ⟨w.heap.size, 2, none⟩ = some (.slice (some ⟨b, off, none⟩) n cap)) w5 := ⟨(cells3 p5).1, (cells3 p5).2.1, (cells3 p5).2.2⟩
        have s5 := heap_grown (show (World.drew ((w1.alloc (.cells #[] 4)).alloc (.cells #[.int .i64 0, .int .i64 0, .slice none 0 0] 25))).heap[_]? = some _ from heap_new2 w1 _ _) hgrow (ne_own (show w1.heap.size ≠ w1.heap.size + 1 by omega))
        have s5c := cells3 s5
        obtain ⟨t0, t1, t2⟩ := s5c
        have e0 := free3 s5 0
        have e1 := free3 s5 1
        have e2 := free3 s5 2
        clear hown' hgrow
        refine hK.out _ _ (fun _ => S5) ?_
        clear hK K
        refine Till.take (i := 8) (v := ?_) rfl (by kernel_rfl) (by kernel_rfl) (by kernel_rfl) (by kernel_rfl) (fun _ _ _ h => nomatch h.1) (Or.inl ⟨by kernel_rfl, ?_⟩) S5 ?_
        rotate_left
        · intro ws hsw
          obtain ⟨s1, s2, s3⟩ := hsw
          go_simp
          try with_reducible rfl
        try simp only [Act.put, List.setIfInBounds_toArray, List.set_cons_zero, List.set_cons_succ]
        refine Till.one (i := 10) (by kernel_rfl) rfl (by rfl) (fun K hK => ?_)
        go_simp
        refine hK.out _ _ (fun h => absurd rfl h) ?_
        clear hK K
        refine Till.done (by kernel_rfl) ⟨rfl, _, _, _, _, _, _, _, _, _, _, g', c', rfl, ?_, ?_, ?_, ?_, ?_⟩ _
        · exact by simpa using block_setCell (block_setCell (block_setCell s5 (i := 0) (.int .i64 W)) (i := 1) (.int .i64 T)) (i := 2) _
        · exact O5.out.set3Ne HNE _ _ _
        · exact heap_set_other (heap_set_other (heap_set_other q5 (by simp; omega) _) (by simp; omega) _) (by simp; omega) _
        · exact below_set3 B5.out (by omega) _ _ _
        · exact HNE

    · go_simp
      have WNC := Lib.hid (show Below w1.heap.size w1 (w1.alloc (.cells #[.int .i64 0, .int .i64 0, .slice none 0 0] 25)).drew from below_seq (below1 _ _) (drew_below _))
      refine hK.out _ _ (fun _ => ⟨cell_later WNC.out c0, cell_later WNC.out c1, cell_later WNC.out c2⟩) ?_
      clear hK K
      refine Till.one (i := 4) (by kernel_rfl) rfl (by rfl) (fun K hK => ?_)
      go_simp
      have WND := Lib.hid (show Below w1.heap.size w1 ((w1.alloc (.cells #[.int .i64 0, .int .i64 0, .slice none 0 0] 25)).alloc (.cells #[] 4)).drew from below_seq (below2 _ _ _) (drew_below _))
      refine hK.out _ _ (fun _ => ⟨cell_later WND.out c0, cell_later WND.out c1, cell_later WND.out c2⟩) ?_
      clear hK K
      refine Till.one (i := 7) (by kernel_rfl) rfl (by rfl) (fun K hK => ?_)
      refine step_append_lies _ rfl _ _ 23 rfl (w.heap.size + 2) 4 i0 (.bool false) 1 1 Try.underlying23 hi hz0 hz1 hz2 rfl (by decide) _ 0 [] rfl (emptyRowAt (w1.alloc (.cells #[.int .i64 0, .int .i64 0, .slice none 0 0] 25)) (B := w.heap.size + 2) (k := w1.heap.size + 1) (by simp) (by simp; omega)).drew ⟨b, off, none⟩ n cap (xs.map Value.bool) rfl HSL.out (HSC.out _ WND.out) (bools_one xs) hp (by unfold maxLen; omega) (by omega) (by simp; omega) (w1.heap.size + 2) (by simp) ?_
      intro g' c' w5 hown' hgrow hor glt
      have HNE : w1.heap.size ≠ g' := by rcases hor with e | e; (have e' : w1.heap.size + 1 = g' := Option.some.inj e; omega); omega
      have p5 := heap_grown (heap_later p1 WND.out) hgrow (ne_own (show (w1.heap.size + 1) ≠ w.heap.size by omega))
      have q5 := heap_grown (heap_later q1 WND.out) hgrow (ne_own (show (w1.heap.size + 1) ≠ w.heap.size + 1 by omega))
      have B5 := Lib.hid (below_grown (below_seq b1 WND.out) hgrow (Nat.le_refl _) (fun k e => by have e' : w1.heap.size + 1 = k := Option.some.inj e; omega))
      have O5 : Hid (OwnsB w5 (w.heap.size + 2) (.slice (some ⟨g', 0, none⟩) n c') xs) := by have h := OwnsB.ofRow (xs := xs) hown' (by simp) (by rw [← HN.out]; simp); rwa [Nat.zero_add] at h
      have S5 : (fun w' : World => w'.cell? ⟨w.heap.size, 0, none⟩ = some (.int .i64 W) ∧ w'.cell? ⟨w.heap.size, 1, none⟩ = some (.int .i64 T) ∧ w'.cell? ⟨w.heap.size, 2, none⟩ = some (.slice (some ⟨b, off, none⟩) n cap)) w5 := ⟨(cells3 p5).1, (cells3 p5).2.1, (cells3 p5).2.2⟩
      have s5 := heap_grown (heap_later (heap_later (heap_new w1 (.cells #[.int .i64 0, .int .i64 0, .slice none 0 0] 25)) (below1 _ (.cells #[] 4))) (drew_below _)) hgrow (ne_own (show w1.heap.size + 1 ≠ w1.heap.size by omega))
      have s5c := cells3 s5
      obtain ⟨t0, t1, t2⟩ := s5c
      have e0 := free3 s5 0
      have e1 := free3 s5 1
      have e2 := free3 s5 2
      clear hown' hgrow
      refine hK.out _ _ (fun _ => S5) ?_
      clear hK K
      refine Till.take (i := 8) (v := ?_) rfl (by kernel_rfl) (by kernel_rfl) (by kernel_rfl) (by kernel_rfl) (fun _ _ _ h => nomatch h.1) (Or.inl ⟨by kernel_rfl, ?_⟩) S5 ?_
      rotate_left
      · intro ws hsw
        obtain ⟨s1, s2, s3⟩ := hsw
        go_simp
        try with_reducible rfl
      try simp only [Act.put, List.setIfInBounds_toArray, List.set_cons_zero, List.set_cons_succ]
      refine Till.one (i := 10) (by kernel_rfl) rfl (by rfl) (fun K hK => ?_)
      go_simp
      refine hK.out _ _ (fun h => absurd rfl h) ?_
      clear hK K
      refine Till.done (by kernel_rfl) ⟨rfl, _, _, _, _, _, _, _, _, _, _, g', c', rfl, ?_, ?_, ?_, ?_, ?_⟩ _
      · exact by simpa using block_setCell (block_setCell (block_setCell s5 (i := 0) (.int .i64 W)) (i := 1) (.int .i64 T)) (i := 2) _
      · exact O5.out.set3Ne HNE _ _ _
      · exact heap_set_other (heap_set_other (heap_set_other q5 (by simp; omega) _) (by simp; omega) _) (by simp; omega) _
      · exact below_set3 B5.out (by omega) _ _ _
      · exact HNE

  · rintro a' w5 ⟨v7, v8, v9, v10, v11, v12, v13, v14, v15, b8, g, cg, rfl, s5, O5, q5, B5, hne⟩
    try simp only [Act.put, List.setIfInBounds_toArray, List.set_cons_zero, List.set_cons_succ]
    have R5 : RowB w5 (w.heap.size + 2) g n cg (fun i => xs.getD i false) := RowB.of O5 HN.out
    have lg := R5.base
    have l5 := heap_lt s5
    clear O5 p1 q1 c0 c1 c2 HSC HSL HSRC lp lq
    go_wp2_with fail
    go_loopw [6] (fun i wr => ∃ k : Nat, k ≤ m ∧ i = .int .i64 k ∧ RowB wr (w.heap.size + 2) g n cg (lessF xs (L.take k)) ∧ wr.heap[b8]? = some (.cells #[.int .i64 W, .int .i64 T, .slice (some ⟨g, 0, none⟩) n cg] 25 (0, 0)) ∧ wr.heap[w.heap.size + 1]? = some (.cells #[.int .i64 0, .int .i64 0, .slice none 0 0] 25 (0, 0)) ∧ Below w.heap.size w wr) (fun i _ => m - (intOf i).toNat)
    case atStart => exact ⟨0, Nat.zero_le _, rfl, R5.congr (fun i hi => by simp [lessF]), s5, q5, B5⟩
    case round =>
      rename World => wo
      clear R5 s5 q5 B5 l5
      obtain ⟨k, hk, rfl, hr, s6, q6, b6⟩ := hrel
      obtain ⟨t0, t1, t2⟩ := cells3 s6
      have l6 := heap_lt s6
      by_cases hkm : k < m
      · obtain ⟨c, hc⟩ : ∃ c, c = L.getD k 0 := ⟨_, rfl⟩
        have hcn : c < n := by rw [hc]; exact HLL.out k hkm
        obtain ⟨lb, lo, ea, hlc⟩ := (HL.out.below b6) k (by rw [castL_len, ← HMM.out]; exact hkm)
        rw [castL_get, ← hc] at hlc
        cases ea
        have hcell := hr.cell hcn
        have hfree := hr.free c
        have RR := Lib.hid hr; clear hr
        have HC := Lib.hid hc; clear hc
        have e1 : (k : Int) < m := by omega
        have e2 : (c : Int) < n := by omega
        go_wp2_with fail
        go_region
        go_wp2_with fail
        have h := (RR.out.set c false).1
        refine ⟨⟨k + 1, by omega, by go_num, ?_, heap_set_other s6 (p := ⟨g, c, none⟩) hne (.bool false), heap_set_other q6 (p := ⟨g, c, none⟩) (by simp; omega) (.bool false), (b6.setCell (p := ⟨g, c, none⟩) (by simp; omega) _).drew⟩, by simp [intOf]; omega⟩
        refine RowB.congr h (fun i hi => ?_)
        rw [HC.out]
        exact lessF_step (by rw [← HMM.out]; exact hkm) i
      · obtain rfl : k = m := by omega
        have OB : OwnsB wo (w.heap.size + 2) (.slice (some ⟨g, 0, none⟩) n cg) (lessB xs L) := by
          have h := hr.owns
          rw [HN.out, HMM.out, List.take_length] at h
          rw [HN.out]
          exact h
        have OBH := Lib.hid OB; clear OB hr
        obtain ⟨d0, d1, d2⟩ := cells3 q6
        have e0 := free3 q6 0
        have e1 := free3 q6 1
        have e2 := free3 q6 2
        go_wp2
        refine bodyPost_ret (v := .agg #[.int .i64 W, .int .i64 T, .slice (some ⟨g, 0, none⟩) n cg]) (by simp [results, Try.results179, go_sem, d0, d1, d2]) rfl ⟨g, cg, rfl, ?_, ?_⟩
        · exact OBH.out.set3 (by omega) _ _ _
        · exact below_set3 b6 (by omega) _ _ _

end Go.Proofs.Ytpcajacekmidbaa

namespace Go.Proofs.Ytpcajacekmidbaa
open Go.RowKit
set_option linter.unusedVariables false
set_option maxRecDepth 100000
set_option linter.unusedSimpArgs false

def canTake (W T : Int) (xs : List Bool) (k way : Int) : Bool := decide (0 ≤ cellB W T xs.length k way) && (xs.getD k.toNat false && xs.getD (cellB W T xs.length k way).toNat false)
def takeB (W T : Int) (xs : List Bool) (k way : Int) : List Bool := if canTake W T xs k way then lessB xs [k.toNat, (cellB W T xs.length k way).toNat] else xs
/-- How many tilings have a domino from a cell in a direction. -/
def withN (W T : Int) (xs : List Bool) (k way : Int) : Nat := if canTake W T xs k way then dpT W T (lessB xs [k.toNat, (cellB W T xs.length k way).toNat]) else 0
theorem takeB_len (W T : Int) (xs : List Bool) (k way : Int) : (takeB W T xs k way).length = xs.length := by unfold takeB; split; exact lessB_len _ _; rfl

theorem cnt_tab (N : Nat) (f : Nat → Bool) : cnt (tab N f) = (List.range N).countP f := by
  unfold cnt tab
  rw [List.countP_map]
  rfl
theorem cnt_less (xs : List Bool) (L : List Nat) : cnt (lessB xs L) ≤ cnt xs := by
  have e : cnt xs = cnt (tab xs.length (fun i => xs.getD i false)) := by rw [tab_of]
  rw [e]
  unfold lessB
  rw [cnt_tab, cnt_tab]
  refine List.countP_mono_left (fun i _ h => ?_)
  unfold lessF at h
  rw [Bool.and_eq_true] at h
  exact h.1
theorem rv_less {W T : Int} {xs : List Bool} {L : List Nat} (h : rv W T xs = true) : rv W T (lessB xs L) = true := by
  obtain ⟨h1, h2, h3, h4, h5, h6⟩ := rv_true h
  have := cnt_less xs L
  have e := lessB_len xs L
  unfold rv
  simp only [e]
  simp
  omega

end Go.Proofs.Ytpcajacekmidbaa

namespace Go.Proofs.Ytpcajacekmidbaa
open Go.RowKit
set_option linter.unusedVariables false
set_option maxRecDepth 100000
set_option linter.unusedSimpArgs false

end Go.Proofs.Ytpcajacekmidbaa

namespace Go.Proofs.Ytpcajacekmidbaa
open Go.RowKit
set_option linter.unusedVariables false
set_option maxRecDepth 100000
set_option linter.unusedSimpArgs false

theorem withN_le' {W T : Int} {xs : List Bool} (h : xs.length ≤ 36) (k way : Int) : withN W T xs k way ≤ 68719476736 := by
  unfold withN
  split
  · exact dpT_le (by rw [lessB_len]; exact h)
  · omega
theorem tok_pair {W T : Int} {xs : List Bool} {L : List Int} (h : tok W T xs L = true) {k : Nat} (hk : k < xs.length) (hx : xs.getD k false = true) :
    L.getD k 0 ≠ 0 ∧ ∃ o : Nat, stepI W T k (L.getD k 0) = o ∧ o < xs.length ∧ L.getD o 0 = backI (L.getD k 0) ∧ stepI W T o (L.getD o 0) = k ∧ o ≠ k := by
  unfold tok at h
  rw [Bool.and_eq_true, decide_eq_true_eq] at h
  obtain ⟨hl, hf⟩ := h
  obtain ⟨hr, hlen, hg⟩ := lok_rv hl
  obtain ⟨v1, v2, v3, v4, v5, _⟩ := rv_true hr
  have hnz : L.getD k 0 ≠ 0 := by
    intro h0
    have hfr : freeB xs L k = true := by unfold freeB; rw [hx, h0]; rfl
    rcases first_cases xs L 0 L.length with ⟨_, hn⟩ | ⟨j, _, _, e, _⟩
    · rw [hn k (Nat.zero_le _) (by omega)] at hfr; cases hfr
    · rw [e] at hf; omega
  refine ⟨hnz, ?_⟩
  have hb := lok_both hl (k := k) (by omega) hnz
  have hw := lok_way hl (k := k) (by omega)
  unfold bothB at hb
  simp only [Bool.and_eq_true, decide_eq_true_eq, beq_iff_eq] at hb
  obtain ⟨⟨⟨h0, _⟩, hxo⟩, hbk⟩ := hb
  have hbd := step_bd (W := W) (T := T) (k := (k : Int)) (way := L.getD k 0) v1 (by omega) (by omega)
  obtain ⟨o, ho⟩ : ∃ o : Nat, stepI W T k (L.getD k 0) = o := ⟨(stepI W T k (L.getD k 0)).toNat, by omega⟩
  rw [ho] at hbk hbd h0
  have hback := rk_back (W := W) (T := T) (k := (k : Int)) (way := L.getD k 0) v1 v2 (by omega) (by omega) (by omega) (by rw [ho]; exact h0)
  have hne := step_ne (W := W) (T := T) (k := (k : Int)) (way := L.getD k 0) v1 (by rw [ho]; exact h0) (by omega)
  rw [ho] at hback hne
  simp only [Int.toNat_natCast] at hbk
  refine ⟨o, ho, by omega, hbk, by rw [hbk]; exact hback, by omega⟩

/-- How the list of the model and what is left hang together. -/
structure RInv (W T : Int) (xs : List Bool) (L : List Int) (c : Nat) (M : List Int) (ys : List Bool) : Prop where
  ly : ys.length = xs.length
  lm : M.length = xs.length
  ok : lok W T xs M = true
  free : ∀ j, j < xs.length → freeB xs M j = ys.getD j false
  done : ∀ j, j < c → ys.getD j false = false
  pair : ∀ j o : Nat, ys.getD j false = true → stepI W T j (L.getD j 0) = o → ys.getD o false = true

theorem getD_lt {ys : List Bool} {j : Nat} (h : ys.getD j false = true) : j < ys.length := by
  rcases Nat.lt_or_ge j ys.length with h' | h'
  · exact h'
  · rw [List.getD_eq_getElem?_getD, List.getElem?_eq_none h'] at h
    cases h

theorem RInv.start {W T : Int} {xs : List Bool} {L : List Int} (h : tok W T xs L = true) : RInv W T xs L 0 (List.replicate xs.length 0) xs := by
  have hl : lok W T xs L = true := by unfold tok at h; rw [Bool.and_eq_true] at h; exact h.1
  obtain ⟨hr, hlen, _⟩ := lok_rv hl
  have hz : ∀ k : Nat, (List.replicate xs.length (0 : Int)).getD k 0 = 0 := by
    intro k
    rw [List.getD_eq_getElem?_getD]
    rcases Nat.lt_or_ge k xs.length with h' | h'
    · rw [List.getElem?_replicate_of_lt h']; rfl
    · rw [List.getElem?_eq_none (by simpa using h')]; rfl
  refine ⟨rfl, by simp, ?_, ?_, fun j hj => absurd hj (Nat.not_lt_zero _), ?_⟩
  · unfold lok goodN
    rw [hr]
    simp only [List.length_replicate, BEq.rfl, Bool.true_and, List.all_eq_true]
    intro k _
    unfold goodB
    rw [hz]
    rfl
  · intro j _
    unfold freeB
    rw [hz]
    simp
  · intro j o hj ho
    obtain ⟨_, o', ho', hlt, hb, hs, hne⟩ := tok_pair h (getD_lt hj) hj
    rw [ho] at ho'
    have : o = o' := by omega
    subst this
    have hb2 := lok_both hl (k := j) (by rw [hlen]; exact getD_lt hj) (tok_pair h (getD_lt hj) hj).1
    unfold bothB at hb2
    simp only [Bool.and_eq_true] at hb2
    have := hb2.1.2
    rw [ho] at this
    simpa using this

theorem RInv.skip {W T : Int} {xs : List Bool} {L M : List Int} {c : Nat} {ys : List Bool} (h : RInv W T xs L c M ys) (hc : ys.getD c false = false) : RInv W T xs L (c + 1) M ys :=
  ⟨h.ly, h.lm, h.ok, h.free, fun j hj => by
    by_cases e : j = c
    · rw [e]; exact hc
    · exact h.done j (by omega), h.pair⟩

theorem RInv.can {W T : Int} {xs : List Bool} {L M : List Int} {c : Nat} {ys : List Bool} (h : RInv W T xs L c M ys) (hc : c < xs.length) (way : Int) : canLay W T xs M c way = canTake W T ys c way := by
  obtain ⟨hr, _, _⟩ := lok_rv h.ok
  obtain ⟨v1, v2, v3, v4, v5, _⟩ := rv_true hr
  unfold canLay canTake
  rw [h.ly]
  by_cases h0 : 0 ≤ cellB W T xs.length c way
  · have hbd := cellB_bd (W := W) (T := T) (n := xs.length) (k := (c : Int)) (way := way) v1 v5 h0
    simp only [Int.toNat_natCast]
    rw [h.free c hc, h.free _ (by omega), Bool.and_assoc]
  · rw [decide_eq_false h0]; rfl

theorem RInv.step {W T : Int} {xs : List Bool} {L M : List Int} {c : Nat} {ys : List Bool} (h : RInv W T xs L c M ys) (ht : tok W T xs L = true) (hc : c < xs.length) (hy : ys.getD c false = true) :
    canLay W T xs M c (L.getD c 0) = true ∧ RInv W T xs L (c + 1) (laidL W T xs M c (L.getD c 0)) (takeB W T ys c (L.getD c 0)) := by
  have hfc : freeB xs M c = true := by rw [h.free c hc]; exact hy
  have hxc : xs.getD c false = true := by unfold freeB at hfc; rw [Bool.and_eq_true] at hfc; exact hfc.1
  obtain ⟨hnz, o, hs, ho, hbk, hback, hne⟩ := tok_pair ht hc hxc
  have hyo := h.pair c o hy hs
  have hfo : freeB xs M o = true := by rw [h.free o ho]; exact hyo
  have hl : lok W T xs L = true := by unfold tok at ht; rw [Bool.and_eq_true] at ht; exact ht.1
  have hlen := lok_len' hl
  have hw := lok_way hl (k := c) (by omega)
  obtain ⟨way, hway⟩ : ∃ way, way = L.getD c 0 := ⟨_, rfl⟩
  rw [← hway] at hs hbk hw hnz ⊢
  rw [hbk] at hback
  have hcell : cellB W T xs.length c way = o := by unfold cellB; rw [if_pos (by omega)]; exact hs
  have hcan : canTake W T ys c way = true := by
    unfold canTake
    rw [h.ly, hcell]
    simp [-List.getD_eq_getElem?_getD, hy, hyo]
  have hlay : canLay W T xs M c way = true := by rw [h.can hc]; exact hcan
  have e1 : takeB W T ys c way = lessB ys [c, o] := by unfold takeB; rw [hcan, h.ly, hcell]; simp [-List.getD_eq_getElem?_getD]
  have e2 : laidL W T xs M c way = (M.set c way).set o (backI way) := by unfold laidL; rw [hlay, hcell]; simp [-List.getD_eq_getElem?_getD]
  refine ⟨hlay, ?_⟩
  rw [e1, e2]
  have hgd : ∀ j : Nat, ((M.set c way).set o (backI way)).getD j 0 = if j = o then backI way else if j = c then way else M.getD j 0 := fun j => getD_set2 (by rw [h.lm]; exact hc) (by rw [h.lm]; exact ho)
  have hlg : ∀ j, j < xs.length → (lessB ys [c, o]).getD j false = (ys.getD j false && !(decide (j = c) || decide (j = o))) := by
    intro j hj
    rw [lessB_get _ (by rw [h.ly]; exact hj)]
    by_cases a1 : j = c
    · subst a1; simp [-List.getD_eq_getElem?_getD]
    · by_cases a2 : j = o
      · subst a2; simp [-List.getD_eq_getElem?_getD]
      · simp [-List.getD_eq_getElem?_getD, a1, a2]
  refine ⟨by rw [lessB_len, h.ly], by simp [-List.getD_eq_getElem?_getD, h.lm], lok_lay h.ok hc ho hne hfc hfo (by omega) hs hback, ?_, ?_, ?_⟩
  · intro j hj
    rw [hlg j hj, ← h.free j hj]
    unfold freeB
    rw [hgd j]
    by_cases a2 : j = o
    · subst a2
      have := back_nz hw.1
      simp [-List.getD_eq_getElem?_getD, this]
    · by_cases a1 : j = c
      · subst a1
        simp [-List.getD_eq_getElem?_getD, a2, hnz]
      · simp [-List.getD_eq_getElem?_getD, a1, a2]
  · intro j hj
    by_cases a1 : j = c
    · subst a1; rw [hlg j hc]; simp [-List.getD_eq_getElem?_getD]
    · rcases Nat.lt_or_ge j xs.length with hjn | hjn
      · rw [hlg j hjn, h.done j (by omega)]; rfl
      · omega
  · intro j p hj hp
    have hjn : j < xs.length := by have := getD_lt hj; rw [lessB_len, h.ly] at this; exact this
    rw [hlg j hjn] at hj
    simp only [Bool.and_eq_true, Bool.not_eq_true', Bool.or_eq_false_iff, decide_eq_false_iff_not] at hj
    obtain ⟨hyj, hjc, hjo⟩ := hj
    have hyp := h.pair j p hyj hp
    have hpn : p < xs.length := by have := getD_lt hyp; rw [h.ly] at this; exact this
    have hxj : xs.getD j false = true := by have := h.free j hjn; rw [hyj] at this; unfold freeB at this; rw [Bool.and_eq_true] at this; exact this.1
    obtain ⟨_, p', hp', _, _, hback', _⟩ := tok_pair ht hjn hxj
    rw [hp] at hp'
    have : p = p' := by omega
    subst this
    rw [hlg p hpn, hyp]
    have q1 : p ≠ c := fun e => by subst e; rw [← hway, hs] at hback'; omega
    have q2 : p ≠ o := fun e => by subst e; rw [hbk, hback] at hback'; omega
    simp [-List.getD_eq_getElem?_getD, q1, q2]

/-- The cells that a list covers. -/
def covN (M : List Int) : Nat → List Nat
  | 0 => []
  | k + 1 => covN M k ++ (if M.getD k 0 = 0 then [] else [k])
theorem covN_mem {M : List Int} {j : Nat} : ∀ k, j ∈ covN M k ↔ j < k ∧ M.getD j 0 ≠ 0
  | 0 => by simp [-List.getD_eq_getElem?_getD, covN]
  | k + 1 => by
    unfold covN
    rw [List.mem_append, covN_mem k]
    by_cases h : M.getD k 0 = 0
    · rw [if_pos h]
      constructor
      · rintro (⟨h1, h2⟩ | h1)
        · exact ⟨by omega, h2⟩
        · simp [-List.getD_eq_getElem?_getD] at h1
      · rintro ⟨h1, h2⟩
        by_cases e : j = k
        · subst e; exact absurd h h2
        · exact Or.inl ⟨by omega, h2⟩
    · rw [if_neg h]
      constructor
      · rintro (⟨h1, h2⟩ | h1)
        · exact ⟨by omega, h2⟩
        · simp [-List.getD_eq_getElem?_getD] at h1; subst h1; exact ⟨by omega, h⟩
      · rintro ⟨h1, h2⟩
        by_cases e : j = k
        · subst e; exact Or.inr (by simp)
        · exact Or.inl ⟨by omega, h2⟩
theorem covN_le (M : List Int) : ∀ k, (covN M k).length ≤ k
  | 0 => Nat.le_refl _
  | k + 1 => by have := covN_le M k; unfold covN; rw [List.length_append]; split <;> simp <;> omega

end Go.Proofs.Ytpcajacekmidbaa

namespace Go.Proofs.Ytpcajacekmidbaa
open Go.RowKit
set_option linter.unusedVariables false
set_option maxRecDepth 100000
set_option linter.unusedSimpArgs false

set_option maxHeartbeats 2000000 in
theorem l3With_any (W T : Int) (a : Option Addr) (n cap : Nat) (xs : List Bool) (la : Option Addr) (lcap : Nat) (M : List Int) (w : World) (hn : n = xs.length) (hm : n = M.length) (hp : 0 < n) (hn' : n ≤ 36) (ha : BoolsAt w a xs) (hl : IntsAt w la M) :
    Calls Try.prog 148 #[.agg #[.int .i64 W, .int .i64 T, .slice a n cap], .slice la n lcap] w fun e w' => e = .returned (.int .i64 (tilT W T (lessB xs (covN M n)))) ∧ Below w.heap.size w w' := by
  have HN := Lib.hid hn; clear hn
  have HM := Lib.hid hm; clear hm
  have HA := Lib.hid ha; clear ha
  have HL := Lib.hid hl; clear hl
  obtain ⟨wA, hwA⟩ : ∃ wA, wA = (w.alloc (.cells #[.int .i64 W, .int .i64 T, .slice a n cap] 25)).alloc (.cells #[] 3 (0, 0)) := ⟨_, rfl⟩
  have pA : wA.heap[w.heap.size]? = some (.cells #[.int .i64 W, .int .i64 T, .slice a n cap] 25 (0, 0)) := by rw [hwA]; exact heap_later (heap_new w _) (below1 _ _)
  have bA : Below w.heap.size w wA := by rw [hwA]; exact below2 _ _ _
  have oA : OwnsI wA (w.heap.size + 1) (.slice (some ⟨w.heap.size + 1, 0, none⟩) 0 0) [] := by
    rw [hwA]; have := own_nil_lit (w.alloc (.cells #[.int .i64 W, .int .i64 T, .slice a n cap] 25)) (B := w.heap.size + 1) (by simp); simpa using this
  obtain ⟨i0, hi, hz0, hz1, hz2⟩ := info_parts infoInt
  go_enter Try.func148, Try.ntmps148
  go_wp2_with fail
  rw [← hwA]
  clear hwA
  go_loopw [5, 6] (fun v i wr => ∃ k : Nat, k ≤ n ∧ i = .int .i64 k ∧ OwnsI wr (w.heap.size + 1) v (castL (covN M k)) ∧ wr.heap[w.heap.size]? = some (.cells #[.int .i64 W, .int .i64 T, .slice a n cap] 25 (0, 0)) ∧ Below w.heap.size w wr) (fun _ i _ => n - (intOf i).toNat)
  case atStart => exact ⟨0, Nat.zero_le _, rfl, oA, pA, bA⟩
  case round =>
    rename World => wo
    clear oA pA bA
    obtain ⟨k, hk, rfl, ho, pr, hbel⟩ := hrel
    have HO := Lib.hid ho; clear ho
    have BEL := Lib.hid hbel; clear hbel
    have l1 := heap_lt pr
    have cl := covN_le M k
    by_cases hlt : k < n
    · obtain ⟨lb, lo, rfl, hy⟩ := (HL.out.below BEL.out) k (by rw [← HM.out]; exact hlt)
      have hly := World.block_lt_of_cell? wo _ hy
      simp only at hly
      obtain ⟨v, hv⟩ : ∃ v, v = M.getD k 0 := ⟨_, rfl⟩
      rw [← hv] at hy
      have e1 : (k : Int) < n := by omega
      have hnx : covN M (k + 1) = covN M k ++ (if v = 0 then [] else [k]) := by rw [hv]; rfl
      clear hv
      by_cases hv0 : v = 0
      · rw [if_pos hv0, List.append_nil] at hnx
        have HNX := Lib.hid hnx; clear hnx
        subst hv0
        go_wp2_with fail
        exact ⟨⟨k + 1, by omega, by go_num, by rw [HNX.out]; exact HO.out, pr, BEL.out⟩, by simp [intOf]; omega⟩
      · rw [if_neg hv0] at hnx
        have HNX : Hid (castL (covN M (k + 1)) = castL (covN M k) ++ [(k : Int)]) := by show _ = _; rw [hnx, castL_snoc]
        clear hnx
        have zv : (v != 0) = true := by simpa using hv0
        go_wp2_with (at_builtin; refine wpList_append_own _ rfl _ _ 26 rfl (w.heap.size + 1) 3 i0 (.int .i64 0) 1 8 Try.underlying26 hi hz0 hz1 hz2 rfl (by decide) _ (castL (covN M k)).length ((castL (covN M k)).map (Value.int .i64)) rfl (World.ownsRow.alloc HO.out _) ⟨wo.heap.size, 0, none⟩ 1 1 [.int .i64 k] rfl rfl (new_int _ _) (one_int _) (by unfold maxLen; rw [castL_len]; omega) (by rw [castL_len]; omega) (by simp; omega) ?_; intro v' w8 hown' hgrow _; have p8 := heap_grown (heap_later pr (below1 _ _)) hgrow (HO.out.ownBlock (by omega)); have O8 := Lib.hid (OwnsI.ofRow (xs := castL (covN M (k + 1))) hown' (by rw [HNX.out]; simp) (by rw [HNX.out]; simp)); have B8 := Lib.hid (below_grown (below_seq BEL.out (below1 _ _)) hgrow (Nat.le_refl _) (HO.out.ownAt (by omega))); clear hown' hgrow)
        exact ⟨⟨k + 1, by omega, by go_num, O8.out, p8, B8.out⟩, by simp [intOf]; omega⟩
    · obtain rfl : k = n := by omega
      obtain ⟨a9, cap9, hv⟩ := HO.out.form2
      rw [castL_len] at hv
      subst hv
      obtain ⟨c0, c1, c2⟩ := cells3 pr
      have hcb : ∀ q, q < (covN M k).length → (covN M k).getD q 0 < k := by
        intro q hq
        rw [List.getD_eq_getElem?_getD, List.getElem?_eq_getElem hq, Option.getD_some]
        exact ((covN_mem k).1 (List.getElem_mem hq)).1
      go_wp2_with fail
      refine (l3Less_any W T _ k cap xs _ _ _ (covN M k) _ HN.out (by omega) hp rfl (by omega) hcb (HA.out.below BEL.out) (OwnsI.at HO.out)).mono ?_; rintro e w3 ⟨g, cg, rfl, ho3, hb3⟩
      have b3 := below_seq BEL.out hb3
      have O3 := Lib.hid ho3; clear ho3
      go_wp2_with fail
      refine (sTilingsMany_any W T _ k cg (lessB xs (covN M k)) _ (by rw [lessB_len]; exact HN.out) (by omega) (OwnsB.at O3.out)).mono ?_; rintro e w4 ⟨rfl, hb4⟩
      go_wp2
      go_ret
      exact ⟨rfl, below_seq b3 hb4⟩

end Go.Proofs.Ytpcajacekmidbaa

namespace Go.Proofs.Ytpcajacekmidbaa
open Go.RowKit
set_option linter.unusedVariables false
set_option maxRecDepth 100000
set_option linter.unusedSimpArgs false

end Go.Proofs.Ytpcajacekmidbaa

namespace Go.Proofs.Ytpcajacekmidbaa
open Go.RowKit
set_option linter.unusedVariables false
set_option maxRecDepth 100000
set_option linter.unusedSimpArgs false

end Go.Proofs.Ytpcajacekmidbaa

namespace Go.Proofs.Ytpcajacekmidbaa
open Go.RowKit
set_option linter.unusedVariables false
set_option maxRecDepth 100000
set_option linter.unusedSimpArgs false

theorem bit_add : ∀ s : Fin 64, ∀ d : Fin 7, ∀ j : Fin 40, s.val / 2 ^ d.val % 2 = 0 → (s.val + 2 ^ d.val) / 2 ^ j.val % 2 = if j.val = d.val then 1 else s.val / 2 ^ j.val % 2 := by decide +kernel

theorem bit_lt : ∀ s : Fin 64, ∀ d : Fin 7, ∀ m : Fin 8, s.val < 2 ^ m.val → d.val < m.val → s.val / 2 ^ d.val % 2 = 0 → s.val + 2 ^ d.val < 2 ^ m.val := by decide +kernel
theorem bit_lt' {s d m : Nat} (hs : s < 64) (h6 : d ≤ 6) (hm : s < 2 ^ m) (hd : d < m) (hb : s / 2 ^ d % 2 = 0) : s + 2 ^ d < 2 ^ m := by
  by_cases h : m < 8
  · exact bit_lt ⟨s, hs⟩ ⟨d, by omega⟩ ⟨m, h⟩ hm hd hb
  · have h1 : (2 : Nat) ^ 8 ≤ 2 ^ m := Nat.pow_le_pow_right (by decide) (by omega)
    have h2 : (2 : Nat) ^ d ≤ 2 ^ 6 := Nat.pow_le_pow_right (by decide) h6
    have h3 : (2 : Nat) ^ 8 = 256 := by decide
    have h4 : (2 : Nat) ^ 6 = 64 := by decide
    omega

/-- What is left of the cells from the k-th on, without those covered. -/
def cutF (xs : List Bool) (k s i : Nat) : Bool := decide (k ≤ i) && (xs.getD i false && decide (s / 2 ^ (i - k) % 2 = 0))
def cutB (xs : List Bool) (k s : Nat) : List Bool := tab xs.length (cutF xs k s)
theorem cutB_len (xs : List Bool) (k s : Nat) : (cutB xs k s).length = xs.length := by simp [cutB, tab_len]
theorem cutB_get {xs : List Bool} {i : Nat} (k s : Nat) (h : i < xs.length) : (cutB xs k s).getD i false = cutF xs k s i := by unfold cutB; rw [tab_getD _ h]
theorem cutB_ext {xs ys : List Bool} {k s k' s' : Nat} (hl : xs.length = ys.length) (h : ∀ i, i < xs.length → cutF xs k s i = cutF ys k' s' i) : cutB xs k s = cutB ys k' s' := by
  unfold cutB
  rw [← hl]
  exact tab_congr h

theorem div_pow_succ (s j : Nat) : s / 2 / 2 ^ j = s / 2 ^ (j + 1) := by
  rw [Nat.div_div_eq_div_mul, Nat.pow_succ, Nat.mul_comm]

theorem cut_half {xs : List Bool} {k s : Nat} : cutB xs (k + 1) (s / 2) = cutB (cutB xs k s) (k + 1) 0 := by
  refine cutB_ext (cutB_len xs k s).symm (fun i hi => ?_)
  unfold cutF
  rw [cutB_get k s hi]
  unfold cutF
  by_cases h : k + 1 ≤ i
  · have e : i - k = (i - (k + 1)) + 1 := by omega
    have h2 : k ≤ i := by omega
    rw [div_pow_succ, ← e]
    simp [h, h2]
  · simp [h]

theorem cut_add {xs : List Bool} {k s d : Nat} (hs : s < 64) (h1 : 1 ≤ d) (h6 : d ≤ 6) (hn : xs.length ≤ 36) (hb : s / 2 ^ d % 2 = 0) : cutB xs (k + 1) ((s + 2 ^ d) / 2) = cutB (cutB xs k s) (k + 1) ((0 + 2 ^ d) / 2) := by
  refine cutB_ext (cutB_len xs k s).symm (fun i hi => ?_)
  unfold cutF
  rw [cutB_get k s hi]
  unfold cutF
  by_cases h : k + 1 ≤ i
  · have e : i - k = (i - (k + 1)) + 1 := by omega
    have h2 : k ≤ i := by omega
    rw [div_pow_succ, div_pow_succ, ← e]
    have b1 := bit_add ⟨s, hs⟩ ⟨d, by omega⟩ ⟨i - k, by omega⟩ hb
    have b0 := bit_add ⟨0, by omega⟩ ⟨d, by omega⟩ ⟨i - k, by omega⟩ (by simp)
    simp only at b1 b0
    rw [b1, b0]
    by_cases hd : i - k = d
    · simp [hd]
    · simp [hd, h, h2]
  · simp [h]

theorem optW_cut {W T : Int} {xs : List Bool} {k s : Nat} {way : Int} (hw : way = 1 ∨ way = 2) (hW : 1 ≤ W) (hW6 : W ≤ 6) (hWT : (xs.length : Int) = W * T) (hk : k < xs.length) :
    (optW W T xs k s way = [] ∧ optW W T (cutB xs k s) k 0 way = []) ∨ ∃ d : Nat, 1 ≤ d ∧ d ≤ 6 ∧ k + d < xs.length ∧ s / 2 ^ d % 2 = 0 ∧ optW W T xs k s way = [(s + 2 ^ d) / 2] ∧ optW W T (cutB xs k s) k 0 way = [(0 + 2 ^ d) / 2] := by
  have hl := cutB_len xs k s
  rcases step_cases (s := s) (xs := xs) hw hW hW6 hWT hk with ⟨he, hO⟩ | ⟨d, h1, h6, he, hlt, hc⟩
  · left
    refine ⟨hO, ?_⟩
    unfold optW
    rw [he, if_neg (by omega)]
  · have e1 : (stepI W T k way).toNat = k + d := by omega
    have e2 : k + d - k = d := by omega
    have hg : (cutB xs k s).getD (k + d) false = (xs.getD (k + d) false && decide (s / 2 ^ d % 2 = 0)) := by
      rw [cutB_get k s hlt]
      unfold cutF
      rw [e2]
      simp
    have hO2 : optW W T (cutB xs k s) k 0 way = if (cutB xs k s).getD (k + d) false = true then [(0 + 2 ^ d) / 2] else [] := by
      unfold optW
      rw [e1, e2, he]
      by_cases q : (cutB xs k s).getD (k + d) false = true
      · rw [if_pos q, if_pos ⟨by omega, q, by simp⟩]
      · rw [if_neg q, if_neg (fun r => q r.2.1)]
    rcases hc with ⟨hcd, hO⟩ | ⟨hcd, hb, hO⟩ | ⟨hcd, hb, hO⟩
    · left
      refine ⟨hO, ?_⟩
      rw [hO2, hg, hcd]
      simp
    · left
      refine ⟨hO, ?_⟩
      rw [hO2, hg, hcd, decide_eq_false hb]
      simp
    · right
      refine ⟨d, h1, h6, hlt, hb, hO, ?_⟩
      rw [hO2, hg, hcd, decide_eq_true hb]
      simp

/-- The count goes by what is left alone. -/
theorem cut_eq {W T : Int} (hW : 1 ≤ W) (hW6 : W ≤ 6) : ∀ (m k s : Nat) (xs : List Bool), (xs.length : Int) = W * T → xs.length ≤ 36 → k + m = xs.length → s < 2 ^ W.toNat → s < 2 ^ m → dpN W T xs m k s = dpN W T (cutB xs k s) m k 0
  | 0, _, s, _, _, _, _, _, hs2 => by
    have : s = 0 := by simpa using hs2
    subst this
    rfl
  | m + 1, k, s, xs, hWT, hn, hkm, hs, hs2 => by
    obtain ⟨pw2, pw64⟩ := pow_le64 hW hW6
    have hl := cutB_len xs k s
    have hk : k < xs.length := by omega
    have hhalf : s / 2 < 2 ^ m := by rw [Nat.pow_succ] at hs2; omega
    have IH : ∀ (s' : Nat) (ys : List Bool), ys.length = xs.length → s' < 2 ^ W.toNat → s' < 2 ^ m → dpN W T ys m (k + 1) s' = dpN W T (cutB ys (k + 1) s') m (k + 1) 0 := fun s' ys hy h1 h2 =>
      cut_eq hW hW6 m (k + 1) s' ys (by rw [hy]; exact hWT) (by omega) (by omega) h1 h2
    have hg : (cutB xs k s).getD k false = (xs.getD k false && decide (s % 2 = 0)) := by
      rw [cutB_get k s hk]
      unfold cutF
      simp
    show ((dpOpts W T xs k s).map (dpN W T xs m (k + 1))).sum = ((dpOpts W T (cutB xs k s) k 0).map (dpN W T (cutB xs k s) m (k + 1))).sum
    by_cases hc : xs.getD k false = false ∨ s % 2 = 1
    · have hg0 : (cutB xs k s).getD k false = false := by
        rw [hg]
        rcases hc with h | h
        · rw [h]; rfl
        · rw [decide_eq_false (by omega), Bool.and_false]
      have e1 : dpOpts W T xs k s = [s / 2] := by unfold dpOpts; rw [if_pos hc]
      have e2 : dpOpts W T (cutB xs k s) k 0 = [0] := by unfold dpOpts; rw [if_pos (Or.inl hg0)]
      rw [e1, e2]
      simp only [List.map_cons, List.map_nil, List.sum_cons, List.sum_nil, Nat.add_zero]
      rw [IH (s / 2) xs rfl (by omega) hhalf, IH 0 (cutB xs k s) hl (by omega) (Nat.two_pow_pos m), cut_half]
    · have hx : xs.getD k false = true := by
        cases h : xs.getD k false
        · exact absurd (Or.inl h) hc
        · rfl
      have hse : s % 2 = 0 := by have : ¬ s % 2 = 1 := fun h => hc (Or.inr h); omega
      have hg1 : (cutB xs k s).getD k false = true := by rw [hg, hx, decide_eq_true hse]; rfl
      have e1 : dpOpts W T xs k s = optW W T xs k s 1 ++ optW W T xs k s 2 := by unfold dpOpts; rw [if_neg hc]; simp [optsTo]
      have e2 : dpOpts W T (cutB xs k s) k 0 = optW W T (cutB xs k s) k 0 1 ++ optW W T (cutB xs k s) k 0 2 := by
        unfold dpOpts
        rw [if_neg (by rw [hg1]; simp)]
        simp [optsTo]
      rw [e1, e2]
      simp only [List.map_append, List.sum_append]
      have one : ∀ way : Int, way = 1 ∨ way = 2 → ((optW W T xs k s way).map (dpN W T xs m (k + 1))).sum = ((optW W T (cutB xs k s) k 0 way).map (dpN W T (cutB xs k s) m (k + 1))).sum := by
        intro way hw
        rcases optW_cut (s := s) hw hW hW6 hWT hk with ⟨h1, h2⟩ | ⟨d, h1, h6, hlt, hb, ho1, ho2⟩
        · rw [h1, h2]
          rfl
        · have b1 := optW_lt (xs := xs) (k := k) (s := s) hw hW hW6 hs ((s + 2 ^ d) / 2) (by rw [ho1]; simp)
          have b2 := optW_lt (T := T) (xs := cutB xs k s) (k := k) (s := 0) hw hW hW6 (by omega) ((0 + 2 ^ d) / 2) (by rw [ho2]; simp)
          have c1 := bit_lt' (m := m + 1) (by omega) h6 hs2 (by omega) hb
          have c2 := bit_lt' (s := 0) (d := d) (m := m + 1) (by omega) h6 (Nat.two_pow_pos _) (by omega) (by simp)
          rw [Nat.pow_succ] at c1 c2
          rw [ho1, ho2]
          simp only [List.map_cons, List.map_nil, List.sum_cons, List.sum_nil, Nat.add_zero]
          rw [IH _ xs rfl b1 (by omega), IH _ (cutB xs k s) hl b2 (by omega), cut_add (by omega) h1 h6 hn hb]
      rw [one 1 (Or.inl rfl), one 2 (Or.inr rfl)]

/-- Cells that are not there take no part. -/
theorem skip_eq {W T : Int} {ys : List Bool} : ∀ k, k ≤ ys.length → (∀ i, i < k → ys.getD i false = false) → dpN W T ys ys.length 0 0 = dpN W T ys (ys.length - k) k 0
  | 0, _, _ => rfl
  | k + 1, hk, h => by
    rw [skip_eq k (by omega) (fun i hi => h i (by omega))]
    have e : ys.length - k = (ys.length - (k + 1)) + 1 := by omega
    rw [e]
    show ((dpOpts W T ys k 0).map (dpN W T ys (ys.length - (k + 1)) (k + 1))).sum = _
    have e2 : dpOpts W T ys k 0 = [0] := by unfold dpOpts; rw [if_pos (Or.inl (h k (by omega)))]
    rw [e2]
    simp

/-- The first cell's domino goes to the east or to the north. -/
theorem dp_split {W T : Int} {ys : List Bool} {c : Nat} (hW : 1 ≤ W) (hW6 : W ≤ 6) (hWT : (ys.length : Int) = W * T) (hn : ys.length ≤ 36) (hc : c < ys.length) (h0 : ∀ i, i < c → ys.getD i false = false) (hy : ys.getD c false = true) :
    dpT W T ys = withN W T ys c 1 + withN W T ys c 2 := by
  obtain ⟨pw2, pw64⟩ := pow_le64 hW hW6
  unfold dpT
  rw [skip_eq c (by omega) h0]
  have e : ys.length - c = (ys.length - (c + 1)) + 1 := by omega
  rw [e]
  obtain ⟨m, hm⟩ : ∃ m, m = ys.length - (c + 1) := ⟨_, rfl⟩
  rw [← hm]
  show ((dpOpts W T ys c 0).map (dpN W T ys m (c + 1))).sum = _
  have e2 : dpOpts W T ys c 0 = optW W T ys c 0 1 ++ optW W T ys c 0 2 := by
    unfold dpOpts
    rw [if_neg (by rw [hy]; simp)]
    simp [optsTo]
  rw [e2]
  simp only [List.map_append, List.sum_append]
  have one : ∀ way : Int, way = 1 ∨ way = 2 → ((optW W T ys c 0 way).map (dpN W T ys m (c + 1))).sum = withN W T ys c way := by
    intro way hw
    have hcell : cellB W T ys.length c way = stepI W T c way := by unfold cellB; rw [if_pos (by omega)]
    rcases step_cases (s := 0) (xs := ys) hw hW hW6 hWT hc with ⟨he, hO⟩ | ⟨d, h1, h6, he, hlt, hcs⟩
    · rw [hO]
      unfold withN canTake
      rw [hcell, he]
      rfl
    · have hcan : canTake W T ys c way = ys.getD (c + d) false := by
        unfold canTake
        rw [hcell, he, decide_eq_true (by omega), Int.toNat_natCast, Int.toNat_natCast, hy]
        simp
      rcases hcs with ⟨hcd, hO⟩ | ⟨hcd, hb, hO⟩ | ⟨hcd, hb, hO⟩
      · rw [hO]
        unfold withN
        rw [hcan, hcd]
        rfl
      · exact absurd (by simp) hb
      · rw [hO]
        have hw2 : withN W T ys c way = dpT W T (lessB ys [c, c + d]) := by
          unfold withN
          rw [hcan, hcd, hcell, he, Int.toNat_natCast, Int.toNat_natCast]
          rfl
        rw [hw2]
        simp only [List.map_cons, List.map_nil, List.sum_cons, List.sum_nil, Nat.add_zero]
        have b2 := optW_lt (T := T) (xs := ys) (k := c) (s := 0) hw hW hW6 (by omega) ((0 + 2 ^ d) / 2) (by rw [hO]; simp)
        have c2 := bit_lt' (s := 0) (d := d) (m := m + 1) (by omega) h6 (Nat.two_pow_pos _) (by omega) (by simp)
        rw [Nat.pow_succ] at c2
        rw [cut_eq hW hW6 m (c + 1) _ ys hWT hn (by omega) b2 (by omega)]
        have ec : cutB ys (c + 1) ((0 + 2 ^ d) / 2) = lessB ys [c, c + d] := by
          unfold cutB lessB
          refine tab_congr (fun i hi => ?_)
          unfold cutF lessF
          by_cases h : c + 1 ≤ i
          · have e3 : i - c = (i - (c + 1)) + 1 := by omega
            have b0 := bit_add ⟨0, by omega⟩ ⟨d, by omega⟩ ⟨i - c, by omega⟩ (by simp)
            simp only at b0
            rw [div_pow_succ, ← e3, b0]
            by_cases hd : i - c = d
            · have : i = c + d := by omega
              subst this
              simp [h]
            · have hne1 : i ≠ c + d := by omega
              have hne2 : i ≠ c := by omega
              simp [h, hd, hne1, hne2]
          · rcases Nat.lt_or_ge i c with hi2 | hi2
            · rw [h0 i hi2]; simp
            · have : i = c := by omega
              subst this
              rw [decide_eq_false h]
              simp
        rw [ec]
        have hl2 := lessB_len ys [c, c + d]
        unfold dpT
        rw [skip_eq (ys := lessB ys [c, c + d]) (c + 1) (by rw [hl2]; omega) ?_, hl2, ← hm]
        intro i hi
        rw [lessB_get _ (by omega)]
        rcases Nat.lt_or_ge i c with hi2 | hi2
        · rw [h0 i hi2]; rfl
        · have : i = c := by omega
          subst this
          simp
  rw [one 1 (Or.inl rfl), one 2 (Or.inr rfl)]

end Go.Proofs.Ytpcajacekmidbaa

namespace Go.Proofs.Ytpcajacekmidbaa
open Go.RowKit
set_option linter.unusedVariables false
set_option maxRecDepth 100000
set_option linter.unusedSimpArgs false

end Go.Proofs.Ytpcajacekmidbaa
