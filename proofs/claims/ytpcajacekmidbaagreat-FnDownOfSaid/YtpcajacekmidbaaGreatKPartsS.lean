/- Contract of spec.PartsOf at a valid region: each cell has the least index of a cell that it hangs together with. -/
import Derived.Test.YtpcajacekmidbaaGreatKMarksOf
namespace Go.Proofs.YtpcajacekmidbaaGreat
open Go.RowKit
set_option linter.unusedVariables false
set_option maxRecDepth 100000
set_option linter.unusedSimpArgs false

def ownL (xs : List Bool) (k : Nat) : List Int := (List.range k).map fun i => if xs.getD i false then (i : Int) else -1
theorem ownL_len (xs : List Bool) (k : Nat) : (ownL xs k).length = k := by simp [ownL]
theorem ownL_get {xs : List Bool} {k j : Nat} (h : j < k) : (ownL xs k).getD j 0 = if xs.getD j false then (j : Int) else -1 := by simp [ownL, h]
theorem ownL_no {xs : List Bool} {k : Nat} (h : xs.getD k false = false) : ownL xs k ++ [-1] = ownL xs (k + 1) := by
 unfold ownL; rw [List.range_succ, List.map_append]; simp [-List.getD_eq_getElem?_getD, h]
theorem ownL_yes {xs : List Bool} {k : Nat} (h : xs.getD k false = true) : (ownL xs k ++ [-1]).set k (k : Int) = ownL xs (k + 1) := by
 unfold ownL; rw [List.range_succ, List.map_append]; simp [-List.getD_eq_getElem?_getD, h]
theorem own_nil_litP (w : World) {B : Nat} (hB : B ≤ w.heap.size) : OwnsI (w.alloc (.cells #[] 3 (0, 0))) B (.slice (some ⟨w.heap.size, 0, none⟩) 0 0) [] :=
 World.ownsRow_made w #[] 0 hB (Nat.zero_le _) rfl
theorem OwnsI.pos {w : World} {B : Nat} {v : Value} {xs : List Int} (h : OwnsI w B v xs) (h0 : 0 < xs.length) : ∃ g cap, v = .slice (some ⟨g, 0, none⟩) xs.length cap ∧ B ≤ g ∧ g < w.heap.size := by
 obtain ⟨_, rfl⟩ | h := h.forms
 · simp at h0
 · exact h
theorem ownL_sw {N : Nat} {xs : List Bool} {adj : Nat → Nat → Bool} : SwI N (fun i => xs.getD i false) adj 0 (ownL xs N) := by
 refine ⟨ownL_len _ _, fun j hj hs => ?_, fun j hj hs => ?_, fun i j hi hj hr => ?_⟩
 · rw [ownL_get hj]; rw [hs]; rfl
 · refine ⟨j, ?_, .refl hj hs⟩; rw [ownL_get hj]; rw [hs]; rfl
 · rw [ownL_get hj]
   simp only [reachT, Bool.and_eq_true, decide_eq_true_eq, beq_iff_eq] at hr
   obtain ⟨rfl, hs⟩ := hr
   rw [hs]; exact Int.le_refl _

theorem adjW_below {W : Int} (hW : 1 ≤ W) {a j : Nat} (h : adjW W false a j = true) (haj : a ≤ j) : (0 < (j : Int) % W ∧ j = a + 1) ∨ (j : Int) = a + W := by
 unfold adjW at h
 simp only [Bool.and_eq_true, Bool.or_eq_true, Bool.not_eq_true', decide_eq_true_eq, decide_eq_false_iff_not, Bool.false_eq_true, false_or] at h
 obtain ⟨⟨⟨h1, h2, h3, h4⟩, hne⟩, hc⟩ := h
 have a0 := Int.emod_nonneg (a : Int) (show W ≠ 0 by omega)
 have aw := Int.emod_lt_of_pos (a : Int) (show 0 < W by omega)
 have ae := Int.emod_add_mul_ediv (a : Int) W
 have j0 := Int.emod_nonneg (j : Int) (show W ≠ 0 by omega)
 have jw := Int.emod_lt_of_pos (j : Int) (show 0 < W by omega)
 have je := Int.emod_add_mul_ediv (j : Int) W
 generalize (a : Int) % W = x at *
 generalize (j : Int) % W = x' at *
 generalize (a : Int) / W = y at *
 generalize (j : Int) / W = y' at *
 rcases hc with hc | hc
 · right
   have hy : y' = y + 1 ∨ y' = y - 1 := by
    have : y' ≠ y := fun e => hne ⟨hc, e⟩
    omega
   rcases hy with rfl | rfl
   · rw [Int.mul_add] at je; omega
   · rw [Int.mul_sub] at je; omega
 · left
   subst hc
   have : x' ≠ x := fun e => hne ⟨e, rfl⟩
   omega
theorem adjW_left {W : Int} (hW : 1 ≤ W) {j : Nat} (h : 0 < (j : Int) % W) (h1 : 1 ≤ j) : adjW W false j (j - 1) = true := by
 have aw := Int.emod_lt_of_pos (j : Int) (show 0 < W by omega)
 have e : ((j - 1 : Nat) : Int) = (j : Int) - 1 := by omega
 have hd : ((j : Int) - 1) / W = (j : Int) / W := by
  have je := Int.emod_add_mul_ediv (j : Int) W
  have : (j : Int) - 1 = (j : Int) % W - 1 + W * ((j : Int) / W) := by omega
  rw [this, Int.add_mul_ediv_left _ _ (by omega), Int.ediv_eq_zero_of_lt (by omega) (by omega)]; omega
 have hm : ((j : Int) - 1) % W = (j : Int) % W - 1 := by
  have je := Int.emod_add_mul_ediv (j : Int) W
  have : (j : Int) - 1 = (j : Int) % W - 1 + W * ((j : Int) / W) := by omega
  rw [this, Int.add_mul_emod_self_left, Int.emod_eq_of_lt (by omega) (by omega)]
 unfold adjW
 rw [e, hd, hm]
 simp only [Bool.and_eq_true, Bool.or_eq_true, Bool.not_eq_true', decide_eq_true_eq, decide_eq_false_iff_not, Bool.false_eq_true, false_or]
 exact ⟨⟨by omega, fun q => by omega⟩, Or.inr (by first | trivial | omega)⟩
theorem adjW_down {W : Int} (hW : 1 ≤ W) {j i : Nat} (h : (j : Int) = i + W) : adjW W false j i = true := by
 have hd : (j : Int) / W = (i : Int) / W + 1 := by rw [h, Int.add_ediv_of_dvd_right ⟨1, by omega⟩, Int.ediv_self (by omega)]
 have hm : (j : Int) % W = (i : Int) % W := by rw [h, Int.add_emod_right]
 unfold adjW
 rw [hd, hm]
 simp only [Bool.and_eq_true, Bool.or_eq_true, Bool.not_eq_true', decide_eq_true_eq, decide_eq_false_iff_not, Bool.false_eq_true, false_or]
 exact ⟨⟨by omega, fun q => by omega⟩, Or.inl (by first | trivial | omega)⟩
theorem EvI.sgn {N : Nat} {s : Nat → Bool} {adj : Nat → Nat → Bool} {P Q : List Int} (h : EvI N s adj P Q) {j : Nat} (hj : j < N) : decide (0 ≤ Q.getD j 0) = s j := by
 cases hs : s j
 · rw [h.off j hj hs]; rfl
 · obtain ⟨i, hi, _⟩ := h.on j hj hs
   rw [hi]; simp
theorem Paired.next {W : Int} {N : Nat} {s : Nat → Bool} {P Q Q2 : List Int} {j : Nat} (hW : 1 ≤ W) (h : Paired N s (adjW W false) P j Q) (hle : ∀ i, Q2.getD i 0 ≤ Q.getD i 0)
 (hl : 0 < (j : Int) % W → s j = true → s (j - 1) = true → Q2.getD j 0 ≤ P.getD (j - 1) 0 ∧ Q2.getD (j - 1) 0 ≤ P.getD j 0)
 (hd : ∀ i : Nat, (j : Int) = i + W → s j = true → s i = true → Q2.getD j 0 ≤ P.getD i 0 ∧ Q2.getD i 0 ≤ P.getD j 0) : Paired N s (adjW W false) P (j + 1) Q2 := by
 intro a b h1 h2 h3 h4 h5 h6 h7
 by_cases ea : a = j
 · subst ea
   rcases adjW_below hW (by rw [adjW_symm]; exact h5) (by omega : b ≤ a) with ⟨e1, e2⟩ | e
   · have : a - 1 = b := by omega
     have := (hl e1 h3 (by rw [this]; exact h4)).1; rw [show a - 1 = b by omega] at this; exact this
   · exact (hd b e h3 h4).1
 · by_cases eb : b = j
   · subst eb
     rcases adjW_below hW h5 (by omega : a ≤ b) with ⟨e1, e2⟩ | e
     · have := (hl e1 h4 (by rw [show b - 1 = a by omega]; exact h3)).2; rw [show b - 1 = a by omega] at this; exact this
     · exact (hd a e h4 h3).2
   · exact Int.le_trans (hle a) (h a b h1 h2 h3 h4 h5 (by omega) (by omega))
theorem own_same {w w' : World} {B : Nat} {v : Value} {xs : List Int} (h : OwnsI w B v xs) (e : w'.heap = w.heap) : OwnsI w' B v xs := by
 unfold OwnsI World.ownsRow at *; rw [e]; exact h
theorem even_end {W T : Int} {a : Option Addr} {cap : Nat} {s : Nat → Bool} {w wr : World} {g n pcap : Nat} {P Q : List Int} (ho : OwnsI wr (w.heap.size + 1) (.slice (some ⟨g, 0, none⟩) n pcap) Q)
 (ev : EvI n s (adjW W false) P Q) (bel : Below w.heap.size w wr) (hg : w.heap.size + 1 ≤ g) (pr : wr.heap[w.heap.size]? = some (.cells #[.int .i64 W, .int .i64 T, .slice a n cap] 25 (0, 0)))
 {i j : Nat} (hi : i < n) (hj : j < n) (si : s i = true) (sj : s j = true) (hab : adjW W false i j = true) {m : Int} (hm : m = min (Q.getD i 0) (Q.getD j 0)) (q : Nat) :
 ∃ Q1, OwnsI (((wr.setCell ⟨g, i, none⟩ (.int .i64 m)).setCell ⟨g, j, none⟩ (.int .i64 m)).drewN q) (w.heap.size + 1) (.slice (some ⟨g, 0, none⟩) n pcap) Q1 ∧ EvI n s (adjW W false) P Q1 ∧ (∀ i, Q1.getD i 0 ≤ Q.getD i 0) ∧ (Q1.getD i 0 ≤ P.getD j 0 ∧ Q1.getD j 0 ≤ P.getD i 0) ∧
  (((wr.setCell ⟨g, i, none⟩ (.int .i64 m)).setCell ⟨g, j, none⟩ (.int .i64 m)).drewN q).heap[w.heap.size]? = some (.cells #[.int .i64 W, .int .i64 T, .slice a n cap] 25 (0, 0)) ∧ Below w.heap.size w (((wr.setCell ⟨g, i, none⟩ (.int .i64 m)).setCell ⟨g, j, none⟩ (.int .i64 m)).drewN q) := by
 have h1 := OwnsI.set ho i m
 have h2 := OwnsI.set h1.1 j m
 obtain ⟨e1, e2, e3, e4⟩ := ev.even (adjW_symm W false) hi hj si sj hab
 have hh : (((wr.setCell ⟨g, i, none⟩ (.int .i64 m)).setCell ⟨g, j, none⟩ (.int .i64 m)).drewN q).heap = ((wr.setCell ⟨g, i, none⟩ (.int .i64 m)).setCell ⟨g, j, none⟩ (.int .i64 m)).heap := rfl
 refine ⟨evenL Q i j, own_same (by unfold evenL; rw [← hm]; exact h2.1) hh, e1, e2, ⟨e3, e4⟩, ?_, ?_⟩
 · rw [hh]; exact heap_set_other (heap_set_other pr (by simp; omega) _) (by simp; omega) _
 · refine below_drewN (below_grown (below_grown bel h1.2 (Nat.le_refl _) ?_) h2.2 (Nat.le_refl _) ?_) q <;> (intro k e; have := Option.some.inj e; omega)

set_option maxHeartbeats 1000000 in
theorem sPartsOf_ok (W T : Int) (a : Option Addr) (n cap : Nat) (xs : List Bool) (w : World) (hn : n = xs.length) (hr : rv W T xs = true) (ha : BoolsAt w a xs) :
 Calls Tryz.prog 62 #[.agg #[.int .i64 W, .int .i64 T, .slice a n cap]] w fun e w' => ∃ g cap' M, e = .returned (.slice (some ⟨g, 0, none⟩) n cap') ∧ M.length = n ∧ OwnsI w' w.heap.size (.slice (some ⟨g, 0, none⟩) n cap') M ∧ Marks n (fun i => xs.getD i false) (adjW W false) M ∧ Below w.heap.size w w' := by
 obtain ⟨v1, v2, v3, v4, v5, _⟩ := rv_true hr
 have pb := mul_bd v1 v2 v3 v4
 have n36 : n ≤ 36 := by omega
 have n1 : 1 ≤ n := by omega
 have HN := Lib.hid hn; clear hn
 have HA := Lib.hid ha; clear ha
 have HR := Lib.hid hr; clear hr
 have HWT : Hid ((n : Int) = W * T) := by show (n : Int) = _; rw [HN.out]; exact v5
 clear v5 pb
 obtain ⟨wA, hwA⟩ : ∃ wA, wA = (w.alloc (.cells #[.int .i64 W, .int .i64 T, .slice a n cap] 25)).alloc (.cells #[] 3 (0, 0)) := ⟨_, rfl⟩
 have pA : wA.heap[w.heap.size]? = some (.cells #[.int .i64 W, .int .i64 T, .slice a n cap] 25 (0, 0)) := by rw [hwA]; exact heap_later (heap_new w _) (below1 _ _)
 have bA : Below w.heap.size w wA := by rw [hwA]; exact below2 _ _ _
 have oA : OwnsI wA (w.heap.size + 1) (.slice (some ⟨w.heap.size + 1, 0, none⟩) 0 0) [] := by
  rw [hwA]; have := own_nil_litP (w.alloc (.cells #[.int .i64 W, .int .i64 T, .slice a n cap] 25)) (B := w.heap.size + 1) (by simp); simpa using this
 have HOA := Lib.hid oA; clear oA
 obtain ⟨i0, hi, hz0, hz1, hz2⟩ := info_parts infoInt
 obtain ⟨c0, c1, c2⟩ := cells3 pA
 go_enter Tryz.func62, Tryz.ntmps62
 go_wp2_with fail
 rw [← hwA]
 clear hwA
 go_wp2_with (go_at_call 61; refine (sRegionValid_any _ _ _ _ _ xs _ HN.out (by omega) (HA.out.below bA)).mono ?_; rintro e w1 ⟨rfl, hb1⟩; rw [HR.out]; have p1 := heap_later pA hb1; have b1 := below_seq bA hb1; have O1 := Lib.hid (HOA.out.below hb1))
 have P1 := Lib.hid p1
 have B1 := Lib.hid b1
 clear hb1 c0 c1 c2 p1 b1 HOA
 go_loopw [3, 4] (fun v i wr => ∃ k : Nat, k ≤ n ∧ i = .int .i64 k ∧ OwnsI wr (w.heap.size + 1) v (ownL xs k) ∧ wr.heap[w.heap.size]? = some (.cells #[.int .i64 W, .int .i64 T, .slice a n cap] 25 (0, 0)) ∧ Below w.heap.size w wr) (fun _ i _ => n - (intOf i).toNat)
 case atStart => exact ⟨0, Nat.zero_le _, rfl, O1.out, P1.out, B1.out⟩
 case round =>
  clear O1 P1 B1
  obtain ⟨k, hk, rfl, ho, pr, hbel⟩ := hrel
  have HO := Lib.hid ho; clear ho
  have BEL := Lib.hid hbel; clear hbel
  obtain ⟨c0, c1, c2⟩ := cells3 pr
  have l1 := heap_lt pr
  rename World => wr
  by_cases hlt : k < n
  · obtain ⟨ab, ao, rfl, hcx⟩ := (HA.out.below BEL.out) k (by rw [← HN.out]; exact hlt)
    obtain ⟨xk, hxk⟩ : ∃ xk, xk = xs.getD k false := ⟨_, rfl⟩
    rw [← hxk] at hcx
    have e1 : (k : Int) < n := by omega
    have e2 : (0 : Int) ≤ k := by omega
    have e3 : ((k : Int)).toNat = k := by omega
    have HXK := Lib.hid hxk; clear hxk
    have hlo := ownL_len xs k
    have HCX : ∀ w8, Hid (Below w.heap.size w w8) → w8.cell? ⟨ab, ao + k, none⟩ = some (.bool xk) := by
     intro w8 hb8
     have h := (HA.out.below hb8.out).cellAt (i := k) (by rw [← HN.out]; exact hlt)
     rw [← HXK.out] at h; exact h
    have hlk : (ownL xs k ++ [-1]).length = k + 1 := by simp [ownL_len]
    have e4 : (k : Int) < (k + 1 : Nat) := by omega
    cases xk
    · go_wp2_with (at_builtin; refine wpList_append_own _ rfl _ _ 26 rfl (w.heap.size + 1) 3 i0 (.int .i64 0) 1 8 Tryz.underlying26 hi hz0 hz1 hz2 rfl (by decide) _ (ownL xs k).length ((ownL xs k).map (Value.int .i64)) rfl (World.ownsRow.alloc HO.out _) ⟨wr.heap.size, 0, none⟩ 1 1 [.int .i64 (-1)] rfl rfl (new_int _ _) (one_int _) (by unfold maxLen; omega) (by rw [ownL_len]; omega) (by simp; omega) ?_; intro v' w8 hown hgrow _; clear hlo; have p8 := heap_grown (heap_later pr (below1 _ _)) hgrow (HO.out.ownBlock (by omega)); have O8 := Lib.hid (OwnsI.ofRow (xs := ownL xs k ++ [-1]) hown (by simp) (by simp)); have B8 := Lib.hid (below_grown (below_seq BEL.out (below1 _ _)) hgrow (Nat.le_refl _) (HO.out.ownAt (by omega))); clear hown hgrow; obtain ⟨g, pcap, hv, hg1, hg2⟩ := O8.out.pos (by simp); rw [hlk] at hv; subst hv; rw [ownL_no HXK.out.symm] at O8; clear c0 c1 c2 hcx pr; obtain ⟨d0, d1, d2⟩ := cells3 p8; have P8 := Lib.hid p8; clear p8; have hcx := HCX w8 B8)
      go_roundw
      case rel => exact ⟨k + 1, by omega, by go_num, O8.out, P8.out, B8.out⟩
      case measure => simp [intOf]; omega
    · go_wp2_with (at_builtin; refine wpList_append_own _ rfl _ _ 26 rfl (w.heap.size + 1) 3 i0 (.int .i64 0) 1 8 Tryz.underlying26 hi hz0 hz1 hz2 rfl (by decide) _ (ownL xs k).length ((ownL xs k).map (Value.int .i64)) rfl (World.ownsRow.alloc HO.out _) ⟨wr.heap.size, 0, none⟩ 1 1 [.int .i64 (-1)] rfl rfl (new_int _ _) (one_int _) (by unfold maxLen; omega) (by rw [ownL_len]; omega) (by simp; omega) ?_; intro v' w8 hown hgrow _; clear hlo; have p8 := heap_grown (heap_later pr (below1 _ _)) hgrow (HO.out.ownBlock (by omega)); have O8 := Lib.hid (OwnsI.ofRow (xs := ownL xs k ++ [-1]) hown (by simp) (by simp)); have B8 := Lib.hid (below_grown (below_seq BEL.out (below1 _ _)) hgrow (Nat.le_refl _) (HO.out.ownAt (by omega))); clear hown hgrow; obtain ⟨g, pcap, hv, hg1, hg2⟩ := O8.out.pos (by simp); rw [hlk] at hv; subst hv; clear c0 c1 c2 hcx pr; obtain ⟨d0, d1, d2⟩ := cells3 p8; have P8 := Lib.hid p8; clear p8; have hcx := HCX w8 B8; have hc := O8.out.cell (k := k) (by rw [hlk]; omega); have hfz := O8.out.free k)
      have hst := OwnsI.set O8.out k (k : Int)
      rw [ownL_yes HXK.out.symm] at hst
      go_roundw
      case rel => exact ⟨k + 1, by omega, by go_num, hst.1, heap_set_other P8.out (by simp; omega) _, below_grown B8.out hst.2 (Nat.le_refl _) (fun q e => by have := Option.some.inj e; omega)⟩
      case measure => simp [intOf]; omega
  · obtain rfl : k = n := by omega
    obtain ⟨g, pcap, hv, hg1, hg2⟩ := HO.out.pos (by rw [ownL_len]; omega)
    rw [ownL_len] at hv
    subst hv
    have SW0 := Lib.hid (ownL_sw (N := k) (xs := xs) (adj := adjW W false))
    have PR := Lib.hid pr
    go_wp2_with fail
    clear c0 c1 c2 pr
    go_loopw [5] (fun i wr2 => ∃ (t : Nat) (P : List Int), t ≤ k ∧ i = .int .i64 t ∧ OwnsI wr2 (w.heap.size + 1) (.slice (some ⟨g, 0, none⟩) k pcap) P ∧ SwI k (fun i => xs.getD i false) (adjW W false) t P ∧ wr2.heap[w.heap.size]? = some (.cells #[.int .i64 W, .int .i64 T, .slice a k cap] 25 (0, 0)) ∧ Below w.heap.size w wr2) (fun i _ => k - (intOf i).toNat)
    case atStart => exact ⟨0, _, Nat.zero_le _, rfl, HO.out, SW0.out, PR.out, BEL.out⟩
    case round =>
     clear SW0 PR HO BEL hg2
     obtain ⟨t, P, ht, rfl, ho, hsw, pr, hbel⟩ := hrel
     rename World => wr2
     have HO := Lib.hid ho; clear ho
     have BEL := Lib.hid hbel; clear hbel
     have SW := Lib.hid hsw; clear hsw
     have PR := Lib.hid pr; clear pr
     by_cases hlt2 : t < k
     · have EV0 := Lib.hid SW.out.ev
       have f1 : (t : Int) < k := by omega
       go_wp2_with fail
       go_loopw [6] (fun i wr3 => ∃ (j : Nat) (Q : List Int), j ≤ k ∧ i = .int .i64 j ∧ OwnsI wr3 (w.heap.size + 1) (.slice (some ⟨g, 0, none⟩) k pcap) Q ∧ EvI k (fun i => xs.getD i false) (adjW W false) P Q ∧ Paired k (fun i => xs.getD i false) (adjW W false) P j Q ∧ wr3.heap[w.heap.size]? = some (.cells #[.int .i64 W, .int .i64 T, .slice a k cap] 25 (0, 0)) ∧ Below w.heap.size w wr3) (fun i _ => k - (intOf i).toNat)
       case atStart => exact ⟨0, P, Nat.zero_le _, rfl, HO.out, EV0.out, (fun a b _ _ _ _ _ h _ => absurd h (Nat.not_lt_zero _)), PR.out, BEL.out⟩
       case round =>
        clear EV0 PR HO BEL
        obtain ⟨j, Q, hj, rfl, ho, hev, hpa, pr, hbel⟩ := hrel
        rename World => wr3
        have HO := Lib.hid ho; clear ho
        have BEL := Lib.hid hbel; clear hbel
        have EV := Lib.hid hev; clear hev
        have PA := Lib.hid hpa; clear hpa
        by_cases hlt3 : j < k
        · have hl := EV.out.len
          obtain ⟨x, hx⟩ : ∃ x, x = (j : Int) % W := ⟨_, rfl⟩
          have x0 : 0 ≤ x := by rw [hx]; exact Int.emod_nonneg _ (by omega)
          have HX := Lib.hid hx
          have T1 : (j : Int).tmod W = x := by rw [hx]; exact Int.tmod_eq_emod_of_nonneg (by omega)
          have hj1 : 0 < x → 1 ≤ j := by
           intro h
           rcases Nat.eq_zero_or_pos j with h0 | h0
           · rw [h0] at hx; simp at hx; omega
           · exact h0
          clear hx
          obtain ⟨c0, c1, c2⟩ := cells3 pr
          have PR := Lib.hid pr; clear pr
          have f2 : (j : Int) < k := by omega
          have f3 : (0 : Int) ≤ j := by omega
          have f4 : W ≠ 0 := by omega
          obtain ⟨qk, hqk⟩ : ∃ q, q = Q.getD j 0 := ⟨_, rfl⟩
          obtain ⟨ql, hql⟩ : ∃ q, q = Q.getD (j - 1) 0 := ⟨_, rfl⟩
          have hcj := HO.out.cell (k := j) (by omega)
          have hcl := HO.out.cell (k := j - 1) (by omega)
          rw [← hqk] at hcj
          rw [← hql] at hcl
          have HQK := Lib.hid hqk; clear hqk
          have HQL := Lib.hid hql; clear hql
          obtain ⟨C1, hC1⟩ : ∃ C1, C1 = (decide (0 ≤ qk) && decide (0 < x) && decide (0 ≤ ql)) := ⟨_, rfl⟩
          go_upto_region 16 with fail
          go_cut [62] (fun c wx => c = .bool C1 ∧ wx = wr3)
          case first =>
           by_cases h1 : 0 ≤ qk
           · by_cases h2 : 0 < x
             · have g1 : (j : Int) - 1 < k := by omega
               have g2 : 0 ≤ (j : Int) - 1 := by have := hj1 h2; omega
               have g3 : ((j : Int) - 1).toNat = j - 1 := by have := hj1 h2; omega
               have e : Hid (C1 = decide (0 ≤ ql)) := by show _ = _; rw [hC1, decide_eq_true h1, decide_eq_true h2]; rfl
               clear hC1
               go_wp2
               go_meet
               exact ⟨by rw [e.out], rfl⟩
             · have e : Hid (C1 = false) := by show _ = _; rw [hC1, decide_eq_true h1, decide_eq_false h2]; rfl
               clear hC1
               go_wp2
               go_meet
               exact ⟨by rw [e.out], rfl⟩
           · have e : Hid (C1 = false) := by show _ = _; rw [hC1, decide_eq_false h1]; rfl
             clear hC1
             go_wp2
             go_meet
             exact ⟨by rw [e.out], rfl⟩
          case rest =>
          obtain ⟨rfl, hw⟩ := hcut
          rw [hw]
          clear hw
          have EC1 : Hid (C1 = true → 0 ≤ qk ∧ 0 < x ∧ 0 ≤ ql) := by
           intro h; rw [h] at hC1
           simpa [and_assoc] using hC1.symm
          have EC2 : Hid (0 < (j : Int) % W → xs.getD j false = true → xs.getD (j - 1) false = true → C1 = true) := by
           intro h1 h2 h3
           have a1 := EV.out.sgn (j := j) hlt3
           have a2 := EV.out.sgn (j := j - 1) (by omega)
           rw [h2, ← HQK.out] at a1
           rw [h3, ← HQL.out] at a2
           rw [← HX.out] at h1
           rw [hC1, a1, a2, decide_eq_true h1]; rfl
          clear hC1
          go_upto_if 62 with fail
          go_cut [] (fun wx => ∃ Q1, OwnsI wx (w.heap.size + 1) (.slice (some ⟨g, 0, none⟩) k pcap) Q1 ∧ EvI k (fun i => xs.getD i false) (adjW W false) P Q1 ∧ (∀ i, Q1.getD i 0 ≤ Q.getD i 0) ∧ (C1 = true → Q1.getD j 0 ≤ P.getD (j - 1) 0 ∧ Q1.getD (j - 1) 0 ≤ P.getD j 0) ∧ wx.heap[w.heap.size]? = some (.cells #[.int .i64 W, .int .i64 T, .slice a k cap] 25 (0, 0)) ∧ Below w.heap.size w wx)
          case first =>
           cases hc : C1
           · go_wp2
             go_meet
             exact ⟨Q, HO.out, EV.out, fun _ => Int.le_refl _, fun h => (by rw [hc] at h; cases h), PR.out, BEL.out⟩
           · obtain ⟨h1, h2, h3⟩ := EC1.out hc
             have h4 := hj1 h2
             have g1 : (j : Int) - 1 < k := by omega
             have g2 : 0 ≤ (j : Int) - 1 := by omega
             have g3 : ((j : Int) - 1).toNat = j - 1 := by omega
             have hfz := HO.out.free j
             have hfl := HO.out.free (j - 1)
             have sj : xs.getD j false = true := by have := EV.out.sgn (j := j) hlt3; rw [← this, ← HQK.out]; exact decide_eq_true h1
             have si : xs.getD (j - 1) false = true := by have := EV.out.sgn (j := j - 1) (by omega); rw [← this, ← HQL.out]; exact decide_eq_true h3
             have SJ := Lib.hid sj; clear sj
             have SI := Lib.hid si; clear si
             have HAD := Lib.hid (adjW_left v1 (by rw [← HX.out]; exact h2) h4)
             by_cases hm : qk ≤ ql
             · have M0 : Hid (qk = min (Q.getD j 0) (Q.getD (j - 1) 0)) := by show _ = _; rw [← HQK.out, ← HQL.out]; omega
               go_upto_region 17 with fail
               go_region
               go_wp2
               go_meet
               obtain ⟨Q1, r1, r2, r3, r4, r5, r6⟩ := even_end HO.out EV.out BEL.out hg1 PR.out hlt3 (by omega : j - 1 < k) SJ.out SI.out HAD.out M0.out 1
               exact ⟨Q1, r1, r2, r3, fun _ => r4, r5, r6⟩
             · have M0 : Hid (ql = min (Q.getD j 0) (Q.getD (j - 1) 0)) := by show _ = _; rw [← HQK.out, ← HQL.out]; omega
               go_upto_region 17 with fail
               go_region
               go_wp2
               go_meet
               obtain ⟨Q1, r1, r2, r3, r4, r5, r6⟩ := even_end HO.out EV.out BEL.out hg1 PR.out hlt3 (by omega : j - 1 < k) SJ.out SI.out HAD.out M0.out 1
               exact ⟨Q1, r1, r2, r3, fun _ => r4, r5, r6⟩
          case rest =>
          clear EC1 hcj hcl HQK HQL c0 c1 c2 PR BEL HO
          obtain ⟨Q1, ho, hev, hle, hc1, pr, hbel⟩ := hcut
          have HO := Lib.hid ho; clear ho
          have EV1 := Lib.hid hev; clear hev
          have BEL := Lib.hid hbel; clear hbel
          have HLE := Lib.hid hle; clear hle
          have HC1 := Lib.hid hc1; clear hc1
          have hl1 := EV1.out.len
          obtain ⟨c0, c1, c2⟩ := cells3 pr
          have PR := Lib.hid pr; clear pr
          obtain ⟨jd, hjd0⟩ : ∃ jd, jd = ((j : Int) - W).toNat := ⟨_, rfl⟩
          have hjd : jd < k := by omega
          obtain ⟨qj, hqk⟩ : ∃ q, q = Q1.getD j 0 := ⟨_, rfl⟩
          obtain ⟨qd, hqd⟩ : ∃ q, q = Q1.getD jd 0 := ⟨_, rfl⟩
          have hcj := HO.out.cell (k := j) (by omega)
          have hcd := HO.out.cell (k := jd) (by omega)
          rw [← hqk] at hcj
          rw [← hqd] at hcd
          have HQK := Lib.hid hqk; clear hqk
          have HQD := Lib.hid hqd; clear hqd
          obtain ⟨C2, hC2⟩ : ∃ C2, C2 = (decide (0 ≤ qj) && decide (W ≤ (j : Int)) && decide (0 ≤ qd)) := ⟨_, rfl⟩
          have NEXT : ∀ Q2 : List Int, (∀ i, Q2.getD i 0 ≤ Q1.getD i 0) → (C2 = true → Q2.getD j 0 ≤ P.getD jd 0 ∧ Q2.getD jd 0 ≤ P.getD j 0) → Paired k (fun i => xs.getD i false) (adjW W false) P (j + 1) Q2 := by
           intro Q2 hle2 hc2
           refine PA.out.next v1 (fun i => Int.le_trans (hle2 i) (HLE.out i)) (fun h1 h2 h3 => ?_) (fun i h1 h2 h3 => ?_)
           · have h := HC1.out (EC2.out h1 h2 h3)
             exact ⟨Int.le_trans (hle2 _) h.1, Int.le_trans (hle2 _) h.2⟩
           · have hi : i = jd := by omega
             subst hi
             refine hc2 ?_
             have a1 := EV1.out.sgn (j := j) hlt3
             have a2 := EV1.out.sgn (j := i) hjd
             rw [h2, ← HQK.out] at a1
             rw [h3, ← HQD.out] at a2
             rw [hC2, a1, a2, decide_eq_true (by omega : W ≤ (j : Int))]; rfl
          have EC3 : Hid (C2 = true → 0 ≤ qj ∧ W ≤ (j : Int) ∧ 0 ≤ qd) := by
           intro h; rw [h] at hC2
           simpa [and_assoc] using hC2.symm
          go_upto_region 19 with fail
          go_cut [104] (fun c wx => c = .bool C2 ∧ wx = wc)
          case first =>
           by_cases h1 : 0 ≤ qj
           · by_cases h2 : W ≤ (j : Int)
             · have g1 : (j : Int) - W < k := by omega
               have g2 : 0 ≤ (j : Int) - W := by omega
               have g3 : ((j : Int) - W).toNat = jd := hjd0.symm
               have e : Hid (C2 = decide (0 ≤ qd)) := by show _ = _; rw [hC2, decide_eq_true h1, decide_eq_true h2]; rfl
               clear hC2 hjd0
               go_wp2
               go_meet
               exact ⟨by rw [e.out], rfl⟩
             · have e : Hid (C2 = false) := by show _ = _; rw [hC2, decide_eq_true h1, decide_eq_false h2]; rfl
               clear hC2 hjd0
               go_wp2
               go_meet
               exact ⟨by rw [e.out], rfl⟩
           · have e : Hid (C2 = false) := by show _ = _; rw [hC2, decide_eq_false h1]; rfl
             clear hC2 hjd0
             go_wp2
             go_meet
             exact ⟨by rw [e.out], rfl⟩
          case rest =>
          obtain ⟨rfl, hw⟩ := hcut
          rw [hw]
          clear hw hC2
          cases hc : C2
          · have FIN := Lib.hid (NEXT Q1 (fun _ => Int.le_refl _) (fun h => by rw [hc] at h; cases h))
            clear NEXT hjd0
            go_wp2
            go_roundw
            case rel => exact ⟨j + 1, Q1, by omega, by go_num, HO.out, EV1.out, FIN.out, PR.out, BEL.out⟩
            case measure => simp [intOf]; omega
          · obtain ⟨h1, h2, h3⟩ := EC3.out hc
            have g1 : (j : Int) - W < k := by omega
            have g2 : 0 ≤ (j : Int) - W := by omega
            have g3 : ((j : Int) - W).toNat = jd := hjd0.symm
            have HAD := Lib.hid (adjW_down v1 (by omega : (j : Int) = jd + W))
            clear hjd0
            have hfz := HO.out.free j
            have hfl := HO.out.free jd
            have sj : xs.getD j false = true := by have := EV1.out.sgn (j := j) hlt3; rw [← this, ← HQK.out]; exact decide_eq_true h1
            have si : xs.getD jd false = true := by have := EV1.out.sgn (j := jd) hjd; rw [← this, ← HQD.out]; exact decide_eq_true h3
            have SJ := Lib.hid sj; clear sj
            have SI := Lib.hid si; clear si
            by_cases hm : qj ≤ qd
            · have M0 : Hid (qj = min (Q1.getD j 0) (Q1.getD jd 0)) := by show _ = _; rw [← HQK.out, ← HQD.out]; omega
              obtain ⟨Q2, r1, r2, r3, r4, r5, r6⟩ := even_end HO.out EV1.out BEL.out hg1 PR.out hlt3 hjd SJ.out SI.out HAD.out M0.out 2
              have FIN := Lib.hid (NEXT Q2 r3 (fun _ => r4))
              have R1 := Lib.hid r1; clear r1
              have R2 := Lib.hid r2; clear r2
              have R5 := Lib.hid r5; clear r5
              have R6 := Lib.hid r6; clear r6
              clear r3 r4
              go_upto_region 20 with fail
              go_region
              go_upto_region 21 with fail
              go_region
              go_wp2_with fail
              go_roundw
              case rel => exact ⟨j + 1, Q2, by omega, by go_num, R1.out, R2.out, FIN.out, R5.out, R6.out⟩
              case measure => simp [intOf]; omega
            · have M0 : Hid (qd = min (Q1.getD j 0) (Q1.getD jd 0)) := by show _ = _; rw [← HQK.out, ← HQD.out]; omega
              obtain ⟨Q2, r1, r2, r3, r4, r5, r6⟩ := even_end HO.out EV1.out BEL.out hg1 PR.out hlt3 hjd SJ.out SI.out HAD.out M0.out 2
              have FIN := Lib.hid (NEXT Q2 r3 (fun _ => r4))
              have R1 := Lib.hid r1; clear r1
              have R2 := Lib.hid r2; clear r2
              have R5 := Lib.hid r5; clear r5
              have R6 := Lib.hid r6; clear r6
              clear r3 r4
              go_upto_region 20 with fail
              go_region
              go_upto_region 21 with fail
              go_region
              go_wp2_with fail
              go_roundw
              case rel => exact ⟨j + 1, Q2, by omega, by go_num, R1.out, R2.out, FIN.out, R5.out, R6.out⟩
              case measure => simp [intOf]; omega
        · obtain rfl : j = k := by omega
          go_wp2
          go_roundw
          case rel => exact ⟨t + 1, Q, by omega, by go_num, HO.out, SW.out.sweep (adjW_symm W false) EV.out PA.out, pr, BEL.out⟩
          case measure => simp [intOf]; omega
     · obtain rfl : t = k := by omega
       go_wp2
       go_ret
       exact ⟨g, pcap, P, rfl, SW.out.len, HO.out.lower (by omega), SW.out.marks, BEL.out⟩
end Go.Proofs.YtpcajacekmidbaaGreat
