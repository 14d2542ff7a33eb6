/- Contract of impl.TilingsAll: all tilings of a region, in order. -/
import Derived.Test.YtlnnoeojgdeagaaAllM
import Derived.Test.YtlnnoeojgdeagaaAppSeq
namespace Go.Proofs.Ytlnnoeojgdeagaa
open Go.RowKit
set_option linter.unusedVariables false
set_option maxRecDepth 100000
set_option linter.unusedSimpArgs false

theorem compl_at (W T : Int) (a : Option Addr) (n c : Nat) (la : Option Addr) (m lc : Nat) (w : World) :
    Calls Try.prog 71 #[.agg #[.int .i64 W, .int .i64 T, .slice a n c], .slice la m lc] w fun e w' => e = .returned (.func (.func 101) #[] #[.pointer (some ⟨w.heap.size + 1, 0, none⟩), .pointer (some ⟨w.heap.size, 0, none⟩)]) ∧
      w'.heap[w.heap.size]? = some (.cells #[.int .i64 W, .int .i64 T, .slice a n c] 28 (0, 0)) ∧ w'.heap[w.heap.size + 1]? = some (.cells #[.slice la m lc] 35 (0, 0)) ∧ Below w.heap.size w w' := by
  refine (compl_any W T a n c la m lc w).mono ?_
  rintro e w' ⟨rfl, rfl⟩
  exact ⟨rfl, heap_later (heap_new w _) (below1 _ _), heap_new2 w _ _, below2 _ _ _⟩

set_option maxHeartbeats 4000000 in
theorem iTilingsAll_ret (W T : Int) (a : Option Addr) (n cap : Nat) (xs : List Bool) (w : World) (hn : n = xs.length) (hn' : n ≤ 1048576) (ha : BoolsAt w a xs) :
    Calls Try.prog 18 #[.agg #[.int .i64 W, .int .i64 T, .slice a n cap]] w (RetSS w (allF W T xs)) := by
  have HN := Lib.hid hn; clear hn
  have HA := Lib.hid ha; clear ha
  cases h : rv W T xs
  · have HE : Hid (allF W T xs = []) := by show _ = _; unfold allF; rw [h]; rfl
    have H := Lib.hid h; clear h
    rw [HE.out]
    go_enter Try.func18, Try.ntmps18
    go_wp2_with fail
    refine (iRegionValid_any _ _ _ _ _ xs _ HN.out hn' (HA.out.one _)).mono ?_; rintro e w1 ⟨rfl, hb1⟩
    rw [H.out]
    go_wp2
    go_ret
    exact ⟨none, 0, rfl, OwnsSS.nil _ _, below_seq (below1 _ _) hb1⟩
  · have HE : Hid (allF W T xs = allL W T xs (xs.length + 1) (bareL W T xs)) := by show _ = _; unfold allF; rw [h]; rfl
    have HC : Hid ((allL W T xs (xs.length + 1) (bareL W T xs)).length ≤ 1099511627776) := by have := allF_count W T xs; rw [HE.out] at this; show _ ≤ _; omega
    rw [HE.out]
    have HB : Hid ((bareL W T xs).length = n) := by show _ = _; unfold bareL; rw [h, HN.out]; simp
    have HLK : Hid (lok W T xs (bareL W T xs) = true) := by show _ = _; rw [lok_bareL]; exact h
    have HF : Hid (freeN xs (bareL W T xs) < xs.length + 1) := by show _ < _; have := freeN_le xs (bareL W T xs); omega
    have H := Lib.hid h; clear h
    obtain ⟨ALL, hALL⟩ : ∃ ALL, ALL = allL W T xs (xs.length + 1) (bareL W T xs) := ⟨_, rfl⟩
    rw [← hALL]
    have HALL := Lib.hid hALL; clear hALL
    go_enter Try.func18, Try.ntmps18
    go_wp2_with fail
    refine (iRegionValid_any _ _ _ _ _ xs _ HN.out hn' (HA.out.one _)).mono ?_; rintro e w1 ⟨rfl, hb1⟩
    rw [H.out]
    have p1 := heap_later (heap_new w (.cells #[.int .i64 W, .int .i64 T, .slice a n cap] 28)) hb1
    have b1 := below_seq (below1 w _) hb1
    have A0 : BoolsAt w1 a xs := (HA.out.one _).below hb1
    have A1 : Hid (BoolsAt w1.drew a xs) := A0
    have P1 : w1.drew.heap[w.heap.size]? = some (.cells #[.int .i64 W, .int .i64 T, .slice a n cap] 28 (0, 0)) := p1
    have l1 := heap_lt p1
    obtain ⟨c0, c1, c2⟩ := cells3 p1
    clear hb1 p1 A0
    go_wp2_with fail
    go_region_held3 (fun w' => w'.cell? ⟨w.heap.size, 0, none⟩ = some (.int .i64 W) ∧ w'.cell? ⟨w.heap.size, 1, none⟩ = some (.int .i64 T) ∧ w'.cell? ⟨w.heap.size, 2, none⟩ = some (.slice a n cap))
      (go_keep)
      (first
        | (go_at_call 70; refine (collect_any _ (fun k => k < w3.heap.size) ALL (TilIs W T xs n) _ (by rw [HALL.out]; exact compl1_seq _ _ W T _ _ _ xs _ _ _ _ _ _ HN.out hn' HLK.out HF.out h3a h3b A3.out I3.out h3c (fun b off e => BoolsAt.lt A3.out HN.out HB.out HLK.out e)) (fun k h => h) (by rw [HALL.out]; exact HC.out)).mono ?_; rintro e w4 ⟨v4, rfl, ho4, hb4⟩; have p4 := heap_later p3 hb4; obtain ⟨c40, c41, c42⟩ := cells3 p4)
        | (go_at_call 71; refine (compl_at _ _ _ _ _ _ _ _ _).mono ?_; rintro e w3 ⟨rfl, h3a, h3b, hb3⟩; have p3 := heap_later p2 hb3; have A3 := Lib.hid (A2.out.below hb3); have I3 := Lib.hid (I2.out.below hb3); have h3c := heap_lt h3a; obtain ⟨c30, c31, c32⟩ := cells3 p3)
        | (go_at_call 72; refine (iLaidBare_ret _ _ _ _ _ xs _ HN.out hn' A1.out).mono ?_; rintro e w2 ⟨a2, cap2, rfl, ho2, hb2⟩; rw [HB.out] at ho2 ⊢; have p2 := heap_later P1 hb2; have A2 := Lib.hid (A1.out.below hb2); have I2 := Lib.hid (OwnsI.at ho2); obtain ⟨c20, c21, c22⟩ := cells3 p2))
    go_wp2
    go_ret
    obtain ⟨a4, cap4, rfl⟩ := ho4.form
    have b4 : Below w.heap.size w w4 := below_seq b1 (below_seq (drew_below w1) (below_seq hb2 (below_seq hb3 hb4)))
    exact ⟨a4, cap4, rfl, ho4.lower (below_seq b1 (below_seq (drew_below w1) (below_seq hb2 hb3))).size, b4⟩
end Go.Proofs.Ytlnnoeojgdeagaa
