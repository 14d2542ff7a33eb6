/- Contracts of impl.Complete and impl.TilingFirst: the first of all tilings with the dominoes of a list. -/
import Derived.Test.YtlnnoeojgdeagaaAllI
import Derived.Test.YtlnnoeojgdeagaaFirstS
namespace Go.Proofs.Ytlnnoeojgdeagaa
open Go.RowKit Go.Shelf
set_option linter.unusedVariables false
set_option maxRecDepth 100000
set_option linter.unusedSimpArgs false
attribute [local go_sem] Oper.semAt_some

def headF : List (List Int) → List Int × Bool
  | [] => ([], false)
  | M :: _ => (M, true)
theorem headF_append (A B : List (List Int)) : headF (A ++ B) = if (headF A).2 = true then headF A else headF B := by
  cases A <;> simp [headF]
/-- The first completion is the first of all tilings with the dominoes of the list. -/
theorem compL_head {W T : Int} {xs : List Bool} : ∀ (f : Nat) (L : List Int), lok W T xs L = true → compL W T xs f L = headF (allL W T xs f L)
  | 0, L, _ => rfl
  | f + 1, L, h => by
    by_cases h0 : firstI xs L 0 xs.length < 0
    · rw [allL_done rfl h0]
      unfold compL
      rw [if_pos h0]
      rfl
    · rw [allL_succ rfl h0, compL_succ rfl h0, headF_append]
      have part : ∀ way : Int, ((layF W T xs L (firstI xs L 0 xs.length) way).2 && (compL W T xs f (layF W T xs L (firstI xs L 0 xs.length) way).1).2) = (headF (if canLay W T xs L (firstI xs L 0 xs.length) way = true then allL W T xs f (laidL W T xs L (firstI xs L 0 xs.length) way) else [])).2 ∧
          (canLay W T xs L (firstI xs L 0 xs.length) way = true → compL W T xs f (layF W T xs L (firstI xs L 0 xs.length) way).1 = headF (if canLay W T xs L (firstI xs L 0 xs.length) way = true then allL W T xs f (laidL W T xs L (firstI xs L 0 xs.length) way) else [])) := by
        intro way
        rw [layF_of h]
        simp only
        by_cases hc : canLay W T xs L (firstI xs L 0 xs.length) way = true
        · rw [compL_head f _ (lok_laid h hc)]
          simp [hc]
        · simp [hc, headF]
      have hd2 : ∀ way : Int, (headF (if canLay W T xs L (firstI xs L 0 xs.length) way = true then allL W T xs f (laidL W T xs L (firstI xs L 0 xs.length) way) else [])).2 = true → canLay W T xs L (firstI xs L 0 xs.length) way = true := by
        intro way hq
        by_cases hc : canLay W T xs L (firstI xs L 0 xs.length) way = true
        · exact hc
        · rw [if_neg hc] at hq; cases hq
      rw [(part 1).1, (part 2).1]
      by_cases q1 : (headF (if canLay W T xs L (firstI xs L 0 xs.length) 1 = true then allL W T xs f (laidL W T xs L (firstI xs L 0 xs.length) 1) else [])).2 = true
      · rw [if_pos q1, if_pos q1, (part 1).2 (hd2 1 q1)]
      · rw [if_neg q1, if_neg q1]
        by_cases q2 : (headF (if canLay W T xs L (firstI xs L 0 xs.length) 2 = true then allL W T xs f (laidL W T xs L (firstI xs L 0 xs.length) 2) else [])).2 = true
        · rw [if_pos q2, (part 2).2 (hd2 2 q2)]
        · rw [if_neg q2]
          revert q2
          generalize (if canLay W T xs L (firstI xs L 0 xs.length) 2 = true then allL W T xs f (laidL W T xs L (firstI xs L 0 xs.length) 2) else []) = Z
          intro q2
          cases Z with
          | nil => rfl
          | cons x xs => exact absurd rfl q2

theorem own_formC {w : World} {B : Nat} {v : Value} {M : List Int} (h : OwnsI w B v M) : ∃ a cap, v = .slice a M.length cap ∧ IntsAt w a M := by
  obtain ⟨a, cap, rfl⟩ := h.form2
  exact ⟨a, cap, rfl, OwnsI.at h⟩
/-- Between the rounds: nothing has come, the results' cells are as they were. -/
def CoInv (w : World) (hi : Nat) (pre : List (List Int)) (W : World) : Prop :=
  pre = [] ∧ Boxed W (w.heap.size + 1) 35 (.slice none 0 0) ∧ Boxed W (w.heap.size + 1 + 1) 4 (.bool false) ∧ Below w.heap.size w W ∧ w.heap.size + 3 ≤ hi
/-- A round has left: the results' cells hold what has come. -/
def CoEnd (w : World) (hi : Nat) (pre : List (List Int)) (W : World) : Prop :=
  ∃ M a cap, pre = [M] ∧ Boxed W (w.heap.size + 1) 35 (.slice a M.length cap) ∧ Boxed W (w.heap.size + 1 + 1) 4 (.bool true) ∧ OwnsI W hi (.slice a M.length cap) M ∧ Below w.heap.size w W ∧ w.heap.size + 3 ≤ hi
theorem coInv_call (w : World) {B lo : Nat} (hB : w.heap.size + 3 ≤ B) (hlo : B ≤ lo) : CallInv B lo (CoInv w) := by
  intro hi pre A D row h hg hr
  obtain ⟨h0, h1, h2, h3, h4⟩ := h
  refine ⟨h0, h1.kept hg (fun e => ?_), h2.kept hg (fun e => ?_), h3.grown hg h3.size (fun k e => ?_), h4⟩
  · rcases hr _ e.symm with ⟨h5, _⟩ | ⟨h5, _⟩ <;> omega
  · rcases hr _ e.symm with ⟨h5, _⟩ | ⟨h5, _⟩ <;> omega
  · rcases hr _ e with ⟨h5, _⟩ | ⟨h5, _⟩ <;> omega
theorem coEnd_call (w : World) {B lo : Nat} (hB : w.heap.size + 3 ≤ B) (hlo : B ≤ lo) : CallInv B lo (CoEnd w) := by
  intro hi pre A D row h hg hr
  obtain ⟨M, a, cap, h0, h1, h2, h5, h3, h4⟩ := h
  refine ⟨M, a, cap, h0, h1.kept hg (fun e => ?_), h2.kept hg (fun e => ?_), World.ownsRow.kept h5 hg ?_, h3.grown hg h3.size (fun k e => ?_), h4⟩
  · rcases hr _ e.symm with ⟨h5, _⟩ | ⟨h5, _⟩ <;> omega
  · rcases hr _ e.symm with ⟨h5, _⟩ | ⟨h5, _⟩ <;> omega
  · cases hk : (Value.slice a M.length cap).ownBlock with
    | none => exact Or.inl rfl
    | some k =>
      refine Or.inr (fun e => ?_)
      have h6 := (World.ownsRow.lt h5 k hk).1
      obtain ⟨cs, hc⟩ := row_block h5 hk
      rcases hr _ e.symm with ⟨_, h7⟩ | ⟨_, o, ho, h8⟩
      · omega
      · rw [hc] at ho; cases ho; cases h8
  · rcases hr _ e with ⟨h5, _⟩ | ⟨h5, _⟩ <;> omega

set_option maxHeartbeats 8000000 in
theorem iComplete_ret (W T : Int) (a : Option Addr) (n cap : Nat) (xs : List Bool) (la : Option Addr) (m lcap : Nat) (L : List Int) (w : World) (hn : n = xs.length) (hn' : n ≤ 1048576) (hm : m = L.length) (hm' : m ≤ 1048576) (ha : BoolsAt w a xs) (hl : IntsAt w la L) :
    Calls Try.prog 26 #[.agg #[.int .i64 W, .int .i64 T, .slice a n cap], .slice la m lcap] w (RetLT w (compF W T xs L).1.length (compF W T xs L).1 (compF W T xs L).2) := by
  have HN := Lib.hid hn; clear hn
  have HM := Lib.hid hm; clear hm
  have HA := Lib.hid ha; clear ha
  have HL := Lib.hid hl; clear hl
  have hB3 : Below w.heap.size w (((w.alloc (.cells #[.int .i64 W, .int .i64 T, .slice a n cap] 28)).alloc (.cells #[.slice none 0 0] 35)).alloc (.cells #[.bool false] 4)) := below3 _ _ _ _
  have HB3 := Lib.hid hB3; clear hB3
  cases h : lok W T xs L
  · have e : compF W T xs L = ([], false) := by unfold compF; rw [h]; rfl
    rw [e]
    have H := Lib.hid h; clear h e
    go_enter Try.func26, Try.ntmps26
    go_wp2_with fail
    refine (iLaidOk_any _ _ _ _ _ xs _ _ _ L _ HN.out hn' HM.out hm' (HA.out.below HB3.out) (HL.out.below HB3.out)).mono ?_; rintro e w1 ⟨rfl, hb1⟩
    have b1 := below_seq HB3.out hb1
    have q4 := (heap_later (heap_new2 _ _ _) (below1 _ (.cells #[.bool false] 4)) |> fun h => heap_later h hb1)
    rw [H.out]
    have q5 := (heap_later (heap_new3 w (.cells #[.int .i64 W, .int .i64 T, .slice a n cap] 28) (.cells #[.slice none 0 0] 35) (.cells #[.bool false] 4)) hb1)
    have l4 := heap_lt q4
    have l5 := heap_lt q5
    have c4 := cell1 q4
    have c5 := cell1 q5
    have f4 := free3 q4 0
    have f5 := free3 q5 0
    go_wp2
    refine bodyPost_ret (v := .tuple #[.slice none 0 0, .bool false]) (by simp [results, Try.results26, go_sem, c4, c5]) rfl ⟨none, 0, rfl, OwnsI.nil _ _, (b1.setCell (p := ⟨w.heap.size + 1, 0, none⟩) (by simp) _).setCell (p := ⟨w.heap.size + 2, 0, none⟩) (by simp) _⟩
  · have hdd : ∀ k : Nat, (Fence.wide.depth.isSome = true → 1 ≤ k) := fun k h => by cases h
    obtain ⟨h1, h2, h3⟩ := lok_rv h
    have hle : m = n := by rw [HM.out, HN.out]; exact h2
    subst hle
    have HE : Hid (compF W T xs L = headF (allL W T xs (m + 1) L)) := by show _ = _; unfold compF; rw [h, HN.out]; exact compL_head _ _ h
    rw [HE.out]
    have hfr : freeN xs L < m + 1 := by have := freeN_le xs L; have := HN.out; omega
    have HFR := Lib.hid hfr; clear hfr
    clear h1 h2 h3
    have HEACH : Hid (∀ M, M ∈ allL W T xs (m + 1) L → M.length = xs.length ∧ tok W T xs M = true) := fun M hM => allL_each _ _ h M hM
    have H := Lib.hid h; clear h
    obtain ⟨ALL, hALL⟩ : ∃ ALL, ALL = allL W T xs (m + 1) L := ⟨_, rfl⟩
    rw [← hALL]
    have HALL := Lib.hid hALL; clear hALL
    refine (callsIn_wide (n := 0)).1 ?_
    refine callsIn_of_wp_marks Try.func26 rfl trivial ?_ rfl
    simp only [Try.ntmps26, List.size_toArray, List.length_cons, List.length_nil, Nat.reduceAdd, Nat.reduceSub, Array.replicate_succ, Array.replicate_zero, List.push_toArray, List.append_toArray, List.nil_append, List.cons_append]
    gi_wp2_with (first
      | ((try refine ⟨trivial, rfl, ?_⟩); gi_at_call 55; refine (callsIn_wide.2 (iLaidOk_any _ _ _ _ _ xs _ _ _ L _ HN.out hn' HM.out hm' (HA.out.below HB3.out) (HL.out.below HB3.out))).mono ?_; rintro e w1 ⟨rfl, hb1⟩; rw [H.out]; have p1 := heap_later (heap_later (heap_later (heap_new w (.cells #[.int .i64 W, .int .i64 T, .slice a m cap] 28)) (below1 _ (.cells #[.slice none 0 0] 35))) (below1 _ (.cells #[.bool false] 4))) hb1; obtain ⟨c0, c1, c2⟩ := cells3 p1)
      | ((try refine ⟨trivial, rfl, ?_⟩); gi_at_call 71; refine (callsIn_wide.2 (compl_at _ _ _ _ _ _ _ _ _)).mono ?_; rintro e w2 ⟨rfl, h2a, h2b, hb2⟩))
    have b1 := below_seq HB3.out hb1
    have b2 := below_seq b1 hb2
    have s1 : w.heap.size + 3 ≤ w1.heap.size := by have := hb1.size; simpa using this
    have s2 : w1.heap.size + 2 ≤ w2.heap.size := by have := heap_lt h2b; omega
    have q4 : Boxed w2 (w.heap.size + 1) 35 (.slice none 0 0) := heap_later (heap_later (heap_later (heap_new2 w (.cells #[.int .i64 W, .int .i64 T, .slice a m cap] 28) (.cells #[.slice none 0 0] 35)) (below1 _ (.cells #[.bool false] 4))) hb1) hb2
    have q5 : Boxed w2 (w.heap.size + 1 + 1) 4 (.bool false) := heap_later (heap_later (heap_new3 w (.cells #[.int .i64 W, .int .i64 T, .slice a m cap] 28) (.cells #[.slice none 0 0] 35) (.cells #[.bool false] 4)) hb1) hb2
    have A2 : BoolsAt w2 a xs := HA.out.below b2
    have I2 : IntsAt w2 la L := HL.out.below b2
    have HSQ : Hid (SeqIt Try.prog 101 #[.pointer (some ⟨w1.heap.size + 1, 0, none⟩), .pointer (some ⟨w1.heap.size, 0, none⟩)] (fun k => k < w.heap.size ∨ k = w1.heap.size) ALL (TilIs W T xs m) w2) := by
      rw [HALL.out]
      exact compl1_seq _ _ W T _ _ _ xs _ _ _ _ _ _ HN.out hn' H.out HFR.out h2a h2b A2 I2 (Or.inr rfl) (fun b off e => Or.inl (BoolsAt.lt HA.out HN.out HM.out.symm H.out e))
    clear c0 c1 c2 p1 h2a h2b A2 I2
    have Q4 := Lib.hid q4; clear q4
    have Q5 := Lib.hid q5; clear q5
    have BW := Lib.hid b2; clear b2 b1 hb1 hb2
    refine wp_range_it (S0 := fun k => k < w.heap.size ∨ k = w1.heap.size) (all := ALL) (ok := TilIs W T xs m) (w0 := w2) rfl (enters_of Try.func101 (by kernel_rfl) rfl) HSQ.out (Below.refl _ _) (fun k h => by rcases h with h | h <;> omega)
      (CoInv w) (CoEnd w) (coInv_call w (by omega) (by omega)) (coEnd_call w (by omega) (by omega)) ?start
      (fun v => { tmps := #[.agg #[.int .i64 W, .int .i64 T, .slice a m cap], .slice la m lcap, .pointer (some ⟨w.heap.size, 0, none⟩), undef, .pointer (some ⟨w.heap.size + 1, 0, none⟩), .pointer (some ⟨w.heap.size + 1 + 1, 0, none⟩), v,
          .agg #[.int .i64 W, .int .i64 T, .slice a m cap], .slice la m lcap, .bool true, .bool false, .agg #[.int .i64 W, .int .i64 T, .slice a m cap], .slice la m lcap,
          .func (.func 101) #[] #[.pointer (some ⟨w1.heap.size + 1, 0, none⟩), .pointer (some ⟨w1.heap.size, 0, none⟩)], v, undef], defers := [] }) ?assign ?body ?done ?stop
    case start =>
      intro W2 hb2 _
      exact ⟨rfl, heap_later Q4.out hb2, heap_later Q5.out hb2, below_seq BW.out hb2, by have := hb2.size; omega⟩
    case assign =>
      intro l v W K hK
      gi_wp2
      exact hK
    case body =>
      rintro l hi pre M v A W ⟨rfl, hq4, hq5, hbel, hhi0⟩ hlo hhi hg hl ⟨o, hlo', hoc⟩ hown hok hlen
      have g4 : Boxed W (w.heap.size + 1) 35 (.slice none 0 0) := hq4.kept hg (fun e => by cases e; omega)
      have g5 : Boxed W (w.heap.size + 1 + 1) 4 (.bool false) := hq5.kept hg (fun e => by cases e; omega)
      have gb : Below w.heap.size w W := hbel.grown hg hbel.size (fun k e => by cases e; omega)
      have hsz := hg.size
      obtain ⟨a1, cap1, rfl, _⟩ := own_formC hown
      have hlow : OwnsI W hi (.slice a1 M.length cap1) M := hown.lower hhi
      clear hq4 hq5 hbel hg hlo' hoc hown hlen hok
      have c4 := g4.cell
      have c5 := g5.cell
      have f4 := g4.frozen
      have f5 := g5.frozen
      have l4 := g4.lt
      have l5 := g5.lt
      gi_wp2
      have hb4 : ∀ k, (Value.slice a1 M.length cap1).ownBlock = some k → hi ≤ k := fun k e => (World.ownsRow.lt hlow k e).1
      refine ⟨(KeepsOthers.setCell _ _ _).trans (KeepsOthers.setCell _ _ _), ⟨by simp [World.setCell], fun k hk hlt => ?_⟩, M, a1, cap1, rfl, ?_, ?_, ?_, (gb.setCell (p := ⟨w.heap.size + 1, 0, none⟩) (by simp) _).setCell (p := ⟨w.heap.size + 1 + 1, 0, none⟩) (by simp; omega) _, hhi0⟩
      · rw [Below.heap_setCell _ _ _ _ (show k ≠ w.heap.size + 1 + 1 by rcases hk with (h | h) | h <;> omega), Below.heap_setCell _ _ _ _ (show k ≠ w.heap.size + 1 by rcases hk with (h | h) | h <;> omega)]
      · exact heap_set_other (g4.set _) (by simp) _
      · exact Boxed.set _ (heap_set_other g5 (by simp) _)
      · refine (hlow.keptBy (grownBy_setCell' W (w.heap.size + 1) _) (fun k e => by cases e; omega)).keptBy (grownBy_setCell' _ (w.heap.size + 1 + 1) _) (fun k e => by cases e; omega)
    case done =>
      rintro D hi W' hD ⟨h0, hq4, hq5, hbel, hhi0⟩ hK
      subst h0
      have c4 := hq4.cell
      have c5 := hq5.cell
      have f4 := hq4.frozen
      have f5 := hq5.frozen
      have l4 := hq4.lt
      have l5 := hq5.lt
      gi_wp2
      have k4 : Boxed ((W'.setCell ⟨w.heap.size + 1, 0, none⟩ (.slice none 0 0)).setCell ⟨w.heap.size + 1 + 1, 0, none⟩ (.bool false)) (w.heap.size + 1) 35 (.slice none 0 0) := heap_set_other (hq4.set _) (by simp) _
      have k5 : Boxed ((W'.setCell ⟨w.heap.size + 1, 0, none⟩ (.slice none 0 0)).setCell ⟨w.heap.size + 1 + 1, 0, none⟩ (.bool false)) (w.heap.size + 1 + 1) 4 (.bool false) := Boxed.set _ (heap_set_other hq5 (by simp) _)
      have kD := ((KeepsOthers.setCell W' ⟨w.heap.size + 1, 0, none⟩ (.slice none 0 0)).trans (KeepsOthers.setCell _ ⟨w.heap.size + 1 + 1, 0, none⟩ (.bool false))).same D _ hK rfl
      have r4 := (k4.kept (grownBy_putObj' _ D (.deferred none)) (fun e => by cases e; omega)).cell
      have r5 := (k5.kept (grownBy_putObj' _ D (.deferred none)) (fun e => by cases e; omega)).cell
      refine ⟨by simp, .inl ⟨_, _, rfl, run_takeDeferred kD, ?_⟩⟩
      refine ⟨.tuple #[.slice none 0 0, .bool false], by simp [results, Try.results26, go_sem, r4, r5], none, 0, rfl, OwnsI.nil _ _, ?_⟩
      exact (((hbel.setCell (p := ⟨w.heap.size + 1, 0, none⟩) (by simp) _).setCell (p := ⟨w.heap.size + 1 + 1, 0, none⟩) (by simp; omega) _)).grown (grownBy_putObj' _ D _) (by simp [World.setCell]; exact hbel.size) (fun k e => by cases e; omega)
    case stop =>
      rintro D hi pre W' hD hpre hne ⟨M, a1, cap1, rfl, hq4, hq5, hown, hbel, hhi0⟩ hK
      have e1 : headF ALL = (M, true) := by
        obtain ⟨r, hr⟩ := hpre
        rw [← hr]
        rfl
      rw [e1]
      gi_wp2
      have r4 := (hq4.kept (grownBy_putObj' _ D (.deferred none)) (fun e => by cases e; omega)).cell
      have r5 := (hq5.kept (grownBy_putObj' _ D (.deferred none)) (fun e => by cases e; omega)).cell
      refine ⟨by simp, .inl ⟨_, _, rfl, run_takeDeferred hK, ?_⟩⟩
      refine ⟨.tuple #[.slice a1 M.length cap1, .bool true], by simp [results, Try.results26, go_sem, r4, r5], a1, cap1, rfl, ?_, hbel.grown (grownBy_putObj' _ D _) hbel.size (fun k e => by cases e; omega)⟩
      refine World.ownsRow.kept (hown.lower (by omega)) (grownBy_putObj' _ D _) ?_
      cases hk : (Value.slice a1 M.length cap1).ownBlock with
      | none => exact Or.inl rfl
      | some k =>
        refine Or.inr (fun e => ?_)
        cases e
        obtain ⟨cs, hc⟩ := row_block hown hk
        rw [hK] at hc; cases hc

set_option maxHeartbeats 4000000 in
theorem iTilingFirst_ret (W T : Int) (a : Option Addr) (n cap : Nat) (xs : List Bool) (w : World) (hn : n = xs.length) (hn' : n ≤ 1048576) (ha : BoolsAt w a xs) :
    Calls Try.prog 31 #[.agg #[.int .i64 W, .int .i64 T, .slice a n cap]] w (RetLT w (firstF W T xs).1.length (firstF W T xs).1 (firstF W T xs).2) := by
  have HN := Lib.hid hn; clear hn
  have HA := Lib.hid ha; clear ha
  have hbl := bareL_len W T xs
  rw [← HN.out] at hbl
  have p1 := heap_new w (.cells #[.int .i64 W, .int .i64 T, .slice a n cap] 28)
  have zl := heap_lt p1
  obtain ⟨w1, hw1⟩ : ∃ w1, w1 = w.alloc (.cells #[.int .i64 W, .int .i64 T, .slice a n cap] 28) := ⟨_, rfl⟩
  have b1 : Hid (Below w.heap.size w w1) := by rw [hw1]; exact below1 _ _
  rw [← hw1] at p1
  have A1 : Hid (BoolsAt w1 a xs) := HA.out.below b1.out
  obtain ⟨c0, c1, c2⟩ := cells3 p1
  go_enter Try.func31, Try.ntmps31
  go_wp2
  rw [← hw1]
  clear hw1 zl
  go_region_held3 (fun w' : World => w'.cell? ⟨w.heap.size, 0, none⟩ = some (.int .i64 W) ∧ w'.cell? ⟨w.heap.size, 1, none⟩ = some (.int .i64 T) ∧ w'.cell? ⟨w.heap.size, 2, none⟩ = some (.slice a n cap))
    (go_keep)
    (first
      | (go_at_call 26; refine (iComplete_ret _ _ _ _ _ xs _ _ _ (bareL W T xs) _ HN.out hn' rfl (by omega) (A1.out.below b3) (OwnsI.at ho3)).mono ?_; rintro e w4 ⟨a4, cap4, rfl, ho4, hb4⟩; have p4 := heap_later p3 hb4; obtain ⟨c40, c41, c42⟩ := cells3 p4)
      | (go_at_call 72; refine (iLaidBare_ret _ _ _ _ _ xs _ HN.out hn' (show BoolsAt w1.drew _ _ from A1.out)).mono ?_; rintro e w3 ⟨a3, cap3, rfl, ho3, hb3⟩; have p3 := heap_later (show w1.drew.heap[w.heap.size]? = some _ from p1) hb3; have b3 : Below w1.heap.size w1 w3 := below_seq (drew_below _) hb3; obtain ⟨c30, c31, c32⟩ := cells3 p3))
  go_wp2
  go_ret2
  exact ⟨a4, cap4, rfl, ho4.lower (by have := b1.out.size; have := b3.size; omega), below_seq b1.out (below_seq b3 hb4)⟩
end Go.Proofs.Ytlnnoeojgdeagaa
