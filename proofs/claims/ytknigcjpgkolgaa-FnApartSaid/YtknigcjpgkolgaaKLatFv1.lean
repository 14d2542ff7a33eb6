/- Plain facts: where there is a tiling, the first one is one; the heights of two tilings differ by multiples of 4. -/
import Derived.Test.YtknigcjpgkolgaaKLatMv4
import Derived.Test.YtknigcjpgkolgaaKRangeIt
namespace Go.Proofs.Ytknigcjpgkolgaa
open Go.RowKit Go.Shelf
set_option linter.unusedVariables false
set_option maxRecDepth 100000
set_option linter.unusedSimpArgs false

theorem RowsI.lower {w : World} {B B' : Nat} {ws : List Value} {rows : List (List Int)} (h : RowsI w B ws rows) (hB : B' ≤ B) : RowsI w B' ws rows := ⟨h.len, fun i hi => (h.own i hi).lower hB, h.apart⟩
theorem ownsRow_lower {w : World} {B B' n size : Nat} {e : TypeId} {v : Value} {xs : List Value} (h : w.ownsRow B e size v n xs) (hB : B' ≤ B) : w.ownsRow B' e size v n xs := by
  refine ⟨h.1, ?_⟩
  rcases h.2 with hn | ⟨g, cap, cur, hv, hb, r⟩
  · exact .inl hn
  · exact .inr ⟨g, cap, cur, hv, Nat.le_trans hB hb, r⟩
theorem OwnsSS.lower {w : World} {B B' : Nat} {v : Value} {rows : List (List Int)} (h : OwnsSS w B v rows) (hB : B' ≤ B) : OwnsSS w B' v rows := by
  obtain ⟨ws, h1, h2⟩ := h
  exact ⟨ws, ownsRow_lower h1 hB, h2.lower hB⟩
theorem row_block {w : World} {B n size k : Nat} {e : TypeId} {v : Value} {xs : List Value} (h : w.ownsRow B e size v n xs) (hk : v.ownBlock = some k) : ∃ cs, w.heap[k]? = some (.cells cs e (0, 0)) := by
  rcases h.2 with ⟨e, _⟩ | ⟨g, cap, cur, e, _, hh, _⟩
  · rw [e] at hk; cases hk
  · rw [e] at hk
    obtain rfl : g = k := by simpa [Value.ownBlock] using hk
    exact ⟨cur, hh⟩

theorem OwnsSS.keptBy {w w' : World} {B : Nat} {v : Value} {rows : List (List Int)} {row : Option Nat} (h : OwnsSS w B v rows) (hg : w.grownBy w' row) (hr : ∀ k, row = some k → k < B) : OwnsSS w' B v rows := by
  obtain ⟨ws, h1, h2⟩ := h
  refine ⟨ws, h1.kept hg ?_, h2.kept hg (fun i hi k hk e => by
    have h3 := (h2.block hi hk).1
    have := hr k e
    omega)⟩
  cases hk : v.ownBlock with
  | none => exact Or.inl rfl
  | some k => exact Or.inr (fun e => by
      have h3 := (World.ownsRow.lt h1 k hk).1
      have := hr k e.symm
      omega)
end Go.Proofs.Ytknigcjpgkolgaa

namespace Go.Proofs.Ytknigcjpgkolgaa
open Go.RowKit
set_option linter.unusedVariables false
set_option maxRecDepth 100000
set_option linter.unusedSimpArgs false

theorem BoolsAt.lt {w : World} {a : Option Addr} {n : Nat} {xs : List Bool} {W T : Int} {L : List Int} (h : BoolsAt w a xs) (hn : n = xs.length) (hl' : L.length = n) (hl : lok W T xs L = true) {b off : Nat} (e : a = some ⟨b, off, none⟩) : b < w.heap.size := by
  obtain ⟨hr, _, _⟩ := lok_rv hl
  obtain ⟨v1, v2, v3, v4, v5, _⟩ := rv_true hr
  have hn0 : 0 < n := rv_pos v1 v3 (by rw [hn]; exact v5)
  obtain ⟨b', off', e', hc⟩ := h 0 (by omega)
  rw [e'] at e
  cases e
  exact World.block_lt_of_cell? w _ hc
theorem RowsI.lt {w : World} {B : Nat} {ws : List Value} {rows : List (List Int)} (h : RowsI w B ws rows) {i b : Nat} (hi : i < rows.length) (hb : (ws.getD i (.slice none 0 0)).ownBlock = some b) : b < w.heap.size := by
  obtain ⟨_, cs, hc⟩ := h.block hi hb
  exact heap_lt hc
end Go.Proofs.Ytknigcjpgkolgaa

namespace Go.Proofs.Ytknigcjpgkolgaa
open Go.RowKit
set_option linter.unusedVariables false
set_option maxRecDepth 100000
set_option linter.unusedSimpArgs false

end Go.Proofs.Ytknigcjpgkolgaa

namespace Go.Proofs.Ytknigcjpgkolgaa
open Go.RowKit
set_option linter.unusedVariables false
set_option maxRecDepth 100000
set_option linter.unusedSimpArgs false

end Go.Proofs.Ytknigcjpgkolgaa

namespace Go.Proofs.Ytknigcjpgkolgaa
open Go.RowKit
set_option linter.unusedVariables false
set_option maxRecDepth 100000
set_option linter.unusedSimpArgs false

end Go.Proofs.Ytknigcjpgkolgaa

namespace Go.Proofs.Ytknigcjpgkolgaa
open Go.RowKit
set_option linter.unusedVariables false
set_option maxRecDepth 100000
set_option linter.unusedSimpArgs false

/-- What comes has the dominoes that lay. -/
theorem allL_has {W T : Int} {xs : List Bool} : ∀ (f : Nat) (L M : List Int), lok W T xs L = true → M ∈ allL W T xs f L → Has L M
  | 0, L, M, _, h => by simp [allL] at h
  | f + 1, L, M, hl, h => by
    obtain ⟨hr, hlen, _⟩ := lok_rv hl
    rcases first_cases xs L 0 xs.length with ⟨h0, hno⟩ | ⟨c, _, hc, h0, hfc, hno⟩
    · rw [allL_done h0 (by omega)] at h
      simp only [List.mem_cons, List.not_mem_nil, or_false] at h
      subst h
      exact fun k _ => rfl
    · rw [allL_succ h0 (by omega), List.mem_append] at h
      have part : ∀ way : Int, M ∈ (if canLay W T xs L c way = true then allL W T xs f (laidL W T xs L c way) else []) → Has L M := by
        intro way hm
        split at hm
        · rename_i hcan
          obtain ⟨kn, o, e, hk, ho, hne, hs, hf, hfo, w1, w4, hb, el⟩ := canLay_at hr hlen hcan
          have : kn = c := by omega
          subst this
          have h1 := allL_has f _ M (lok_laid hl hcan) hm
          rw [el] at h1
          intro k hk0
          have hkc : k ≠ kn := by intro e2; rw [e2] at hk0; exact hk0 (free_zero hf).2
          have hko : k ≠ o := by intro e2; rw [e2] at hk0; exact hk0 (free_zero hfo).2
          have h2 := h1 k
          rw [getD_set2 (by rw [hlen]; exact hk) (by rw [hlen]; exact ho), if_neg hko, if_neg hkc] at h2
          exact h2 hk0
        · simp at hm
      rcases h with h | h
      · exact part 1 h
      · exact part 2 h
theorem has_at {W T : Int} {xs : List Bool} {L : List Int} {c : Nat} {way : Int} (hl : lok W T xs L = true) (hcan : canLay W T xs L c way = true) : (laidL W T xs L c way).getD c 0 = way ∧ way ≠ 0 := by
  obtain ⟨hr, hlen, _⟩ := lok_rv hl
  obtain ⟨kn, o, e, hk, ho, hne, hs, hf, hfo, w1, w4, hb, el⟩ := canLay_at hr hlen hcan
  have : kn = c := by omega
  subst this
  rw [el, getD_set2 (by rw [hlen]; exact hk) (by rw [hlen]; exact ho), if_neg (Ne.symm hne), if_pos rfl]
  exact ⟨rfl, by omega⟩
/-- The first cell in which two lists differ has the lesser number in A. -/
def Before (A B : List Int) : Prop := ∃ c, c < A.length ∧ c < B.length ∧ (∀ k, k < c → A.getD k 0 = B.getD k 0) ∧ A.getD c 0 < B.getD c 0
theorem allL_sorted {W T : Int} {xs : List Bool} : ∀ (f : Nat) (L : List Int), lok W T xs L = true → (allL W T xs f L).Pairwise Before
  | 0, L, _ => by simp [allL]
  | f + 1, L, hl => by
    obtain ⟨hr, hlen, _⟩ := lok_rv hl
    rcases first_cases xs L 0 xs.length with ⟨h0, hno⟩ | ⟨c, _, hc, h0, hfc, hno⟩
    · rw [allL_done h0 (by omega)]
      simp
    · rw [allL_succ h0 (by omega), List.pairwise_append]
      refine ⟨?_, ?_, ?_⟩
      · split
        · rename_i hcan
          exact allL_sorted f _ (lok_laid hl hcan)
        · simp
      · split
        · rename_i hcan
          exact allL_sorted f _ (lok_laid hl hcan)
        · simp
      · intro A hA B hB
        split at hA
        · rename_i c1
          split at hB
          · rename_i c2
            have a1 := allL_has f _ A (lok_laid hl c1) hA
            have b1 := allL_has f _ B (lok_laid hl c2) hB
            obtain ⟨la, ta⟩ := allL_each f _ (lok_laid hl c1) A hA
            obtain ⟨lb, tb⟩ := allL_each f _ (lok_laid hl c2) B hB
            have a2 := a1 c (by rw [(has_at hl c1).1]; exact (has_at hl c1).2)
            have b2 := b1 c (by rw [(has_at hl c2).1]; exact (has_at hl c2).2)
            rw [(has_at hl c1).1] at a2
            rw [(has_at hl c2).1] at b2
            have hA' : Has L A := allL_has (f + 1) L A hl (by rw [allL_succ h0 (by omega), List.mem_append]; exact Or.inl (by rw [if_pos c1]; exact hA))
            have hB' : Has L B := allL_has (f + 1) L B hl (by rw [allL_succ h0 (by omega), List.mem_append]; exact Or.inr (by rw [if_pos c2]; exact hB))
            refine ⟨c, by omega, by omega, fun k hk => ?_, by rw [a2, b2]; omega⟩
            by_cases hz : L.getD k 0 = 0
            · have hx : xs.getD k false = false := by
                cases hx : xs.getD k false
                · rfl
                · have h1 := hno k (Nat.zero_le _) hk
                  unfold freeB at h1
                  rw [hx, hz] at h1; cases h1
              have zero : ∀ M : List Int, tok W T xs M = true → M.getD k 0 = 0 := by
                intro M hM
                by_cases hm : M.getD k 0 = 0
                · exact hm
                · obtain ⟨_, _, _, _, hx', _⟩ := lok_at (tok_lokP hM) (show k < xs.length by omega) hm
                  rw [hx] at hx'; cases hx'
              rw [zero A ta, zero B tb]
            · rw [hA' k hz, hB' k hz]
          · simp at hB
        · simp at hA
end Go.Proofs.Ytknigcjpgkolgaa

namespace Go.Proofs.Ytknigcjpgkolgaa
open Go.RowKit Go.Shelf
set_option linter.unusedVariables false
set_option maxRecDepth 100000
set_option linter.unusedSimpArgs false
attribute [local go_sem] Oper.semAt_some

end Go.Proofs.Ytknigcjpgkolgaa

namespace Go.Proofs.Ytknigcjpgkolgaa
open Go.RowKit
set_option linter.unusedVariables false
set_option maxRecDepth 100000
set_option linter.unusedSimpArgs false

theorem compl_at (W T : Int) (a : Option Addr) (n c : Nat) (la : Option Addr) (m lc : Nat) (w : World) :
    Calls Try.prog 126 #[.agg #[.int .i64 W, .int .i64 T, .slice a n c], .slice la m lc] w fun e w' => e = .returned (.func (.func 149) #[] #[.pointer (some ⟨w.heap.size + 1, 0, none⟩), .pointer (some ⟨w.heap.size, 0, none⟩)]) ∧
      w'.heap[w.heap.size]? = some (.cells #[.int .i64 W, .int .i64 T, .slice a n c] 25 (0, 0)) ∧ w'.heap[w.heap.size + 1]? = some (.cells #[.slice la m lc] 26 (0, 0)) ∧ Below w.heap.size w w' := by
  refine (compl_any W T a n c la m lc w).mono ?_
  rintro e w' ⟨rfl, rfl⟩
  exact ⟨rfl, heap_later (heap_new w _) (below1 _ _), heap_new2 w _ _, below2 _ _ _⟩

end Go.Proofs.Ytknigcjpgkolgaa

namespace Go.Proofs.Ytknigcjpgkolgaa
open Go.RowKit Go.Shelf
set_option linter.unusedVariables false
set_option maxRecDepth 100000
set_option linter.unusedSimpArgs false
attribute [local go_sem] Oper.semAt_some

def headF : List (List Int) → List Int × Bool
  | [] => ([], false)
  | M :: _ => (M, true)
theorem headF_append (A B : List (List Int)) : headF (A ++ B) = if (headF A).2 = true then headF A else headF B := by
  cases A <;> simp [headF]
/-- The first completion is the first of all tilings with the dominoes of the list. -/
theorem compL_head {W T : Int} {xs : List Bool} : ∀ (f : Nat) (L : List Int), lok W T xs L = true → compL W T xs f L = headF (allL W T xs f L)
  | 0, L, _ => rfl
  | f + 1, L, h => by
    by_cases h0 : firstI xs L 0 xs.length < 0
    · rw [allL_done rfl h0]
      unfold compL
      rw [if_pos h0]
      rfl
    · rw [allL_succ rfl h0, compL_succ rfl h0, headF_append]
      have part : ∀ way : Int, ((layF W T xs L (firstI xs L 0 xs.length) way).2 && (compL W T xs f (layF W T xs L (firstI xs L 0 xs.length) way).1).2) = (headF (if canLay W T xs L (firstI xs L 0 xs.length) way = true then allL W T xs f (laidL W T xs L (firstI xs L 0 xs.length) way) else [])).2 ∧
          (canLay W T xs L (firstI xs L 0 xs.length) way = true → compL W T xs f (layF W T xs L (firstI xs L 0 xs.length) way).1 = headF (if canLay W T xs L (firstI xs L 0 xs.length) way = true then allL W T xs f (laidL W T xs L (firstI xs L 0 xs.length) way) else [])) := by
        intro way
        rw [layF_of h]
        simp only
        by_cases hc : canLay W T xs L (firstI xs L 0 xs.length) way = true
        · rw [compL_head f _ (lok_laid h hc)]
          simp [hc]
        · simp [hc, headF]
      have hd2 : ∀ way : Int, (headF (if canLay W T xs L (firstI xs L 0 xs.length) way = true then allL W T xs f (laidL W T xs L (firstI xs L 0 xs.length) way) else [])).2 = true → canLay W T xs L (firstI xs L 0 xs.length) way = true := by
        intro way hq
        by_cases hc : canLay W T xs L (firstI xs L 0 xs.length) way = true
        · exact hc
        · rw [if_neg hc] at hq; cases hq
      rw [(part 1).1, (part 2).1]
      by_cases q1 : (headF (if canLay W T xs L (firstI xs L 0 xs.length) 1 = true then allL W T xs f (laidL W T xs L (firstI xs L 0 xs.length) 1) else [])).2 = true
      · rw [if_pos q1, if_pos q1, (part 1).2 (hd2 1 q1)]
      · rw [if_neg q1, if_neg q1]
        by_cases q2 : (headF (if canLay W T xs L (firstI xs L 0 xs.length) 2 = true then allL W T xs f (laidL W T xs L (firstI xs L 0 xs.length) 2) else [])).2 = true
        · rw [if_pos q2, (part 2).2 (hd2 2 q2)]
        · rw [if_neg q2]
          revert q2
          generalize (if canLay W T xs L (firstI xs L 0 xs.length) 2 = true then allL W T xs f (laidL W T xs L (firstI xs L 0 xs.length) 2) else []) = Z
          intro q2
          cases Z with
          | nil => rfl
          | cons x xs => exact absurd rfl q2

theorem own_formC {w : World} {B : Nat} {v : Value} {M : List Int} (h : OwnsI w B v M) : ∃ a cap, v = .slice a M.length cap ∧ IntsAt w a M := by
  obtain ⟨a, cap, rfl⟩ := h.form2
  exact ⟨a, cap, rfl, OwnsI.at h⟩
/-- Between the rounds: nothing has come, the results' cells are as they were. -/
def CoInv (w : World) (hi : Nat) (pre : List (List Int)) (W : World) : Prop :=
  pre = [] ∧ Boxed W (w.heap.size + 1) 26 (.slice none 0 0) ∧ Boxed W (w.heap.size + 1 + 1) 4 (.bool false) ∧ Below w.heap.size w W ∧ w.heap.size + 3 ≤ hi
/-- A round has left: the results' cells hold what has come. -/
def CoEnd (w : World) (hi : Nat) (pre : List (List Int)) (W : World) : Prop :=
  ∃ M a cap, pre = [M] ∧ Boxed W (w.heap.size + 1) 26 (.slice a M.length cap) ∧ Boxed W (w.heap.size + 1 + 1) 4 (.bool true) ∧ OwnsI W hi (.slice a M.length cap) M ∧ Below w.heap.size w W ∧ w.heap.size + 3 ≤ hi
theorem coInv_call (w : World) {B lo : Nat} (hB : w.heap.size + 3 ≤ B) (hlo : B ≤ lo) : CallInv B lo (CoInv w) := by
  intro hi pre A D row h hg hr
  obtain ⟨h0, h1, h2, h3, h4⟩ := h
  refine ⟨h0, h1.kept hg (fun e => ?_), h2.kept hg (fun e => ?_), h3.grown hg h3.size (fun k e => ?_), h4⟩
  · rcases hr _ e.symm with ⟨h5, _⟩ | ⟨h5, _⟩ <;> omega
  · rcases hr _ e.symm with ⟨h5, _⟩ | ⟨h5, _⟩ <;> omega
  · rcases hr _ e with ⟨h5, _⟩ | ⟨h5, _⟩ <;> omega
theorem coEnd_call (w : World) {B lo : Nat} (hB : w.heap.size + 3 ≤ B) (hlo : B ≤ lo) : CallInv B lo (CoEnd w) := by
  intro hi pre A D row h hg hr
  obtain ⟨M, a, cap, h0, h1, h2, h5, h3, h4⟩ := h
  refine ⟨M, a, cap, h0, h1.kept hg (fun e => ?_), h2.kept hg (fun e => ?_), World.ownsRow.kept h5 hg ?_, h3.grown hg h3.size (fun k e => ?_), h4⟩
  · rcases hr _ e.symm with ⟨h5, _⟩ | ⟨h5, _⟩ <;> omega
  · rcases hr _ e.symm with ⟨h5, _⟩ | ⟨h5, _⟩ <;> omega
  · cases hk : (Value.slice a M.length cap).ownBlock with
    | none => exact Or.inl rfl
    | some k =>
      refine Or.inr (fun e => ?_)
      have h6 := (World.ownsRow.lt h5 k hk).1
      obtain ⟨cs, hc⟩ := row_block h5 hk
      rcases hr _ e.symm with ⟨_, h7⟩ | ⟨_, o, ho, h8⟩
      · omega
      · rw [hc] at ho; cases ho; cases h8
  · rcases hr _ e with ⟨h5, _⟩ | ⟨h5, _⟩ <;> omega

set_option maxHeartbeats 8000000 in
theorem iComplete_ret (W T : Int) (a : Option Addr) (n cap : Nat) (xs : List Bool) (la : Option Addr) (m lcap : Nat) (L : List Int) (w : World) (hn : n = xs.length) (hn' : n ≤ 1048576) (hm : m = L.length) (hm' : m ≤ 1048576) (ha : BoolsAt w a xs) (hl : IntsAt w la L) :
    Calls Try.prog 78 #[.agg #[.int .i64 W, .int .i64 T, .slice a n cap], .slice la m lcap] w (RetLT w (compF W T xs L).1.length (compF W T xs L).1 (compF W T xs L).2) := by
  have HN := Lib.hid hn; clear hn
  have HM := Lib.hid hm; clear hm
  have HA := Lib.hid ha; clear ha
  have HL := Lib.hid hl; clear hl
  have hB3 : Below w.heap.size w (((w.alloc (.cells #[.int .i64 W, .int .i64 T, .slice a n cap] 25)).alloc (.cells #[.slice none 0 0] 26)).alloc (.cells #[.bool false] 4)) := below3 _ _ _ _
  have HB3 := Lib.hid hB3; clear hB3
  cases h : lok W T xs L
  · have e : compF W T xs L = ([], false) := by unfold compF; rw [h]; rfl
    rw [e]
    have H := Lib.hid h; clear h e
    go_enter Try.func78, Try.ntmps78
    go_wp2_with fail
    refine (iLaidOk_any _ _ _ _ _ xs _ _ _ L _ HN.out hn' HM.out hm' (HA.out.below HB3.out) (HL.out.below HB3.out)).mono ?_; rintro e w1 ⟨rfl, hb1⟩
    have b1 := below_seq HB3.out hb1
    have q4 := (heap_later (heap_new2 _ _ _) (below1 _ (.cells #[.bool false] 4)) |> fun h => heap_later h hb1)
    rw [H.out]
    have q5 := (heap_later (heap_new3 w (.cells #[.int .i64 W, .int .i64 T, .slice a n cap] 25) (.cells #[.slice none 0 0] 26) (.cells #[.bool false] 4)) hb1)
    have l4 := heap_lt q4
    have l5 := heap_lt q5
    have c4 := cell1 q4
    have c5 := cell1 q5
    have f4 := free3 q4 0
    have f5 := free3 q5 0
    go_wp2
    refine bodyPost_ret (v := .tuple #[.slice none 0 0, .bool false]) (by simp [results, Try.results78, go_sem, c4, c5]) rfl ⟨none, 0, rfl, OwnsI.nil _ _, (b1.setCell (p := ⟨w.heap.size + 1, 0, none⟩) (by simp) _).setCell (p := ⟨w.heap.size + 2, 0, none⟩) (by simp) _⟩
  · have hdd : ∀ k : Nat, (Fence.wide.depth.isSome = true → 1 ≤ k) := fun k h => by cases h
    obtain ⟨h1, h2, h3⟩ := lok_rv h
    have hle : m = n := by rw [HM.out, HN.out]; exact h2
    subst hle
    have HE : Hid (compF W T xs L = headF (allL W T xs (m + 1) L)) := by show _ = _; unfold compF; rw [h, HN.out]; exact compL_head _ _ h
    rw [HE.out]
    have hfr : freeN xs L < m + 1 := by have := freeN_le xs L; have := HN.out; omega
    have HFR := Lib.hid hfr; clear hfr
    clear h1 h2 h3
    have HEACH : Hid (∀ M, M ∈ allL W T xs (m + 1) L → M.length = xs.length ∧ tok W T xs M = true) := fun M hM => allL_each _ _ h M hM
    have H := Lib.hid h; clear h
    obtain ⟨ALL, hALL⟩ : ∃ ALL, ALL = allL W T xs (m + 1) L := ⟨_, rfl⟩
    rw [← hALL]
    have HALL := Lib.hid hALL; clear hALL
    refine (callsIn_wide (n := 0)).1 ?_
    refine callsIn_of_wp_marks Try.func78 rfl trivial ?_ rfl
    simp only [Try.ntmps78, List.size_toArray, List.length_cons, List.length_nil, Nat.reduceAdd, Nat.reduceSub, Array.replicate_succ, Array.replicate_zero, List.push_toArray, List.append_toArray, List.nil_append, List.cons_append]
    gi_wp2_with (first
      | ((try refine ⟨trivial, rfl, ?_⟩); gi_at_call 51; refine (callsIn_wide.2 (iLaidOk_any _ _ _ _ _ xs _ _ _ L _ HN.out hn' HM.out hm' (HA.out.below HB3.out) (HL.out.below HB3.out))).mono ?_; rintro e w1 ⟨rfl, hb1⟩; rw [H.out]; have p1 := heap_later (heap_later (heap_later (heap_new w (.cells #[.int .i64 W, .int .i64 T, .slice a m cap] 25)) (below1 _ (.cells #[.slice none 0 0] 26))) (below1 _ (.cells #[.bool false] 4))) hb1; obtain ⟨c0, c1, c2⟩ := cells3 p1)
      | ((try refine ⟨trivial, rfl, ?_⟩); gi_at_call 126; refine (callsIn_wide.2 (compl_at _ _ _ _ _ _ _ _ _)).mono ?_; rintro e w2 ⟨rfl, h2a, h2b, hb2⟩))
    have b1 := below_seq HB3.out hb1
    have b2 := below_seq b1 hb2
    have s1 : w.heap.size + 3 ≤ w1.heap.size := by have := hb1.size; simpa using this
    have s2 : w1.heap.size + 2 ≤ w2.heap.size := by have := heap_lt h2b; omega
    have q4 : Boxed w2 (w.heap.size + 1) 26 (.slice none 0 0) := heap_later (heap_later (heap_later (heap_new2 w (.cells #[.int .i64 W, .int .i64 T, .slice a m cap] 25) (.cells #[.slice none 0 0] 26)) (below1 _ (.cells #[.bool false] 4))) hb1) hb2
    have q5 : Boxed w2 (w.heap.size + 1 + 1) 4 (.bool false) := heap_later (heap_later (heap_new3 w (.cells #[.int .i64 W, .int .i64 T, .slice a m cap] 25) (.cells #[.slice none 0 0] 26) (.cells #[.bool false] 4)) hb1) hb2
    have A2 : BoolsAt w2 a xs := HA.out.below b2
    have I2 : IntsAt w2 la L := HL.out.below b2
    have HSQ : Hid (SeqIt Try.prog 149 #[.pointer (some ⟨w1.heap.size + 1, 0, none⟩), .pointer (some ⟨w1.heap.size, 0, none⟩)] (fun k => k < w.heap.size ∨ k = w1.heap.size) ALL (TilIs W T xs m) w2) := by
      rw [HALL.out]
      exact compl1_seq _ _ W T _ _ _ xs _ _ _ _ _ _ HN.out hn' H.out HFR.out h2a h2b A2 I2 (Or.inr rfl) (fun b off e => Or.inl (BoolsAt.lt HA.out HN.out HM.out.symm H.out e))
    clear c0 c1 c2 p1 h2a h2b A2 I2
    have Q4 := Lib.hid q4; clear q4
    have Q5 := Lib.hid q5; clear q5
    have BW := Lib.hid b2; clear b2 b1 hb1 hb2
    refine wp_range_it (S0 := fun k => k < w.heap.size ∨ k = w1.heap.size) (all := ALL) (ok := TilIs W T xs m) (w0 := w2) rfl (enters_of Try.func149 (by kernel_rfl) rfl) HSQ.out (Below.refl _ _) (fun k h => by rcases h with h | h <;> omega)
      (CoInv w) (CoEnd w) (coInv_call w (by omega) (by omega)) (coEnd_call w (by omega) (by omega)) ?start
      (fun v => { tmps := #[.agg #[.int .i64 W, .int .i64 T, .slice a m cap], .slice la m lcap, .pointer (some ⟨w.heap.size, 0, none⟩), undef, .pointer (some ⟨w.heap.size + 1, 0, none⟩), .pointer (some ⟨w.heap.size + 1 + 1, 0, none⟩), v,
          .agg #[.int .i64 W, .int .i64 T, .slice a m cap], .slice la m lcap, .bool true, .bool false, .agg #[.int .i64 W, .int .i64 T, .slice a m cap], .slice la m lcap,
          .func (.func 149) #[] #[.pointer (some ⟨w1.heap.size + 1, 0, none⟩), .pointer (some ⟨w1.heap.size, 0, none⟩)], v, undef], defers := [] }) ?assign ?body ?done ?stop
    case start =>
      intro W2 hb2 _
      exact ⟨rfl, heap_later Q4.out hb2, heap_later Q5.out hb2, below_seq BW.out hb2, by have := hb2.size; omega⟩
    case assign =>
      intro l v W K hK
      gi_wp2
      exact hK
    case body =>
      rintro l hi pre M v A W ⟨rfl, hq4, hq5, hbel, hhi0⟩ hlo hhi hg hl ⟨o, hlo', hoc⟩ hown hok hlen
      have g4 : Boxed W (w.heap.size + 1) 26 (.slice none 0 0) := hq4.kept hg (fun e => by cases e; omega)
      have g5 : Boxed W (w.heap.size + 1 + 1) 4 (.bool false) := hq5.kept hg (fun e => by cases e; omega)
      have gb : Below w.heap.size w W := hbel.grown hg hbel.size (fun k e => by cases e; omega)
      have hsz := hg.size
      obtain ⟨a1, cap1, rfl, _⟩ := own_formC hown
      have hlow : OwnsI W hi (.slice a1 M.length cap1) M := hown.lower hhi
      clear hq4 hq5 hbel hg hlo' hoc hown hlen hok
      have c4 := g4.cell
      have c5 := g5.cell
      have f4 := g4.frozen
      have f5 := g5.frozen
      have l4 := g4.lt
      have l5 := g5.lt
      gi_wp2
      have hb4 : ∀ k, (Value.slice a1 M.length cap1).ownBlock = some k → hi ≤ k := fun k e => (World.ownsRow.lt hlow k e).1
      refine ⟨(KeepsOthers.setCell _ _ _).trans (KeepsOthers.setCell _ _ _), ⟨by simp [World.setCell], fun k hk hlt => ?_⟩, M, a1, cap1, rfl, ?_, ?_, ?_, (gb.setCell (p := ⟨w.heap.size + 1, 0, none⟩) (by simp) _).setCell (p := ⟨w.heap.size + 1 + 1, 0, none⟩) (by simp; omega) _, hhi0⟩
      · rw [Below.heap_setCell _ _ _ _ (show k ≠ w.heap.size + 1 + 1 by rcases hk with (h | h) | h <;> omega), Below.heap_setCell _ _ _ _ (show k ≠ w.heap.size + 1 by rcases hk with (h | h) | h <;> omega)]
      · exact heap_set_other (g4.set _) (by simp) _
      · exact Boxed.set _ (heap_set_other g5 (by simp) _)
      · refine (hlow.keptBy (grownBy_setCell' W (w.heap.size + 1) _) (fun k e => by cases e; omega)).keptBy (grownBy_setCell' _ (w.heap.size + 1 + 1) _) (fun k e => by cases e; omega)
    case done =>
      rintro D hi W' hD ⟨h0, hq4, hq5, hbel, hhi0⟩ hK
      subst h0
      have c4 := hq4.cell
      have c5 := hq5.cell
      have f4 := hq4.frozen
      have f5 := hq5.frozen
      have l4 := hq4.lt
      have l5 := hq5.lt
      gi_wp2
      have k4 : Boxed ((W'.setCell ⟨w.heap.size + 1, 0, none⟩ (.slice none 0 0)).setCell ⟨w.heap.size + 1 + 1, 0, none⟩ (.bool false)) (w.heap.size + 1) 26 (.slice none 0 0) := heap_set_other (hq4.set _) (by simp) _
      have k5 : Boxed ((W'.setCell ⟨w.heap.size + 1, 0, none⟩ (.slice none 0 0)).setCell ⟨w.heap.size + 1 + 1, 0, none⟩ (.bool false)) (w.heap.size + 1 + 1) 4 (.bool false) := Boxed.set _ (heap_set_other hq5 (by simp) _)
      have kD := ((KeepsOthers.setCell W' ⟨w.heap.size + 1, 0, none⟩ (.slice none 0 0)).trans (KeepsOthers.setCell _ ⟨w.heap.size + 1 + 1, 0, none⟩ (.bool false))).same D _ hK rfl
      have r4 := (k4.kept (grownBy_putObj' _ D (.deferred none)) (fun e => by cases e; omega)).cell
      have r5 := (k5.kept (grownBy_putObj' _ D (.deferred none)) (fun e => by cases e; omega)).cell
      refine ⟨by simp, .inl ⟨_, _, rfl, run_takeDeferred kD, ?_⟩⟩
      refine ⟨.tuple #[.slice none 0 0, .bool false], by simp [results, Try.results78, go_sem, r4, r5], none, 0, rfl, OwnsI.nil _ _, ?_⟩
      exact (((hbel.setCell (p := ⟨w.heap.size + 1, 0, none⟩) (by simp) _).setCell (p := ⟨w.heap.size + 1 + 1, 0, none⟩) (by simp; omega) _)).grown (grownBy_putObj' _ D _) (by simp [World.setCell]; exact hbel.size) (fun k e => by cases e; omega)
    case stop =>
      rintro D hi pre W' hD hpre hne ⟨M, a1, cap1, rfl, hq4, hq5, hown, hbel, hhi0⟩ hK
      have e1 : headF ALL = (M, true) := by
        obtain ⟨r, hr⟩ := hpre
        rw [← hr]
        rfl
      rw [e1]
      gi_wp2
      have r4 := (hq4.kept (grownBy_putObj' _ D (.deferred none)) (fun e => by cases e; omega)).cell
      have r5 := (hq5.kept (grownBy_putObj' _ D (.deferred none)) (fun e => by cases e; omega)).cell
      refine ⟨by simp, .inl ⟨_, _, rfl, run_takeDeferred hK, ?_⟩⟩
      refine ⟨.tuple #[.slice a1 M.length cap1, .bool true], by simp [results, Try.results78, go_sem, r4, r5], a1, cap1, rfl, ?_, hbel.grown (grownBy_putObj' _ D _) hbel.size (fun k e => by cases e; omega)⟩
      refine World.ownsRow.kept (hown.lower (by omega)) (grownBy_putObj' _ D _) ?_
      cases hk : (Value.slice a1 M.length cap1).ownBlock with
      | none => exact Or.inl rfl
      | some k =>
        refine Or.inr (fun e => ?_)
        cases e
        obtain ⟨cs, hc⟩ := row_block hown hk
        rw [hK] at hc; cases hc

set_option maxHeartbeats 4000000 in
theorem iTilingFirst_ret (W T : Int) (a : Option Addr) (n cap : Nat) (xs : List Bool) (w : World) (hn : n = xs.length) (hn' : n ≤ 1048576) (ha : BoolsAt w a xs) :
    Calls Try.prog 22 #[.agg #[.int .i64 W, .int .i64 T, .slice a n cap]] w (RetLT w (firstF W T xs).1.length (firstF W T xs).1 (firstF W T xs).2) := by
  have HN := Lib.hid hn; clear hn
  have HA := Lib.hid ha; clear ha
  have hbl := bareL_len W T xs
  rw [← HN.out] at hbl
  have p1 := heap_new w (.cells #[.int .i64 W, .int .i64 T, .slice a n cap] 25)
  have zl := heap_lt p1
  obtain ⟨w1, hw1⟩ : ∃ w1, w1 = w.alloc (.cells #[.int .i64 W, .int .i64 T, .slice a n cap] 25) := ⟨_, rfl⟩
  have b1 : Hid (Below w.heap.size w w1) := by rw [hw1]; exact below1 _ _
  rw [← hw1] at p1
  have A1 : Hid (BoolsAt w1 a xs) := HA.out.below b1.out
  obtain ⟨c0, c1, c2⟩ := cells3 p1
  go_enter Try.func22, Try.ntmps22
  go_wp2
  rw [← hw1]
  clear hw1 zl
  go_region_held3 (fun w' : World => w'.cell? ⟨w.heap.size, 0, none⟩ = some (.int .i64 W) ∧ w'.cell? ⟨w.heap.size, 1, none⟩ = some (.int .i64 T) ∧ w'.cell? ⟨w.heap.size, 2, none⟩ = some (.slice a n cap))
    (go_keep)
    (first
      | (go_at_call 78; refine (iComplete_ret _ _ _ _ _ xs _ _ _ (bareL W T xs) _ HN.out hn' rfl (by omega) (A1.out.below b3) (OwnsI.at ho3)).mono ?_; rintro e w4 ⟨a4, cap4, rfl, ho4, hb4⟩; have p4 := heap_later p3 hb4; obtain ⟨c40, c41, c42⟩ := cells3 p4)
      | (go_at_call 74; refine (iLaidBare_ret _ _ _ _ _ xs _ HN.out hn' (show BoolsAt w1.drew _ _ from A1.out)).mono ?_; rintro e w3 ⟨a3, cap3, rfl, ho3, hb3⟩; have p3 := heap_later (show w1.drew.heap[w.heap.size]? = some _ from p1) hb3; have b3 : Below w1.heap.size w1 w3 := below_seq (drew_below _) hb3; obtain ⟨c30, c31, c32⟩ := cells3 p3))
  go_wp2
  go_ret2
  exact ⟨a4, cap4, rfl, ho4.lower (by have := b1.out.size; have := b3.size; omega), below_seq b1.out (below_seq b3 hb4)⟩
end Go.Proofs.Ytknigcjpgkolgaa

namespace Go.Proofs.Ytknigcjpgkolgaa
open Go.RowKit
set_option linter.unusedVariables false
set_option maxRecDepth 100000
set_option linter.unusedSimpArgs false

/-- What the first completion is: none if no tiling has the dominoes of the list; else the first of those. -/
theorem comp_none {W T : Int} {xs : List Bool} {L : List Int} (h : lok W T xs L = true) (h2 : (compF W T xs L).2 = false) : (compF W T xs L).1 = [] ∧ ∀ M, tok W T xs M = true → Has L M → False := by
  unfold compF at h2 ⊢
  rw [if_pos h, compL_head _ _ h] at h2 ⊢
  cases hA : allL W T xs (xs.length + 1) L with
  | nil =>
    refine ⟨rfl, fun M hM hh => ?_⟩
    have := allL_mem (xs.length + 1) L M (by have := freeN_le xs L; omega) h hM hh
    rw [hA] at this
    cases this
  | cons M R => rw [hA] at h2; cases h2
theorem comp_some {W T : Int} {xs : List Bool} {L : List Int} (h : lok W T xs L = true) (h2 : (compF W T xs L).2 = true) : (compF W T xs L).1.length = xs.length ∧ tok W T xs (compF W T xs L).1 = true ∧ Has L (compF W T xs L).1 ∧ ∀ M, tok W T xs M = true → Has L M → M = (compF W T xs L).1 ∨ Before (compF W T xs L).1 M := by
  have hs := allL_sorted (xs.length + 1) L h
  unfold compF at h2 ⊢
  rw [if_pos h, compL_head _ _ h] at h2 ⊢
  cases hA : allL W T xs (xs.length + 1) L with
  | nil => rw [hA] at h2; cases h2
  | cons M R =>
    show M.length = _ ∧ tok W T xs M = true ∧ Has L M ∧ _
    have hm : M ∈ allL W T xs (xs.length + 1) L := by rw [hA]; exact List.mem_cons_self
    obtain ⟨e1, e2⟩ := allL_each (xs.length + 1) L h M hm
    refine ⟨e1, e2, allL_has (xs.length + 1) L M h hm, fun K hK hh => ?_⟩
    have hk := allL_mem (xs.length + 1) L K (by have := freeN_le xs L; omega) h hK hh
    rw [hA] at hk hs
    show K = M ∨ Before M K
    rcases List.mem_cons.1 hk with e | e
    · exact Or.inl e
    · exact Or.inr ((List.pairwise_cons.1 hs).1 K e)
end Go.Proofs.Ytknigcjpgkolgaa

namespace Go.Proofs.Ytknigcjpgkolgaa
open Go.RowKit
set_option linter.unusedVariables false
set_option maxRecDepth 100000
set_option linter.unusedSimpArgs false

theorem has_bare (W T : Int) (xs : List Bool) (M : List Int) : Has (bareL W T xs) M := by
  intro k h
  exfalso; apply h
  unfold bareL
  split
  · rcases Nat.lt_or_ge k xs.length with h' | h'
    · simp [h']
    · simp [h']
  · simp
theorem first_tok {W T : Int} {xs : List Bool} {L : List Int} (ht : tok W T xs L = true) : tok W T xs (firstF W T xs).1 = true := by
  have hr : rv W T xs = true := (lok_rv (tok_lok1 ht)).1
  have hl : lok W T xs (bareL W T xs) = true := by rw [lok_bareL]; exact hr
  unfold firstF
  cases h : (compF W T xs (bareL W T xs)).2
  · exact absurd (has_bare W T xs L) (fun hh => (comp_none hl h).2 L ht hh)
  · exact (comp_some hl h).2.1
/-- The heights of two tilings: as many, and they differ by multiples of 4. -/
theorem hts_mod {W T : Int} {xs : List Bool} {L M A B : List Int} (hs : simpleB W T xs = true) (hL : tok W T xs L = true) (hM : tok W T xs M = true) (hA : HtsR W T xs L A) (hB : HtsR W T xs M B) :
    A.length = B.length ∧ ∀ k, k < A.length → (A.getD k 0 - B.getD k 0) % 4 = 0 ∧ (-200 ≤ A.getD k 0 - B.getD k 0 ∧ A.getD k 0 - B.getD k 0 ≤ 200) := by
  have hoA := (tby_of hs hL hA).1
  have hoB := (tby_of hs hM hB).1
  have hl := hok_length hoA hoB
  obtain ⟨N, fk, hN, hf⟩ := hokP_size hs
  have a := hok_to hN hf hoA
  have b := hok_to hN hf hoB
  refine ⟨hl, fun k hk => ?_⟩
  have e1 := hok_entry hoA hk
  have e2 := hok_entry hoB (k := k) (by omega)
  refine ⟨?_, by omega, by omega⟩
  cases ha : hAt W T xs k
  · rw [a.off k (by rw [← a.len]; exact hk) ha, b.off k (by rw [← a.len]; exact hk) ha]; rfl
  · exact hok_mod a b k ha
end Go.Proofs.Ytknigcjpgkolgaa
