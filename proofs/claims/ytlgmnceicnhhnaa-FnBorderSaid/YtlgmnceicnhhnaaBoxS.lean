/- Contracts of spec.RegionBox. -/
import Derived.Test.YtlgmnceicnhhnaaBox
namespace Go.Proofs.Ytlgmnceicnhhnaa
open Go.RowKit
set_option linter.unusedVariables false
set_option maxRecDepth 100000
set_option linter.unusedSimpArgs false

set_option maxHeartbeats 1000000 in
theorem sRegionBox_no (W T : Int) (w : World) (h : boxB W T = false) :
    Calls Try.prog 88 #[.int .i64 W, .int .i64 T] w fun e w' => e = .returned (.agg #[.int .i64 0, .int .i64 0, .slice none 0 0]) ∧ Below w.heap.size w w' := by
  by_cases ha : inB W 1 6 = true
  · by_cases hb : inB T 1 6 = true
    · have h1 : 1 ≤ W ∧ W ≤ 6 := by simpa [inB] using ha
      have h1' : 1 ≤ T ∧ T ≤ 6 := by simpa [inB] using hb
      have h2 : 24 < W * T := by
        have : ¬ W * T ≤ 24 := by intro hh; simp [boxB, sidesB, h1, h1', hh] at h
        omega
      have h3 := mul_bd h1.1 h1.2 h1'.1 h1'.2
      obtain ⟨h3a, h3b⟩ := h3
      clear h h1 h1'
      go_enter Try.func88, Try.ntmps88
      go_wp2_with (go_at_call 62; refine (l1In_any _ _ _ _).mono ?_; rintro e w1 ⟨rfl, rfl⟩)
      exact bodyPost_ret (v := .agg #[.int .i64 0, .int .i64 0, .slice none 0 0]) (by simp [results, Try.results88, go_sem]) rfl ⟨rfl, below1 _ _⟩
    · rw [Bool.not_eq_true] at hb
      clear h
      go_enter Try.func88, Try.ntmps88
      go_wp2_with (go_at_call 62; refine (l1In_any _ _ _ _).mono ?_; rintro e w1 ⟨rfl, rfl⟩)
      exact bodyPost_ret (v := .agg #[.int .i64 0, .int .i64 0, .slice none 0 0]) (by simp [results, Try.results88, go_sem]) rfl ⟨rfl, below1 _ _⟩
  · rw [Bool.not_eq_true] at ha
    clear h
    go_enter Try.func88, Try.ntmps88
    go_wp2_with (go_at_call 62; refine (l1In_any _ _ _ _).mono ?_; rintro e w1 ⟨rfl, rfl⟩)
    exact bodyPost_ret (v := .agg #[.int .i64 0, .int .i64 0, .slice none 0 0]) (by simp [results, Try.results88, go_sem]) rfl ⟨rfl, below1 _ _⟩

theorem boxB_ins {W T : Int} (h : boxB W T = true) : inB W 1 6 = true ∧ inB T 1 6 = true := by
  obtain ⟨_, _, a, b, c, d, _, _⟩ := boxB_yes h
  simp [inB]; omega

set_option maxHeartbeats 1000000 in
theorem sRegionBox_yes (W T : Int) (N : Nat) (w : World) (h : boxB W T = true) (hN : W * T = N) :
    Calls Try.prog 88 #[.int .i64 W, .int .i64 T] w fun e w' => ∃ g c, e = .returned (.agg #[.int .i64 W, .int .i64 T, .slice (some ⟨g, 0, none⟩) N c]) ∧ OwnsB w' (w.heap.size + 2) (.slice (some ⟨g, 0, none⟩) N c) (List.replicate N true) ∧ Below w.heap.size w w' := by
  obtain ⟨i0, hi, hz0, hz1, hz2⟩ := info_parts infoBool
  obtain ⟨hs, hm, hW0, hW1, hT0, hT1, hm0, hm1⟩ := boxB_yes h
  obtain ⟨ha, hb⟩ := boxB_ins h
  clear h
  have hm' : ¬ 24 < W * T := by simpa using hm
  have hN24 : N ≤ 24 := by omega
  have HNN := Lib.hid hN; clear hN
  go_enter Try.func88, Try.ntmps88
  go_wp2_with (first
    | (go_at_call 62; refine (l1In_any _ _ _ _).mono ?_; rintro e w1 ⟨rfl, rfl⟩))
  go_loopw [6] (fun i wr => ∃ (k : Nat) (v : Value), k ≤ N ∧ i = .int .i64 k ∧ OwnsB wr (w.heap.size + 2) v (List.replicate k true) ∧ wr.heap[w.heap.size]? = some (.cells #[.int .i64 0, .int .i64 0, .slice none 0 0] 25 (0, 0)) ∧ wr.heap[w.heap.size + 1]? = some (.cells #[.int .i64 W, .int .i64 T, v] 25 (0, 0)) ∧ Below w.heap.size w wr) (fun i _ => N - (intOf i).toNat)
  case atStart => exact ⟨0, _, Nat.zero_le _, rfl, OwnsB.nil _ _, heap_later (heap_new w _) (below1 _ _), by simpa using heap_new (w.alloc _) _, below2 _ _ _⟩
  case round =>
    obtain ⟨k, v, hk, rfl, hown, h5, h6, hbel⟩ := hrel
    obtain ⟨c0, c1, c2⟩ := cells3 h6
    have hlw := heap_lt h6
    have HO := Lib.hid hown; clear hown
    by_cases hlt : k < N
    · have hlt' : (k : Int) < W * T := by have := HNN.out; omega
      go_wp2_with (at_builtin; refine wpList_append_own _ rfl _ _ 23 rfl (w.heap.size + 2) 4 i0 (.bool false) 1 1 Try.underlying23 hi hz0 hz1 hz2 rfl (by decide) v k ((List.replicate k true).map Value.bool) rfl ((HO.out.alloc _).row (by simp)) ⟨wr.heap.size, 0, none⟩ 1 1 [.bool true] rfl rfl (new_bool _ _) (one_bool _) (by unfold maxLen; omega) (by omega) (by simp; omega) ?_; intro v' w1 hown' hgrow _; obtain ⟨g', cap', rfl⟩ := form_pos hown' (by omega); have p5 := heap_grown (heap_later h5 (below1 _ _)) hgrow (HO.out.ownBlock (by omega)); have p6 := heap_grown (heap_later h6 (below1 _ _)) hgrow (HO.out.ownBlock (by omega)); obtain ⟨d0, d1, d2⟩ := cells3 p6; have e2 := free3 p6 2; have HN' := Lib.hid hown'; clear hown')
      go_roundw
      case rel => exact ⟨k + 1, _, by omega, by go_num, (OwnsB.ofRow HN'.out (rep_snoc _ _) (by simp)).setBelow (by simp) _, heap_set_other p5 (by simp) _, by simpa using block_setCell p6 (i := 2) _, (grown_tail hbel hgrow (by omega) (HO.out.ownAt (by omega))).setCell (by simp) _⟩
      case measure => simp [intOf]; omega
    · obtain rfl : k = N := by omega
      have hge : ¬ (k : Int) < W * T := by have := HNN.out; omega
      obtain ⟨g, cap, rfl⟩ := form_pos (HO.out.row (n := k) (by simp)) (by have := HNN.out; omega)
      obtain ⟨d0, d1, d2⟩ := cells3 h5
      have e0 := free3 h5 0
      have e1 := free3 h5 1
      have e2 := free3 h5 2
      go_wp2
      refine bodyPost_ret (v := .agg #[.int .i64 W, .int .i64 T, .slice (some ⟨g, 0, none⟩) k cap]) (by simp [results, Try.results88, go_sem, d0, d1, d2]) rfl ⟨_, _, rfl, ?_, ?_⟩
      · exact HO.out.set3 (by omega) _ _ _
      · exact below_set3 hbel (Nat.le_refl _) _ _ _
end Go.Proofs.Ytlgmnceicnhhnaa
