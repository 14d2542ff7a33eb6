/- Contracts of impl.bareField and of the two functions RegionBox. Merged of: Box, BoxS, LawBox. -/
import Derived.Test.YtpcajacekmidbaaOwn
import Derived.Test.YtpcajacekmidbaaValid
namespace Go.Proofs.Ytpcajacekmidbaa
open Go.RowKit
set_option linter.unusedVariables false
set_option maxRecDepth 100000
set_option linter.unusedSimpArgs false

theorem made_bools (N : Nat) : (madeCells (Value.bool false).cells (N * 1)).toList = (List.replicate N false).map Value.bool := by
  rw [show (Value.bool false).cells = #[.bool false] from rfl, toList_madeCells_one]; simp

set_option maxHeartbeats 400000 in
theorem bareField_any (W T : Int) (N : Nat) (w : World) (hW0 : 0 ≤ W) (hW1 : W ≤ 100) (hT0 : 0 ≤ T) (hT1 : T ≤ 100) (hN : W * T = N) (hN1 : N ≤ 10000) :
    Calls Try.prog 104 #[.int .i64 W, .int .i64 T] w fun e w' => ∃ g, e = .returned (.agg #[.int .i64 W, .int .i64 T, .slice (some ⟨g, 0, none⟩) N N]) ∧ OwnsB w' (w.heap.size + 1) (.slice (some ⟨g, 0, none⟩) N N) (List.replicate N false) ∧ Below w.heap.size w w' := by
  obtain ⟨i0, hi, hz0, hz1, hz2⟩ := info_parts infoBool
  have b1 : 0 ≤ W * T := by omega
  have b2 : W * T ≤ 10000 := by omega
  have HNN := Lib.hid hN; clear hN
  go_enter Try.func104, Try.ntmps104
  go_wp2_with (at_make; refine wpList_make_full _ rfl _ _ 23 rfl (w.heap.size + 1) 4 i0 (.bool false) 1 Try.underlying23 hi hz0 hz1 _ _ _ _ N rfl rfl HNN.out HNN.out (by rw [hz2]; omega) (by unfold maxLen; omega) (by simp) ?_; intro w1 hown hgrow; have hb := grown_below hgrow; obtain ⟨hc, hf⟩ := bcell hb; have hz : w.heap.size + 1 ≤ w1.heap.size := (by have := hb.size; simp at this; omega); have HOW := Lib.hid hown; clear hown)
  refine bodyPost_ret (v := .agg #[.int .i64 W, .int .i64 T, .slice (some ⟨w.heap.size + 1, 0, none⟩) N N]) (by simp [results, Try.results104, go_sem, hc, hz]) rfl ⟨_, rfl, ?_, ?_⟩
  · have h := HOW.out
    rw [made_bools] at h
    have h' : OwnsB w1 (w.heap.size + 1) (.slice (some ⟨w.heap.size + 1, 0, none⟩) N N) (List.replicate N false) := by unfold OwnsB; simpa using h
    exact h'.set3 (by simp) _ _ _
  · exact below_set3 (below_seq (below1 _ _) hb) (Nat.le_refl _) _ _ _

def boxB (W T : Int) : Bool := sidesB W T && decide (W * T ≤ 24)

theorem boxB_yes {W T : Int} (h : boxB W T = true) : sidesB W T = true ∧ (decide (24 < W * T)) = false ∧ 1 ≤ W ∧ W ≤ 6 ∧ 1 ≤ T ∧ T ≤ 6 ∧ 1 ≤ W * T ∧ W * T ≤ 24 := by
  simp only [boxB, Bool.and_eq_true, decide_eq_true_eq] at h
  have ⟨h1, h2⟩ := h
  simp only [sidesB, decide_eq_true_eq] at h1
  have := mul_bd h1.1 h1.2.1 h1.2.2.1 h1.2.2.2
  exact ⟨h.1, by simp; omega, h1.1, h1.2.1, h1.2.2.1, h1.2.2.2, this.1, h2⟩

set_option maxHeartbeats 1000000 in
theorem iRegionBox_no (W T : Int) (w : World) (h : boxB W T = false) :
    Calls Try.prog 53 #[.int .i64 W, .int .i64 T] w fun e w' => e = .returned (.agg #[.int .i64 0, .int .i64 0, .slice none 0 0]) ∧ Below w.heap.size w w' := by
  by_cases hs : sidesB W T = true
  · have h1 : 1 ≤ W ∧ W ≤ 6 ∧ 1 ≤ T ∧ T ≤ 6 := by simpa [sidesB] using hs
    have h2 : 24 < W * T := by
      have : ¬ W * T ≤ 24 := by intro hh; simp [boxB, hs, hh] at h
      omega
    have h3 := mul_bd h1.1 h1.2.1 h1.2.2.1 h1.2.2.2
    obtain ⟨h3a, h3b⟩ := h3
    clear h h1
    go_enter Try.func53, Try.ntmps53
    go_wp2_with (go_at_call 101; refine (sidesOk_any _ _ _).mono ?_; rintro e w1 ⟨rfl, rfl⟩)
    exact bodyPost_ret (v := .agg #[.int .i64 0, .int .i64 0, .slice none 0 0]) (by simp [results, Try.results53, go_sem]) rfl ⟨rfl, below1 _ _⟩
  · rw [Bool.not_eq_true] at hs
    clear h
    go_enter Try.func53, Try.ntmps53
    go_wp2_with (go_at_call 101; refine (sidesOk_any _ _ _).mono ?_; rintro e w1 ⟨rfl, rfl⟩)
    exact bodyPost_ret (v := .agg #[.int .i64 0, .int .i64 0, .slice none 0 0]) (by simp [results, Try.results53, go_sem]) rfl ⟨rfl, below1 _ _⟩

set_option maxHeartbeats 1000000 in
theorem iRegionBox_yes (W T : Int) (N : Nat) (w : World) (h : boxB W T = true) (hN : W * T = N) :
    Calls Try.prog 53 #[.int .i64 W, .int .i64 T] w fun e w' => ∃ g, e = .returned (.agg #[.int .i64 W, .int .i64 T, .slice (some ⟨g, 0, none⟩) N N]) ∧ OwnsB w' (w.heap.size + 1) (.slice (some ⟨g, 0, none⟩) N N) (List.replicate N true) ∧ Below w.heap.size w w' := by
  obtain ⟨hs, hm, hW0, hW1, hT0, hT1, hm0, hm1⟩ := boxB_yes h
  clear h
  have hm' : ¬ 24 < W * T := by simpa using hm
  have HNN := Lib.hid hN; clear hN
  go_enter Try.func53, Try.ntmps53
  go_wp2_with (first
    | (go_at_call 101; refine (sidesOk_any _ _ _).mono ?_; rintro e w1 ⟨rfl, rfl⟩)
    | (go_at_call 104; refine (bareField_any W T N _ (by omega) (by omega) (by omega) (by omega) HNN.out (by have := HNN.out; omega)).mono ?_; rintro e w1 ⟨g, rfl, ho, hb⟩; have HO := Lib.hid ho; clear ho))
  have hN24 : N ≤ 24 := by have := HNN.out; omega
  have hg1 : g < w1.heap.size := (HO.out.forms.elim (fun h => by simp at h) (fun ⟨g', c', h, _, h2⟩ => by simp at h; omega))
  have hz : w.heap.size + 1 ≤ w1.heap.size := by have := hb.size; simp at this; omega
  have R0 : RowB w1 (w.heap.size + 1) g N N (fun _ => false) := (RowB.of (HO.out.lower (by simp)) (by simp)).congr (fun i hi => by simp [hi])
  have p1 := heap_later (heap_new w _) hb
  have hb' := below_seq (below1 _ _) hb
  clear HO hb
  go_loopw [6, 24] (fun _ i wr => ∃ k : Nat, k ≤ N ∧ i = .int .i64 k ∧ RowB wr (w.heap.size + 1) g N N (fun j => decide (j < k)) ∧ wr.heap[w.heap.size]? = some (.cells #[.int .i64 0, .int .i64 0, .slice none 0 0] 25 (0, 0)) ∧ wr.heap[w1.heap.size]? = some (.cells #[.int .i64 W, .int .i64 T, .slice (some ⟨g, 0, none⟩) N N] 25 (0, 0)) ∧ Below w.heap.size w wr) (fun _ i _ => N - (intOf i).toNat)
  case atStart => exact ⟨0, Nat.zero_le _, rfl, (R0.below (below1 _ _)).congr (by simp), heap_later p1 (below1 _ _), heap_new _ _, below_seq hb' (below1 _ _)⟩
  case round =>
    obtain ⟨k, hk, rfl, hr, h5, h6, hbel⟩ := hrel
    obtain ⟨c0, c1, c2⟩ := cells3 h6
    by_cases hlt : k < N
    · have hc := hr.cell hlt
      have hf := hr.free k
      have HR := Lib.hid hr; clear hr
      go_wp2
      go_roundw
      case rel =>
        have hs := HR.out.set k true
        exact ⟨k + 1, by omega, by go_num, hs.1.congr (fun i hi => by by_cases e : i = k <;> simp [e]; omega), heap_set_other h5 (by have := HR.out.base; simp; omega) _, heap_set_other h6 (by simp; omega) _, hbel.setCell (by have := HR.out.base; simp; omega) _⟩
      case measure => simp [intOf]; omega
    · obtain rfl : k = N := by omega
      have HR := Lib.hid hr; clear hr
      obtain ⟨d0, d1, d2⟩ := cells3 h5
      have e0 := free3 h5 0
      have e1 := free3 h5 1
      have e2 := free3 h5 2
      go_wp2
      refine bodyPost_ret (v := .agg #[.int .i64 W, .int .i64 T, .slice (some ⟨g, 0, none⟩) k k]) (by simp [results, Try.results53, go_sem, d0, d1, d2]) rfl ⟨_, rfl, ?_, ?_⟩
      · have := (HR.out.congr (f' := fun _ => true) (fun i hi => by simp [hi])).owns
        rw [tab_const] at this
        exact this.set3 (by omega) _ _ _
      · exact below_set3 hbel (Nat.le_refl _) _ _ _
end Go.Proofs.Ytpcajacekmidbaa

namespace Go.Proofs.Ytpcajacekmidbaa
open Go.RowKit
set_option linter.unusedVariables false
set_option maxRecDepth 100000
set_option linter.unusedSimpArgs false

set_option maxHeartbeats 1000000 in
theorem sRegionBox_no (W T : Int) (w : World) (h : boxB W T = false) :
    Calls Try.prog 144 #[.int .i64 W, .int .i64 T] w fun e w' => e = .returned (.agg #[.int .i64 0, .int .i64 0, .slice none 0 0]) ∧ Below w.heap.size w w' := by
  by_cases ha : inB W 1 6 = true
  · by_cases hb : inB T 1 6 = true
    · have h1 : 1 ≤ W ∧ W ≤ 6 := by simpa [inB] using ha
      have h1' : 1 ≤ T ∧ T ≤ 6 := by simpa [inB] using hb
      have h2 : 24 < W * T := by
        have : ¬ W * T ≤ 24 := by intro hh; simp [boxB, sidesB, h1, h1', hh] at h
        omega
      have h3 := mul_bd h1.1 h1.2 h1'.1 h1'.2
      obtain ⟨h3a, h3b⟩ := h3
      clear h h1 h1'
      go_enter Try.func144, Try.ntmps144
      go_wp2_with (go_at_call 51; refine (l1In_any _ _ _ _).mono ?_; rintro e w1 ⟨rfl, rfl⟩)
      exact bodyPost_ret (v := .agg #[.int .i64 0, .int .i64 0, .slice none 0 0]) (by simp [results, Try.results144, go_sem]) rfl ⟨rfl, below1 _ _⟩
    · rw [Bool.not_eq_true] at hb
      clear h
      go_enter Try.func144, Try.ntmps144
      go_wp2_with (go_at_call 51; refine (l1In_any _ _ _ _).mono ?_; rintro e w1 ⟨rfl, rfl⟩)
      exact bodyPost_ret (v := .agg #[.int .i64 0, .int .i64 0, .slice none 0 0]) (by simp [results, Try.results144, go_sem]) rfl ⟨rfl, below1 _ _⟩
  · rw [Bool.not_eq_true] at ha
    clear h
    go_enter Try.func144, Try.ntmps144
    go_wp2_with (go_at_call 51; refine (l1In_any _ _ _ _).mono ?_; rintro e w1 ⟨rfl, rfl⟩)
    exact bodyPost_ret (v := .agg #[.int .i64 0, .int .i64 0, .slice none 0 0]) (by simp [results, Try.results144, go_sem]) rfl ⟨rfl, below1 _ _⟩

theorem boxB_ins {W T : Int} (h : boxB W T = true) : inB W 1 6 = true ∧ inB T 1 6 = true := by
  obtain ⟨_, _, a, b, c, d, _, _⟩ := boxB_yes h
  simp [inB]; omega

set_option maxHeartbeats 1000000 in
theorem sRegionBox_yes (W T : Int) (N : Nat) (w : World) (h : boxB W T = true) (hN : W * T = N) :
    Calls Try.prog 144 #[.int .i64 W, .int .i64 T] w fun e w' => ∃ g c, e = .returned (.agg #[.int .i64 W, .int .i64 T, .slice (some ⟨g, 0, none⟩) N c]) ∧ OwnsB w' (w.heap.size + 2) (.slice (some ⟨g, 0, none⟩) N c) (List.replicate N true) ∧ Below w.heap.size w w' := by
  obtain ⟨i0, hi, hz0, hz1, hz2⟩ := info_parts infoBool
  obtain ⟨hs, hm, hW0, hW1, hT0, hT1, hm0, hm1⟩ := boxB_yes h
  obtain ⟨ha, hb⟩ := boxB_ins h
  clear h
  have hm' : ¬ 24 < W * T := by simpa using hm
  have hN24 : N ≤ 24 := by omega
  have HNN := Lib.hid hN; clear hN
  go_enter Try.func144, Try.ntmps144
  go_wp2_with (first
    | (go_at_call 51; refine (l1In_any _ _ _ _).mono ?_; rintro e w1 ⟨rfl, rfl⟩))
  go_loopw [6] (fun i wr => ∃ (k : Nat) (v : Value), k ≤ N ∧ i = .int .i64 k ∧ OwnsB wr (w.heap.size + 2) v (List.replicate k true) ∧ wr.heap[w.heap.size]? = some (.cells #[.int .i64 0, .int .i64 0, .slice none 0 0] 25 (0, 0)) ∧ wr.heap[w.heap.size + 1]? = some (.cells #[.int .i64 W, .int .i64 T, v] 25 (0, 0)) ∧ Below w.heap.size w wr) (fun i _ => N - (intOf i).toNat)
  case atStart => exact ⟨0, _, Nat.zero_le _, rfl, OwnsB.nil _ _, heap_later (heap_new w _) (below1 _ _), by simpa using heap_new (w.alloc _) _, below2 _ _ _⟩
  case round =>
    obtain ⟨k, v, hk, rfl, hown, h5, h6, hbel⟩ := hrel
    obtain ⟨c0, c1, c2⟩ := cells3 h6
    have hlw := heap_lt h6
    have HO := Lib.hid hown; clear hown
    by_cases hlt : k < N
    · have hlt' : (k : Int) < W * T := by have := HNN.out; omega
      go_wp2_with (at_builtin; refine wpList_append_own _ rfl _ _ 23 rfl (w.heap.size + 2) 4 i0 (.bool false) 1 1 Try.underlying23 hi hz0 hz1 hz2 rfl (by decide) v k ((List.replicate k true).map Value.bool) rfl ((HO.out.alloc _).row (by simp)) ⟨wr.heap.size, 0, none⟩ 1 1 [.bool true] rfl rfl (new_bool _ _) (one_bool _) (by unfold maxLen; omega) (by omega) (by simp; omega) ?_; intro v' w1 hown' hgrow _; obtain ⟨g', cap', rfl⟩ := form_pos hown' (by omega); have p5 := heap_grown (heap_later h5 (below1 _ _)) hgrow (HO.out.ownBlock (by omega)); have p6 := heap_grown (heap_later h6 (below1 _ _)) hgrow (HO.out.ownBlock (by omega)); obtain ⟨d0, d1, d2⟩ := cells3 p6; have e2 := free3 p6 2; have HN' := Lib.hid hown'; clear hown')
      go_roundw
      case rel => exact ⟨k + 1, _, by omega, by go_num, (OwnsB.ofRow HN'.out (rep_snoc _ _) (by simp)).setBelow (by simp) _, heap_set_other p5 (by simp) _, by simpa using block_setCell p6 (i := 2) _, (grown_tail hbel hgrow (by omega) (HO.out.ownAt (by omega))).setCell (by simp) _⟩
      case measure => simp [intOf]; omega
    · obtain rfl : k = N := by omega
      have hge : ¬ (k : Int) < W * T := by have := HNN.out; omega
      obtain ⟨g, cap, rfl⟩ := form_pos (HO.out.row (n := k) (by simp)) (by have := HNN.out; omega)
      obtain ⟨d0, d1, d2⟩ := cells3 h5
      have e0 := free3 h5 0
      have e1 := free3 h5 1
      have e2 := free3 h5 2
      go_wp2
      refine bodyPost_ret (v := .agg #[.int .i64 W, .int .i64 T, .slice (some ⟨g, 0, none⟩) k cap]) (by simp [results, Try.results144, go_sem, d0, d1, d2]) rfl ⟨_, _, rfl, ?_, ?_⟩
      · exact HO.out.set3 (by omega) _ _ _
      · exact below_set3 hbel (Nat.le_refl _) _ _ _
end Go.Proofs.Ytpcajacekmidbaa

namespace Go.Proofs.Ytpcajacekmidbaa
open Go.RowKit
set_option linter.unusedVariables false
set_option maxRecDepth 100000
set_option linter.unusedSimpArgs false

def RetReg (w : World) (W T : Int) (n : Nat) (xs : List Bool) (e : Ending) (w' : World) : Prop :=
  ∃ (a : Option Addr) (cap : Nat), e = .returned (.agg #[.int .i64 W, .int .i64 T, .slice a n cap]) ∧ OwnsB w' w.heap.size (.slice a n cap) xs ∧ Below w.heap.size w w'

def boxF (W T : Int) : Int × Int × List Bool := if boxB W T then (W, T, List.replicate (W * T).toNat true) else (0, 0, [])
theorem boxF_len (W T : Int) : (boxF W T).2.2.length ≤ 24 := by
  unfold boxF
  split
  · next h => have := boxB_yes h; simp; omega
  · simp

theorem iRegionBox_ret (W T : Int) (w : World) : Calls Try.prog 53 #[.int .i64 W, .int .i64 T] w (RetReg w (boxF W T).1 (boxF W T).2.1 (boxF W T).2.2.length (boxF W T).2.2) := by
  by_cases h : boxB W T = true
  · have hb := boxB_yes h
    refine (iRegionBox_yes W T (W * T).toNat w h (by omega)).mono ?_
    rintro e w' ⟨g, rfl, ho, hb⟩
    unfold boxF; rw [if_pos h]
    simp only [List.length_replicate]
    exact ⟨_, _, rfl, ho.lower (by omega), hb⟩
  · rw [Bool.not_eq_true] at h
    refine (iRegionBox_no W T w h).mono ?_
    rintro e w' ⟨rfl, hb⟩
    unfold boxF; rw [h]
    exact ⟨_, _, rfl, OwnsB.nil _ _, hb⟩
theorem sRegionBox_ret (W T : Int) (w : World) : Calls Try.prog 144 #[.int .i64 W, .int .i64 T] w (RetReg w (boxF W T).1 (boxF W T).2.1 (boxF W T).2.2.length (boxF W T).2.2) := by
  by_cases h : boxB W T = true
  · have hb := boxB_yes h
    refine (sRegionBox_yes W T (W * T).toNat w h (by omega)).mono ?_
    rintro e w' ⟨g, c, rfl, ho, hb⟩
    unfold boxF; rw [if_pos h]
    simp only [List.length_replicate]
    exact ⟨_, _, rfl, ho.lower (by omega), hb⟩
  · rw [Bool.not_eq_true] at h
    refine (sRegionBox_no W T w h).mono ?_
    rintro e w' ⟨rfl, hb⟩
    unfold boxF; rw [h]
    exact ⟨_, _, rfl, OwnsB.nil _ _, hb⟩

theorem okq {n : Nat} (h : n ≤ 1048576) : ((1 : Int) + n < 0) = False ∧ ((1 : Int) + n != 1 + n) = false := ⟨by simp; omega, by simp⟩

end Go.Proofs.Ytpcajacekmidbaa
