/- What the promises' laws share: a fixed answer, lists and regions compared, a region drawn. -/
import Derived.Test.YtpcajacekmidbaaGreatKTill
import Derived.Deep.DeepCutAuto
import Derived.Deep.AppendLies
namespace Go.Proofs.YtpcajacekmidbaaGreat
open Go.RowKit
set_option linter.unusedVariables false
set_option maxRecDepth 100000
set_option linter.unusedSimpArgs false

def inB (n lo hi : Int) : Bool := decide (lo ≤ n ∧ n ≤ hi)
theorem l1In_any (n lo hi : Int) (w : World) :
 Calls Tryz.prog 63 #[.int .i64 n, .int .i64 lo, .int .i64 hi] w fun e w' => e = .returned (.bool (inB n lo hi)) ∧ w = w' := by
 by_cases h1 : lo ≤ n
 · by_cases h2 : n ≤ hi
   all_goals
    go_enter Tryz.func63, Tryz.ntmps63
    go_wp2
    go_ret
    exact ⟨ret_bool (by simp [inB, h1, h2]), rfl⟩
 · go_enter Tryz.func63, Tryz.ntmps63
   go_wp2
   go_ret
   exact ⟨ret_bool (by simp [inB]; omega), rfl⟩

def cnt (xs : List Bool) : Nat := xs.countP id
theorem cnt_le (xs : List Bool) : cnt xs ≤ xs.length := List.countP_le_length
theorem cnt_take (xs : List Bool) (k : Nat) (h : k < xs.length) : cnt (xs.take (k + 1)) = cnt (xs.take k) + if xs.getD k false then 1 else 0 := by
 rw [List.take_succ_eq_append_getElem h]
 simp only [cnt, List.countP_append, List.countP_cons, List.countP_nil, List.getD, id]
 simp [h]

set_option maxHeartbeats 400000 in
theorem l1Count_any (a : Option Addr) (n cap : Nat) (xs : List Bool) (w : World) (hn : n = xs.length) (hn' : n ≤ 1048576) (ha : BoolsAt w a xs) :
 Calls Tryz.prog 65 #[.slice a n cap] w fun e w' => e = .returned (.int .i64 (cnt xs)) ∧ w = w' := by
 have HN := Lib.hid hn; clear hn
 have HA := Lib.hid ha; clear ha
 go_enter Tryz.func65, Tryz.ntmps65
 go_wp2
 go_loop [3, 4] (fun c i => ∃ k : Nat, k ≤ n ∧ i = .int .i64 k ∧ c = .int .i64 (cnt (xs.take k))) (fun _ i => n - (intOf i).toNat)
 case atStart => exact ⟨0, Nat.zero_le _, rfl, rfl⟩
 case round =>
  obtain ⟨k, hk, rfl, rfl⟩ := hrel
  by_cases hlt : k < n
  · obtain ⟨b1, o1, rfl, hc⟩ := HA.out k (by rw [← HN.out]; exact hlt)
    have hs := cnt_take xs k (by rw [← HN.out]; exact hlt)
    have hb : cnt (xs.take k) ≤ k := Nat.le_trans (cnt_le _) (List.length_take_le _ _)
    cases hx : xs.getD k false
    all_goals
     rw [hx] at hc hs
     have HX := Lib.hid hx; clear hx
     have HS := Lib.hid hs; clear hs
     go_wp2
     go_round
     case rel => exact ⟨k + 1, by omega, by go_num, by rw [HS.out]; go_num⟩
     case measure => simp [intOf]; omega
  · obtain rfl : k = n := by omega
    go_wp2
    go_ret
    exact ⟨ret_int (by rw [HN.out, List.take_length]), rfl⟩

set_option maxHeartbeats 400000 in
theorem cellsIn_any (W T : Int) (a : Option Addr) (n cap : Nat) (xs : List Bool) (w : World) (hn : n = xs.length) (hn' : n ≤ 1048576) (ha : BoolsAt w a xs) :
 Calls Tryz.prog 69 #[.agg #[.int .i64 W, .int .i64 T, .slice a n cap]] w fun e w' => e = .returned (.int .i64 (cnt xs)) ∧ Below w.heap.size w w' := by
 have HN := Lib.hid hn; clear hn
 have HA := Lib.hid ha; clear ha
 go_enter Tryz.func69, Tryz.ntmps69
 go_wp2
 go_loop [3, 9] (fun c i => ∃ k : Nat, k ≤ n ∧ i = .int .i64 k ∧ c = .int .i64 (cnt (xs.take k))) (fun _ i => n - (intOf i).toNat)
 case atStart => exact ⟨0, Nat.zero_le _, rfl, rfl⟩
 case round =>
  obtain ⟨k, hk, rfl, rfl⟩ := hrel
  by_cases hlt : k < n
  · obtain ⟨b1, o1, rfl, hc⟩ := HA.out k (by rw [← HN.out]; exact hlt)
    have hb1 := World.block_lt_of_cell? w _ hc
    simp only at hb1
    have hs := cnt_take xs k (by rw [← HN.out]; exact hlt)
    have hb : cnt (xs.take k) ≤ k := Nat.le_trans (cnt_le _) (List.length_take_le _ _)
    cases hx : xs.getD k false
    all_goals
     rw [hx] at hc hs
     have HX := Lib.hid hx; clear hx
     have HS := Lib.hid hs; clear hs
     go_wp2
     go_round
     case rel => exact ⟨k + 1, by omega, by go_num, by rw [HS.out]; go_num⟩
     case measure => simp [intOf]; omega
  · obtain rfl : k = n := by omega
    go_wp2
    go_ret
    exact ⟨ret_int (by rw [HN.out, List.take_length]), below1 _ _⟩

def sidesB (W T : Int) : Bool := decide (1 ≤ W ∧ W ≤ 6 ∧ 1 ≤ T ∧ T ≤ 6)
theorem sidesOk_any (W T : Int) (w : World) :
 Calls Tryz.prog 70 #[.int .i64 W, .int .i64 T] w fun e w' => e = .returned (.bool (sidesB W T)) ∧ w = w' := by
 by_cases h1 : 1 ≤ W
 · by_cases h2 : W ≤ 6
   · by_cases h3 : 1 ≤ T
     · by_cases h4 : T ≤ 6
       all_goals
        go_enter Tryz.func70, Tryz.ntmps70
        go_wp2
        go_ret
        exact ⟨ret_bool (by simp [sidesB]; omega), rfl⟩
     · go_enter Tryz.func70, Tryz.ntmps70
       go_wp2
       go_ret
       exact ⟨ret_bool (by simp [sidesB]; omega), rfl⟩
   · go_enter Tryz.func70, Tryz.ntmps70
     go_wp2
     go_ret
     exact ⟨ret_bool (by simp [sidesB]; omega), rfl⟩
 · go_enter Tryz.func70, Tryz.ntmps70
   go_wp2
   go_ret
   exact ⟨ret_bool (by simp [sidesB]; omega), rfl⟩

end Go.Proofs.YtpcajacekmidbaaGreat

namespace Go.Proofs.YtpcajacekmidbaaGreat
open Go.RowKit
set_option linter.unusedVariables false
set_option maxRecDepth 100000
set_option linter.unusedSimpArgs false

def rv (W T : Int) (xs : List Bool) : Bool := decide (1 ≤ W ∧ W ≤ 6 ∧ 1 ≤ T ∧ T ≤ 6 ∧ (xs.length : Int) = W * T ∧ cnt xs ≤ 24)

theorem mul_bd {W T : Int} (h1 : 1 ≤ W) (h2 : W ≤ 6) (h3 : 1 ≤ T) (h4 : T ≤ 6) : 1 ≤ W * T ∧ W * T ≤ 36 := by
 obtain rfl | rfl | rfl | rfl | rfl | rfl : W = 1 ∨ W = 2 ∨ W = 3 ∨ W = 4 ∨ W = 5 ∨ W = 6 := by omega
 all_goals omega

theorem rv_last {W T : Int} {xs : List Bool} (h1 : 1 ≤ W) (h2 : W ≤ 6) (h3 : 1 ≤ T) (h4 : T ≤ 6) (h5 : (xs.length : Int) = W * T) : decide ((cnt xs : Int) ≤ 24) = rv W T xs := by
 rw [Bool.eq_iff_iff]
 simp only [rv, decide_eq_true_eq]
 constructor
 · intro h; exact ⟨h1, h2, h3, h4, h5, by omega⟩
 · intro h; omega

set_option maxHeartbeats 1000000 in
theorem sRegionValid_any (W T : Int) (a : Option Addr) (n cap : Nat) (xs : List Bool) (w : World) (hn : n = xs.length) (hn' : n ≤ 1048576) (ha : BoolsAt w a xs) :
 Calls Tryz.prog 61 #[.agg #[.int .i64 W, .int .i64 T, .slice a n cap]] w fun e w' => e = .returned (.bool (rv W T xs)) ∧ Below w.heap.size w w' := by
 have HN := Lib.hid hn; clear hn
 have HA := Lib.hid ha; clear ha
 by_cases h1 : inB W 1 6 = true
 · by_cases h2 : inB T 1 6 = true
   · have ⟨h1a, h1b⟩ : 1 ≤ W ∧ W ≤ 6 := by simpa [inB] using h1
     have ⟨h2a, h2b⟩ : 1 ≤ T ∧ T ≤ 6 := by simpa [inB] using h2
     have ⟨hm1, hm2⟩ := mul_bd h1a h1b h2a h2b
     by_cases h3 : ((n : Int) == W * T) = true
     · go_enter Tryz.func61, Tryz.ntmps61
       go_wp2_with (first
        | (go_at_call 63; refine (l1In_any _ _ _ _).mono ?_; rintro e w1 ⟨rfl, rfl⟩)
        | (go_at_call 65; refine (l1Count_any _ _ _ xs _ HN.out hn' (HA.out.one _)).mono ?_; rintro e w1 ⟨rfl, rfl⟩))
       go_ret
       exact ⟨ret_bool (rv_last h1a h1b h2a h2b (by rw [← HN.out]; simpa using h3)), below1 _ _⟩
     · rw [Bool.not_eq_true] at h3
       go_enter Tryz.func61, Tryz.ntmps61
       go_wp2_with (first
        | (go_at_call 63; refine (l1In_any _ _ _ _).mono ?_; rintro e w1 ⟨rfl, rfl⟩))
       go_ret
       exact ⟨ret_bool (by simp at h3; simp [rv]; rw [← HN.out]; omega), below1 _ _⟩
   · rw [Bool.not_eq_true] at h2
     go_enter Tryz.func61, Tryz.ntmps61
     go_wp2_with (first
      | (go_at_call 63; refine (l1In_any _ _ _ _).mono ?_; rintro e w1 ⟨rfl, rfl⟩))
     go_ret
     exact ⟨ret_bool (by simp [inB] at h2; simp [rv]; omega), below1 _ _⟩
 · rw [Bool.not_eq_true] at h1
   go_enter Tryz.func61, Tryz.ntmps61
   go_wp2_with (first
    | (go_at_call 63; refine (l1In_any _ _ _ _).mono ?_; rintro e w1 ⟨rfl, rfl⟩))
   go_ret
   exact ⟨ret_bool (by simp [inB] at h1; simp [rv]; omega), below1 _ _⟩

set_option maxHeartbeats 1000000 in
theorem iRegionValid_any (W T : Int) (a : Option Addr) (n cap : Nat) (xs : List Bool) (w : World) (hn : n = xs.length) (hn' : n ≤ 1048576) (ha : BoolsAt w a xs) :
 Calls Tryz.prog 68 #[.agg #[.int .i64 W, .int .i64 T, .slice a n cap]] w fun e w' => e = .returned (.bool (rv W T xs)) ∧ Below w.heap.size w w' := by
 have HN := Lib.hid hn; clear hn
 have HA := Lib.hid ha; clear ha
 by_cases h1 : sidesB W T = true
 · have ⟨h1a, h1b, h2a, h2b⟩ : 1 ≤ W ∧ W ≤ 6 ∧ 1 ≤ T ∧ T ≤ 6 := by simpa [sidesB] using h1
   have ⟨hm1, hm2⟩ := mul_bd h1a h1b h2a h2b
   by_cases h3 : ((n : Int) != W * T) = true
   · go_enter Tryz.func68, Tryz.ntmps68
     go_wp2_with (first
      | (go_at_call 70; refine (sidesOk_any _ _ _).mono ?_; rintro e w1 ⟨rfl, rfl⟩))
     go_ret
     exact ⟨ret_bool (by simp at h3; simp [rv]; rw [← HN.out]; omega), below1 _ _⟩
   · rw [Bool.not_eq_true] at h3
     go_enter Tryz.func68, Tryz.ntmps68
     go_wp2_with (first
      | (go_at_call 70; refine (sidesOk_any _ _ _).mono ?_; rintro e w1 ⟨rfl, rfl⟩)
      | (go_at_call 69; refine (cellsIn_any _ _ _ _ _ xs _ HN.out hn' (HA.out.one _)).mono ?_; rintro e w1 ⟨rfl, hb⟩))
     go_ret
     exact ⟨ret_bool (rv_last h1a h1b h2a h2b (by rw [← HN.out]; simpa using h3)), below_seq (below1 _ _) hb⟩
 · rw [Bool.not_eq_true] at h1
   go_enter Tryz.func68, Tryz.ntmps68
   go_wp2_with (first
    | (go_at_call 70; refine (sidesOk_any _ _ _).mono ?_; rintro e w1 ⟨rfl, rfl⟩))
   go_ret
   exact ⟨ret_bool (by simp [sidesB] at h1; simp [rv]; omega), below1 _ _⟩

end Go.Proofs.YtpcajacekmidbaaGreat

namespace Go.Proofs.YtpcajacekmidbaaGreat
open Go.RowKit
set_option linter.unusedVariables false
set_option maxRecDepth 100000
set_option linter.unusedSimpArgs false

end Go.Proofs.YtpcajacekmidbaaGreat

namespace Go.Proofs.YtpcajacekmidbaaGreat
open Go.RowKit
set_option linter.unusedVariables false
set_option maxRecDepth 100000
set_option linter.unusedSimpArgs false

theorem made_bools (N : Nat) : (madeCells (Value.bool false).cells (N * 1)).toList = (List.replicate N false).map Value.bool := by
 rw [show (Value.bool false).cells = #[.bool false] from rfl, toList_madeCells_one]; simp

set_option maxHeartbeats 400000 in
theorem bareField_any (W T : Int) (N : Nat) (w : World) (hW0 : 0 ≤ W) (hW1 : W ≤ 100) (hT0 : 0 ≤ T) (hT1 : T ≤ 100) (hN : W * T = N) (hN1 : N ≤ 10000) :
 Calls Tryz.prog 71 #[.int .i64 W, .int .i64 T] w fun e w' => ∃ g, e = .returned (.agg #[.int .i64 W, .int .i64 T, .slice (some ⟨g, 0, none⟩) N N]) ∧ OwnsB w' (w.heap.size + 1) (.slice (some ⟨g, 0, none⟩) N N) (List.replicate N false) ∧ Below w.heap.size w w' := by
 obtain ⟨i0, hi, hz0, hz1, hz2⟩ := info_parts infoBool
 have b1 : 0 ≤ W * T := by omega
 have b2 : W * T ≤ 10000 := by omega
 have HNN := Lib.hid hN; clear hN
 go_enter Tryz.func71, Tryz.ntmps71
 go_wp2_with (at_make; refine wpList_make_full _ rfl _ _ 23 rfl (w.heap.size + 1) 4 i0 (.bool false) 1 Tryz.underlying23 hi hz0 hz1 _ _ _ _ N rfl rfl HNN.out HNN.out (by rw [hz2]; omega) (by unfold maxLen; omega) (by simp) ?_; intro w1 hown hgrow; have hb := grown_below hgrow; obtain ⟨hc, hf⟩ := bcell hb; have hz : w.heap.size + 1 ≤ w1.heap.size := (by have := hb.size; simp at this; omega); have HOW := Lib.hid hown; clear hown)
 refine bodyPost_ret (v := .agg #[.int .i64 W, .int .i64 T, .slice (some ⟨w.heap.size + 1, 0, none⟩) N N]) (by simp [results, Tryz.results71, go_sem, hc, hz]) rfl ⟨_, rfl, ?_, ?_⟩
 · have h := HOW.out
   rw [made_bools] at h
   have h' : OwnsB w1 (w.heap.size + 1) (.slice (some ⟨w.heap.size + 1, 0, none⟩) N N) (List.replicate N false) := by unfold OwnsB; simpa using h
   exact h'.set3 (by simp) _ _ _
 · exact below_set3 (below_seq (below1 _ _) hb) (Nat.le_refl _) _ _ _

def boxB (W T : Int) : Bool := sidesB W T && decide (W * T ≤ 24)

theorem boxB_yes {W T : Int} (h : boxB W T = true) : sidesB W T = true ∧ (decide (24 < W * T)) = false ∧ 1 ≤ W ∧ W ≤ 6 ∧ 1 ≤ T ∧ T ≤ 6 ∧ 1 ≤ W * T ∧ W * T ≤ 24 := by
 simp only [boxB, Bool.and_eq_true, decide_eq_true_eq] at h
 have ⟨h1, h2⟩ := h
 simp only [sidesB, decide_eq_true_eq] at h1
 have := mul_bd h1.1 h1.2.1 h1.2.2.1 h1.2.2.2
 exact ⟨h.1, by simp; omega, h1.1, h1.2.1, h1.2.2.1, h1.2.2.2, this.1, h2⟩

set_option maxHeartbeats 1000000 in
theorem iRegionBox_yes (W T : Int) (N : Nat) (w : World) (h : boxB W T = true) (hN : W * T = N) :
 Calls Tryz.prog 35 #[.int .i64 W, .int .i64 T] w fun e w' => ∃ g, e = .returned (.agg #[.int .i64 W, .int .i64 T, .slice (some ⟨g, 0, none⟩) N N]) ∧ OwnsB w' (w.heap.size + 1) (.slice (some ⟨g, 0, none⟩) N N) (List.replicate N true) ∧ Below w.heap.size w w' := by
 obtain ⟨hs, hm, hW0, hW1, hT0, hT1, hm0, hm1⟩ := boxB_yes h
 clear h
 have hm' : ¬ 24 < W * T := by simpa using hm
 have HNN := Lib.hid hN; clear hN
 go_enter Tryz.func35, Tryz.ntmps35
 go_wp2_with (first
  | (go_at_call 70; refine (sidesOk_any _ _ _).mono ?_; rintro e w1 ⟨rfl, rfl⟩)
  | (go_at_call 71; refine (bareField_any W T N _ (by omega) (by omega) (by omega) (by omega) HNN.out (by have := HNN.out; omega)).mono ?_; rintro e w1 ⟨g, rfl, ho, hb⟩; have HO := Lib.hid ho; clear ho))
 have hN24 : N ≤ 24 := by have := HNN.out; omega
 have hg1 : g < w1.heap.size := (HO.out.forms.elim (fun h => by simp at h) (fun ⟨g', c', h, _, h2⟩ => by simp at h; omega))
 have hz : w.heap.size + 1 ≤ w1.heap.size := by have := hb.size; simp at this; omega
 have R0 : RowB w1 (w.heap.size + 1) g N N (fun _ => false) := (RowB.of (HO.out.lower (by simp)) (by simp)).congr (fun i hi => by simp [hi])
 have p1 := heap_later (heap_new w _) hb
 have hb' := below_seq (below1 _ _) hb
 clear HO hb
 go_loopw [6, 24] (fun _ i wr => ∃ k : Nat, k ≤ N ∧ i = .int .i64 k ∧ RowB wr (w.heap.size + 1) g N N (fun j => decide (j < k)) ∧ wr.heap[w.heap.size]? = some (.cells #[.int .i64 0, .int .i64 0, .slice none 0 0] 25 (0, 0)) ∧ wr.heap[w1.heap.size]? = some (.cells #[.int .i64 W, .int .i64 T, .slice (some ⟨g, 0, none⟩) N N] 25 (0, 0)) ∧ Below w.heap.size w wr) (fun _ i _ => N - (intOf i).toNat)
 case atStart => exact ⟨0, Nat.zero_le _, rfl, (R0.below (below1 _ _)).congr (by simp), heap_later p1 (below1 _ _), heap_new _ _, below_seq hb' (below1 _ _)⟩
 case round =>
  obtain ⟨k, hk, rfl, hr, h5, h6, hbel⟩ := hrel
  obtain ⟨c0, c1, c2⟩ := cells3 h6
  by_cases hlt : k < N
  · have hc := hr.cell hlt
    have hf := hr.free k
    have HR := Lib.hid hr; clear hr
    go_wp2
    go_roundw
    case rel =>
     have hs := HR.out.set k true
     exact ⟨k + 1, by omega, by go_num, hs.1.congr (fun i hi => by by_cases e : i = k <;> simp [e]; omega), heap_set_other h5 (by have := HR.out.base; simp; omega) _, heap_set_other h6 (by simp; omega) _, hbel.setCell (by have := HR.out.base; simp; omega) _⟩
    case measure => simp [intOf]; omega
  · obtain rfl : k = N := by omega
    have HR := Lib.hid hr; clear hr
    obtain ⟨d0, d1, d2⟩ := cells3 h5
    have e0 := free3 h5 0
    have e1 := free3 h5 1
    have e2 := free3 h5 2
    go_wp2
    refine bodyPost_ret (v := .agg #[.int .i64 W, .int .i64 T, .slice (some ⟨g, 0, none⟩) k k]) (by simp [results, Tryz.results35, go_sem, d0, d1, d2]) rfl ⟨_, rfl, ?_, ?_⟩
    · have := (HR.out.congr (f' := fun _ => true) (fun i hi => by simp [hi])).owns
      rw [tab_const] at this
      exact this.set3 (by omega) _ _ _
    · exact below_set3 hbel (Nat.le_refl _) _ _ _
end Go.Proofs.YtpcajacekmidbaaGreat

namespace Go.Proofs.YtpcajacekmidbaaGreat
open Go.RowKit
set_option linter.unusedVariables false
set_option maxRecDepth 100000
set_option linter.unusedSimpArgs false

set_option maxHeartbeats 1000000 in
theorem sRegionBox_no (W T : Int) (w : World) (h : boxB W T = false) :
 Calls Tryz.prog 51 #[.int .i64 W, .int .i64 T] w fun e w' => e = .returned (.agg #[.int .i64 0, .int .i64 0, .slice none 0 0]) ∧ Below w.heap.size w w' := by
 by_cases ha : inB W 1 6 = true
 · by_cases hb : inB T 1 6 = true
   · have h1 : 1 ≤ W ∧ W ≤ 6 := by simpa [inB] using ha
     have h1' : 1 ≤ T ∧ T ≤ 6 := by simpa [inB] using hb
     have h2 : 24 < W * T := by
      have : ¬ W * T ≤ 24 := by intro hh; simp [boxB, sidesB, h1, h1', hh] at h
      omega
     have h3 := mul_bd h1.1 h1.2 h1'.1 h1'.2
     obtain ⟨h3a, h3b⟩ := h3
     clear h h1 h1'
     go_enter Tryz.func51, Tryz.ntmps51
     go_wp2_with (go_at_call 63; refine (l1In_any _ _ _ _).mono ?_; rintro e w1 ⟨rfl, rfl⟩)
     exact bodyPost_ret (v := .agg #[.int .i64 0, .int .i64 0, .slice none 0 0]) (by simp [results, Tryz.results51, go_sem]) rfl ⟨rfl, below1 _ _⟩
   · rw [Bool.not_eq_true] at hb
     clear h
     go_enter Tryz.func51, Tryz.ntmps51
     go_wp2_with (go_at_call 63; refine (l1In_any _ _ _ _).mono ?_; rintro e w1 ⟨rfl, rfl⟩)
     exact bodyPost_ret (v := .agg #[.int .i64 0, .int .i64 0, .slice none 0 0]) (by simp [results, Tryz.results51, go_sem]) rfl ⟨rfl, below1 _ _⟩
 · rw [Bool.not_eq_true] at ha
   clear h
   go_enter Tryz.func51, Tryz.ntmps51
   go_wp2_with (go_at_call 63; refine (l1In_any _ _ _ _).mono ?_; rintro e w1 ⟨rfl, rfl⟩)
   exact bodyPost_ret (v := .agg #[.int .i64 0, .int .i64 0, .slice none 0 0]) (by simp [results, Tryz.results51, go_sem]) rfl ⟨rfl, below1 _ _⟩

theorem boxB_ins {W T : Int} (h : boxB W T = true) : inB W 1 6 = true ∧ inB T 1 6 = true := by
 obtain ⟨_, _, a, b, c, d, _, _⟩ := boxB_yes h
 simp [inB]; omega

set_option maxHeartbeats 1000000 in
theorem sRegionBox_yes (W T : Int) (N : Nat) (w : World) (h : boxB W T = true) (hN : W * T = N) :
 Calls Tryz.prog 51 #[.int .i64 W, .int .i64 T] w fun e w' => ∃ g c, e = .returned (.agg #[.int .i64 W, .int .i64 T, .slice (some ⟨g, 0, none⟩) N c]) ∧ OwnsB w' (w.heap.size + 2) (.slice (some ⟨g, 0, none⟩) N c) (List.replicate N true) ∧ Below w.heap.size w w' := by
 obtain ⟨i0, hi, hz0, hz1, hz2⟩ := info_parts infoBool
 obtain ⟨hs, hm, hW0, hW1, hT0, hT1, hm0, hm1⟩ := boxB_yes h
 obtain ⟨ha, hb⟩ := boxB_ins h
 clear h
 have hm' : ¬ 24 < W * T := by simpa using hm
 have hN24 : N ≤ 24 := by omega
 have HNN := Lib.hid hN; clear hN
 go_enter Tryz.func51, Tryz.ntmps51
 go_wp2_with (first
  | (go_at_call 63; refine (l1In_any _ _ _ _).mono ?_; rintro e w1 ⟨rfl, rfl⟩))
 go_loopw [6] (fun i wr => ∃ (k : Nat) (v : Value), k ≤ N ∧ i = .int .i64 k ∧ OwnsB wr (w.heap.size + 2) v (List.replicate k true) ∧ wr.heap[w.heap.size]? = some (.cells #[.int .i64 0, .int .i64 0, .slice none 0 0] 25 (0, 0)) ∧ wr.heap[w.heap.size + 1]? = some (.cells #[.int .i64 W, .int .i64 T, v] 25 (0, 0)) ∧ Below w.heap.size w wr) (fun i _ => N - (intOf i).toNat)
 case atStart => exact ⟨0, _, Nat.zero_le _, rfl, OwnsB.nil _ _, heap_later (heap_new w _) (below1 _ _), by simpa using heap_new (w.alloc _) _, below2 _ _ _⟩
 case round =>
  obtain ⟨k, v, hk, rfl, hown, h5, h6, hbel⟩ := hrel
  obtain ⟨c0, c1, c2⟩ := cells3 h6
  have hlw := heap_lt h6
  have HO := Lib.hid hown; clear hown
  by_cases hlt : k < N
  · have hlt' : (k : Int) < W * T := by have := HNN.out; omega
    go_wp2_with (at_builtin; refine wpList_append_own _ rfl _ _ 23 rfl (w.heap.size + 2) 4 i0 (.bool false) 1 1 Tryz.underlying23 hi hz0 hz1 hz2 rfl (by decide) v k ((List.replicate k true).map Value.bool) rfl ((HO.out.alloc _).row (by simp)) ⟨wr.heap.size, 0, none⟩ 1 1 [.bool true] rfl rfl (new_bool _ _) (one_bool _) (by unfold maxLen; omega) (by omega) (by simp; omega) ?_; intro v' w1 hown' hgrow _; obtain ⟨g', cap', rfl⟩ := form_pos hown' (by omega); have p5 := heap_grown (heap_later h5 (below1 _ _)) hgrow (HO.out.ownBlock (by omega)); have p6 := heap_grown (heap_later h6 (below1 _ _)) hgrow (HO.out.ownBlock (by omega)); obtain ⟨d0, d1, d2⟩ := cells3 p6; have e2 := free3 p6 2; have HN' := Lib.hid hown'; clear hown')
    go_roundw
    case rel => exact ⟨k + 1, _, by omega, by go_num, (OwnsB.ofRow HN'.out (rep_snoc _ _) (by simp)).setBelow (by simp) _, heap_set_other p5 (by simp) _, by simpa using block_setCell p6 (i := 2) _, (grown_tail hbel hgrow (by omega) (HO.out.ownAt (by omega))).setCell (by simp) _⟩
    case measure => simp [intOf]; omega
  · obtain rfl : k = N := by omega
    have hge : ¬ (k : Int) < W * T := by have := HNN.out; omega
    obtain ⟨g, cap, rfl⟩ := form_pos (HO.out.row (n := k) (by simp)) (by have := HNN.out; omega)
    obtain ⟨d0, d1, d2⟩ := cells3 h5
    have e0 := free3 h5 0
    have e1 := free3 h5 1
    have e2 := free3 h5 2
    go_wp2
    refine bodyPost_ret (v := .agg #[.int .i64 W, .int .i64 T, .slice (some ⟨g, 0, none⟩) k cap]) (by simp [results, Tryz.results51, go_sem, d0, d1, d2]) rfl ⟨_, _, rfl, ?_, ?_⟩
    · exact HO.out.set3 (by omega) _ _ _
    · exact below_set3 hbel (Nat.le_refl _) _ _ _
end Go.Proofs.YtpcajacekmidbaaGreat

namespace Go.Proofs.YtpcajacekmidbaaGreat
open Go.RowKit
set_option linter.unusedVariables false
set_option maxRecDepth 100000
set_option linter.unusedSimpArgs false

def RetReg (w : World) (W T : Int) (n : Nat) (xs : List Bool) (e : Ending) (w' : World) : Prop :=
 ∃ (a : Option Addr) (cap : Nat), e = .returned (.agg #[.int .i64 W, .int .i64 T, .slice a n cap]) ∧ OwnsB w' w.heap.size (.slice a n cap) xs ∧ Below w.heap.size w w'

def boxF (W T : Int) : Int × Int × List Bool := if boxB W T then (W, T, List.replicate (W * T).toNat true) else (0, 0, [])
theorem boxF_len (W T : Int) : (boxF W T).2.2.length ≤ 24 := by
 unfold boxF
 split
 · next h => have := boxB_yes h; simp; omega
 · simp

theorem sRegionBox_ret (W T : Int) (w : World) : Calls Tryz.prog 51 #[.int .i64 W, .int .i64 T] w (RetReg w (boxF W T).1 (boxF W T).2.1 (boxF W T).2.2.length (boxF W T).2.2) := by
 by_cases h : boxB W T = true
 · have hb := boxB_yes h
   refine (sRegionBox_yes W T (W * T).toNat w h (by omega)).mono ?_
   rintro e w' ⟨g, c, rfl, ho, hb⟩
   unfold boxF; rw [if_pos h]
   simp only [List.length_replicate]
   exact ⟨_, _, rfl, ho.lower (by omega), hb⟩
 · rw [Bool.not_eq_true] at h
   refine (sRegionBox_no W T w h).mono ?_
   rintro e w' ⟨rfl, hb⟩
   unfold boxF; rw [h]
   exact ⟨_, _, rfl, OwnsB.nil _ _, hb⟩

end Go.Proofs.YtpcajacekmidbaaGreat

namespace Go.Proofs.YtpcajacekmidbaaGreat
open Go.RowKit
set_option linter.unusedVariables false
set_option maxRecDepth 100000
set_option linter.unusedSimpArgs false

def inF (W T x y : Int) : Bool := decide (0 ≤ x ∧ x < W ∧ 0 ≤ y ∧ y < T)
def atB (W T : Int) (xs : List Bool) (x y : Int) : Bool := inF W T x y && xs.getD (y * W + x).toNat false

theorem idx_bd {W T x y : Int} (hx0 : 0 ≤ x) (hx1 : x < W) (hy0 : 0 ≤ y) (hy1 : y < T) : 0 ≤ y * W ∧ 0 ≤ y * W + x ∧ y * W + x < W * T := by
 have h1 : 0 ≤ y * W := Int.mul_nonneg hy0 (by omega)
 have h2 : y * W ≤ (T - 1) * W := Int.mul_le_mul_of_nonneg_right (by omega) (by omega)
 have h3 : (T - 1) * W = W * T - W := by rw [Int.sub_mul, Int.mul_comm T W]; omega
 omega

theorem prod_bd {W T : Int} (h0 : 0 ≤ W) (h1 : W ≤ 100) (h2 : 0 ≤ T) (h3 : T ≤ 100) : 0 ≤ W * T ∧ W * T ≤ 10000 := by
 have a : 0 ≤ W * T := Int.mul_nonneg h0 h2
 have b : W * T ≤ 100 * T := Int.mul_le_mul_of_nonneg_right h1 h2
 omega

theorem cellAt_any (W T x y : Int) (sv : Value) (a : Option Addr) (n cap : Nat) (w : World) (hx0 : 0 ≤ x) (hx1 : x ≤ 1000) (hy0 : 0 ≤ y * W) (hy1 : y * W ≤ 100000) :
 Calls Tryz.prog 107 #[.agg #[.int .i64 W, .int .i64 T, .slice a n cap], .int .i64 x, .int .i64 y] w fun e w' => e = .returned (.int .i64 (y * W + x)) ∧ Below w.heap.size w w' := by
 go_enter Tryz.func107, Tryz.ntmps107
 go_wp2
 go_ret
 exact ⟨rfl, below1 _ _⟩

set_option maxHeartbeats 1000000 in
theorem l1At_any (W T x y : Int) (a : Option Addr) (n cap : Nat) (xs : List Bool) (w : World) (hn : n = xs.length) (hW0 : 0 ≤ W) (hW1 : W ≤ 100) (hT0 : 0 ≤ T) (hT1 : T ≤ 100) (hWT : (n : Int) = W * T) (ha : BoolsAt w a xs) :
 Calls Tryz.prog 64 #[.agg #[.int .i64 W, .int .i64 T, .slice a n cap], .int .i64 x, .int .i64 y] w fun e w' => e = .returned (.bool (atB W T xs x y)) ∧ Below w.heap.size w w' := by
 have HN := Lib.hid hn; clear hn
 have HA := Lib.hid ha; clear ha
 have HWT := Lib.hid hWT; clear hWT
 by_cases h1 : inB x 0 (W - 1) = true
 · by_cases h2 : inB y 0 (T - 1) = true
   · have ⟨h1a, h1b⟩ : 0 ≤ x ∧ x ≤ W - 1 := by simpa [inB] using h1
     have ⟨h2a, h2b⟩ : 0 ≤ y ∧ y ≤ T - 1 := by simpa [inB] using h2
     obtain ⟨i0, i1, i2⟩ := idx_bd (W := W) (T := T) h1a (by omega) h2a (by omega)
     have pb := (prod_bd hW0 hW1 hT0 hT1).2
     have i3 : y * W + x < n := by rw [HWT.out]; exact i2
     obtain ⟨b, off, rfl, hc⟩ := HA.out (y * W + x).toNat (by rw [← HN.out]; omega)
     have hin : Hid (inF W T x y = true) := by show inF W T x y = true; simp [inF]; omega
     have hl := World.block_lt_of_cell? w _ hc
     simp only at hl
     go_enter Tryz.func64, Tryz.ntmps64
     go_wp2_with (first
      | (go_at_call 63; refine (l1In_any _ _ _ _).mono ?_; rintro e w1 ⟨rfl, rfl⟩))
     go_ret
     exact ⟨ret_bool (by unfold atB; rw [hin.out]; rfl), below1 _ _⟩
   · rw [Bool.not_eq_true] at h2
     have hin : Hid (inF W T x y = false) := by show inF W T x y = false; simp [inB] at h2; simp [inF]; omega
     go_enter Tryz.func64, Tryz.ntmps64
     go_wp2_with (first
      | (go_at_call 63; refine (l1In_any _ _ _ _).mono ?_; rintro e w1 ⟨rfl, rfl⟩))
     go_ret
     exact ⟨ret_bool (by unfold atB; rw [hin.out]; rfl), below1 _ _⟩
 · rw [Bool.not_eq_true] at h1
   have hin : Hid (inF W T x y = false) := by show inF W T x y = false; simp [inB] at h1; simp [inF]; omega
   go_enter Tryz.func64, Tryz.ntmps64
   go_wp2_with (first
    | (go_at_call 63; refine (l1In_any _ _ _ _).mono ?_; rintro e w1 ⟨rfl, rfl⟩))
   go_ret
   exact ⟨ret_bool (by unfold atB; rw [hin.out]; rfl), below1 _ _⟩

theorem inField_any (W T x y : Int) (sl : Value) (w : World) :
 Calls Tryz.prog 106 #[.agg #[.int .i64 W, .int .i64 T, sl], .int .i64 x, .int .i64 y] w fun e w' => e = .returned (.bool (inF W T x y)) ∧ Below w.heap.size w w' := by
 by_cases h1 : 0 ≤ x
 · by_cases h2 : x < W
   · by_cases h3 : 0 ≤ y
     · by_cases h4 : y < T
       all_goals
        go_enter Tryz.func106, Tryz.ntmps106
        go_wp2
        go_ret
        exact ⟨ret_bool (by simp [inF]; omega), below1 _ _⟩
     · go_enter Tryz.func106, Tryz.ntmps106
       go_wp2
       go_ret
       exact ⟨ret_bool (by simp [inF]; omega), below1 _ _⟩
   · go_enter Tryz.func106, Tryz.ntmps106
     go_wp2
     go_ret
     exact ⟨ret_bool (by simp [inF]; omega), below1 _ _⟩
 · go_enter Tryz.func106, Tryz.ntmps106
   go_wp2
   go_ret
   exact ⟨ret_bool (by simp [inF]; omega), below1 _ _⟩

theorem inField_is (W T x y : Int) (sl : Value) (w : World) {v : Bool} (h : inF W T x y = v) :
 Calls Tryz.prog 106 #[.agg #[.int .i64 W, .int .i64 T, sl], .int .i64 x, .int .i64 y] w fun e w' => e = .returned (.bool v) ∧ Below w.heap.size w w' := by
 subst h; exact inField_any W T x y sl w

set_option maxHeartbeats 1000000 in
theorem hasCell_any (W T x y : Int) (a : Option Addr) (n cap : Nat) (xs : List Bool) (w : World) (hn : n = xs.length) (hW0 : 0 ≤ W) (hW1 : W ≤ 100) (hT0 : 0 ≤ T) (hT1 : T ≤ 100) (hWT : (n : Int) = W * T) (ha : BoolsAt w a xs) :
 Calls Tryz.prog 110 #[.agg #[.int .i64 W, .int .i64 T, .slice a n cap], .int .i64 x, .int .i64 y] w fun e w' => e = .returned (.bool (atB W T xs x y)) ∧ Below w.heap.size w w' := by
 have HN := Lib.hid hn; clear hn
 have HA := Lib.hid ha; clear ha
 have HWT := Lib.hid hWT; clear hWT
 by_cases hin : inF W T x y = true
 · have ⟨h1, h2, h3, h4⟩ : 0 ≤ x ∧ x < W ∧ 0 ≤ y ∧ y < T := by simpa [inF] using hin
   obtain ⟨i0, i1, i2⟩ := idx_bd (W := W) (T := T) (x := x) (y := y) (by omega) (by omega) (by omega) (by omega)
   have pb := (prod_bd hW0 hW1 hT0 hT1).2
   have i3 : y * W + x < n := by rw [HWT.out]; exact i2
   obtain ⟨b, off, rfl, hc⟩ := HA.out (y * W + x).toNat (by rw [← HN.out]; omega)
   have hl := World.block_lt_of_cell? w _ hc
   simp only at hl
   go_enter Tryz.func110, Tryz.ntmps110
   go_wp2_with fail
   obtain ⟨wA, hwA⟩ : ∃ wA, wA = w.alloc (.cells #[.int .i64 W, .int .i64 T, .slice (some ⟨b, off, none⟩) n cap] 25) := ⟨_, rfl⟩
   have pA : wA.heap[w.heap.size]? = some (.cells #[.int .i64 W, .int .i64 T, .slice (some ⟨b, off, none⟩) n cap] 25 (0, 0)) := by rw [hwA]; exact heap_new _ _
   have bA : Below w.heap.size w wA := by rw [hwA]; exact below1 _ _
   have cA : wA.cell? ⟨b, off + (y * W + x).toNat, none⟩ = some (.bool (xs.getD (y * W + x).toNat false)) := (bA.cell (p := ⟨b, _, none⟩) hl).trans hc
   rw [← hwA]
   clear hwA hc
   obtain ⟨d0, d1, d2⟩ := cells3 pA
   have lA := heap_lt pA
   go_region_held3 (fun w' => w'.cell? ⟨w.heap.size, 0, none⟩ = some (.int .i64 W) ∧ w'.cell? ⟨w.heap.size, 1, none⟩ = some (.int .i64 T) ∧ w'.cell? ⟨w.heap.size, 2, none⟩ = some (.slice (some ⟨b, off, none⟩) n cap) ∧ w'.cell? ⟨b, off + (y * W + x).toNat, none⟩ = some (.bool (xs.getD (y * W + x).toNat false)))
    (go_keep)
    (first
      | (go_at_call 106; refine (inField_is _ _ _ _ _ _ hin).mono ?_; rintro e w5 ⟨rfl, hb5⟩; have p5 := heap_later (show (World.drew wA).heap[w.heap.size]? = some _ from pA) hb5; obtain ⟨c50, c51, c52⟩ := cells3 p5; have k5 := cell_later hb5 (show (World.drew wA).cell? _ = some _ from cA))
      | (go_at_call 107; refine (cellAt_any _ _ _ _ (.bool false) _ _ _ _ (by omega) (by omega) (by omega) (by omega)).mono ?_; rintro e w6 ⟨rfl, hb6⟩; have p6 := heap_later p5 hb6; obtain ⟨c60, c61, c62⟩ := cells3 p6; have k6 := cell_later hb6 k5))
   go_wp2
   go_ret
   exact ⟨ret_bool (by unfold atB; rw [hin]; simp), below_seq bA (below_seq (drew_below _) (below_seq hb5 hb6))⟩
 · rw [Bool.not_eq_true] at hin
   go_enter Tryz.func110, Tryz.ntmps110
   go_wp2_with fail
   obtain ⟨wA, hwA⟩ : ∃ wA, wA = w.alloc (.cells #[.int .i64 W, .int .i64 T, .slice a n cap] 25) := ⟨_, rfl⟩
   have pA : wA.heap[w.heap.size]? = some (.cells #[.int .i64 W, .int .i64 T, .slice a n cap] 25 (0, 0)) := by rw [hwA]; exact heap_new _ _
   have bA : Below w.heap.size w wA := by rw [hwA]; exact below1 _ _
   rw [← hwA]
   clear hwA
   obtain ⟨d0, d1, d2⟩ := cells3 pA
   have lA := heap_lt pA
   refine wp_region_held_drew (S := fun w' => w'.cell? ⟨w.heap.size, 0, none⟩ = some (.int .i64 W) ∧ w'.cell? ⟨w.heap.size, 1, none⟩ = some (.int .i64 T) ∧ w'.cell? ⟨w.heap.size, 2, none⟩ = some (.slice a n cap)) (by kernel_rfl) ⟨d0, d1, d2⟩ (fun hHeld => ?_)
   refine wpAnyH_take (i := 0) (oi := ⟨some 7, _, _, _, _, _⟩) (v := ?_) rfl (by kernel_rfl) (by kernel_rfl) (by kernel_rfl) (fun _ _ _ h => h) (Or.inl ⟨by rfl, ?_⟩) (by assumption) ?_
   rotate_left
   · intro w hSw; go_simp; try (with_reducible rfl)
   try simp only [Act.put, List.setIfInBounds_toArray, List.set_cons_zero, List.set_cons_succ]
   refine wpAnyH_take (i := 1) (oi := ⟨some 8, _, _, _, _, _⟩) (v := ?_) rfl (by kernel_rfl) (by kernel_rfl) (by kernel_rfl) (fun _ _ _ h => h) (Or.inl ⟨by rfl, ?_⟩) (by assumption) ?_
   rotate_left
   · intro w hSw; go_simp; try (with_reducible rfl)
   try simp only [Act.put, List.setIfInBounds_toArray, List.set_cons_zero, List.set_cons_succ]
   refine wpAnyH_take (i := 2) (oi := ⟨some 9, _, _, _, _, _⟩) (v := ?_) rfl (by kernel_rfl) (by kernel_rfl) (by kernel_rfl) (fun _ _ _ h => h) (Or.inl ⟨by rfl, ?_⟩) (by assumption) ?_
   rotate_left
   · intro w hSw; go_simp; try (with_reducible rfl)
   try simp only [Act.put, List.setIfInBounds_toArray, List.set_cons_zero, List.set_cons_succ]
   refine wpAnyH_ready (rs := [3]) (by kernel_rfl) (by simp) ?_
   refine AllReadyH.cons rfl (fun K hK => ?_) AllReadyH.nil
   go_simp
   refine (inField_is _ _ _ _ _ _ hin).mono ?_; rintro e w5 ⟨rfl, hb5⟩; have p5 := heap_later (show (World.drew wA).heap[w.heap.size]? = some _ from pA) hb5; obtain ⟨c50, c51, c52⟩ := cells3 p5
   refine hK.out _ _ ⟨c50, c51, c52⟩ (fun hHeld => ?_)
   clear hK K
   try simp only [Act.put, List.setIfInBounds_toArray, List.set_cons_zero, List.set_cons_succ]
   refine wpAnyH_take (i := 4) (oi := ⟨some 11, _, _, _, _, _⟩) (v := ?_) rfl (by kernel_rfl) (by kernel_rfl) (by kernel_rfl) (fun _ _ _ h => h) (Or.inl ⟨by rfl, ?_⟩) (by assumption) ?_
   rotate_left
   · intro w hSw; go_simp; try (with_reducible rfl)
   try simp only [Act.put, List.setIfInBounds_toArray, List.set_cons_zero, List.set_cons_succ]
   refine wpAnyH_take (i := 5) (oi := ⟨some 12, _, _, _, _, _⟩) (v := undef) rfl (by kernel_rfl) (by kernel_rfl) (by kernel_rfl) (fun _ _ _ h => h) (Or.inr ⟨by kernel_rfl, rfl⟩) (by assumption) ?_
   try simp only [Act.put, List.setIfInBounds_toArray, List.set_cons_zero, List.set_cons_succ]
   refine wpAnyH_take (i := 6) (oi := ⟨some 13, _, _, _, _, _⟩) (v := undef) rfl (by kernel_rfl) (by kernel_rfl) (by kernel_rfl) (fun _ _ _ h => h) (Or.inr ⟨by kernel_rfl, rfl⟩) (by assumption) ?_
   try simp only [Act.put, List.setIfInBounds_toArray, List.set_cons_zero, List.set_cons_succ]
   refine wpAnyH_take (i := 7) (oi := ⟨some 14, _, _, _, _, _⟩) (v := undef) rfl (by kernel_rfl) (by kernel_rfl) (by kernel_rfl) (fun _ _ _ h => h) (Or.inr ⟨by kernel_rfl, rfl⟩) (by assumption) ?_
   try simp only [Act.put, List.setIfInBounds_toArray, List.set_cons_zero, List.set_cons_succ]
   refine wpAnyH_take (i := 8) (oi := ⟨some 15, _, _, _, _, _⟩) (v := undef) rfl (by kernel_rfl) (by kernel_rfl) (by kernel_rfl) (fun _ _ _ h => h) (Or.inr ⟨by kernel_rfl, rfl⟩) (by assumption) ?_
   try simp only [Act.put, List.setIfInBounds_toArray, List.set_cons_zero, List.set_cons_succ]
   refine wpAnyH_take (i := 9) (oi := ⟨some 16, _, _, _, _, _⟩) (v := undef) rfl (by kernel_rfl) (by kernel_rfl) (by kernel_rfl) (fun _ _ _ h => h) (Or.inr ⟨by kernel_rfl, rfl⟩) (by assumption) ?_
   try simp only [Act.put, List.setIfInBounds_toArray, List.set_cons_zero, List.set_cons_succ]
   refine wpAnyH_take (i := 10) (oi := ⟨some 17, _, _, _, _, _⟩) (v := undef) rfl (by kernel_rfl) (by kernel_rfl) (by kernel_rfl) (fun _ _ _ h => h) (Or.inr ⟨by kernel_rfl, rfl⟩) (by assumption) ?_
   try simp only [Act.put, List.setIfInBounds_toArray, List.set_cons_zero, List.set_cons_succ]
   refine wpAnyH_take (i := 11) (oi := ⟨some 18, _, _, _, _, _⟩) (v := undef) rfl (by kernel_rfl) (by kernel_rfl) (by kernel_rfl) (fun _ _ _ h => h) (Or.inr ⟨by kernel_rfl, rfl⟩) (by assumption) ?_
   try simp only [Act.put, List.setIfInBounds_toArray, List.set_cons_zero, List.set_cons_succ]
   refine wpAnyH_take (i := 12) (oi := ⟨some 19, _, _, _, _, _⟩) (v := undef) rfl (by kernel_rfl) (by kernel_rfl) (by kernel_rfl) (fun _ _ _ h => h) (Or.inr ⟨by kernel_rfl, rfl⟩) (by assumption) ?_
   try simp only [Act.put, List.setIfInBounds_toArray, List.set_cons_zero, List.set_cons_succ]
   refine wpAnyH_take (i := 13) (oi := ⟨some 20, _, _, _, _, _⟩) (v := ?_) rfl (by kernel_rfl) (by kernel_rfl) (by kernel_rfl) (fun _ _ _ h => h) (Or.inl ⟨by rfl, ?_⟩) (by assumption) ?_
   rotate_left
   · intro w hSw; go_simp; try (with_reducible rfl)
   try simp only [Act.put, List.setIfInBounds_toArray, List.set_cons_zero, List.set_cons_succ]
   refine wpAnyH_take (i := 14) (oi := ⟨some 6, _, _, _, _, _⟩) (v := ?_) rfl (by kernel_rfl) (by kernel_rfl) (by kernel_rfl) (fun _ _ _ h => h) (Or.inl ⟨by rfl, ?_⟩) (by assumption) ?_
   rotate_left
   · intro w hSw; go_simp; try (with_reducible rfl)
   try simp only [Act.put, List.setIfInBounds_toArray, List.set_cons_zero, List.set_cons_succ]
   refine wpAnyH_done (by kernel_rfl) ?_ _
   go_wp2
   go_ret
   exact ⟨ret_bool (by unfold atB; rw [hin]; rfl), below_seq bA (below_seq (drew_below _) hb5)⟩

theorem rv_true {W T : Int} {xs : List Bool} (h : rv W T xs = true) : 1 ≤ W ∧ W ≤ 6 ∧ 1 ≤ T ∧ T ≤ 6 ∧ (xs.length : Int) = W * T ∧ cnt xs ≤ 24 := by simpa [rv] using h

end Go.Proofs.YtpcajacekmidbaaGreat

namespace Go.Proofs.YtpcajacekmidbaaGreat
open Go.RowKit
set_option linter.unusedVariables false
set_option maxRecDepth 100000
set_option linter.unusedSimpArgs false

def many (W T : Int) (xs : List Bool) : Int := if rv W T xs then cnt xs else -1

set_option maxHeartbeats 1000000 in
theorem iCellsMany_any (W T : Int) (a : Option Addr) (n cap : Nat) (xs : List Bool) (w : World) (hn : n = xs.length) (hn' : n ≤ 1048576) (ha : BoolsAt w a xs) :
 Calls Tryz.prog 34 #[.agg #[.int .i64 W, .int .i64 T, .slice a n cap]] w fun e w' => e = .returned (.int .i64 (many W T xs)) ∧ Below w.heap.size w w' := by
 have HN := Lib.hid hn; clear hn
 have HA := Lib.hid ha; clear ha
 by_cases h : rv W T xs = true
 · go_enter Tryz.func34, Tryz.ntmps34
   go_wp2_with fail
   refine (iRegionValid_any _ _ _ _ _ xs _ HN.out hn' (HA.out.one _)).mono ?_; rintro e w1 ⟨rfl, hb1⟩
   have p1 := heap_later (heap_new w _) hb1
   have b1 := below_seq (below1 _ _) hb1
   obtain ⟨c0, c1, c2⟩ := cells3 p1
   go_wp2_with fail
   refine (cellsIn_any _ _ _ _ _ xs _ HN.out hn' (HA.out.below b1)).mono ?_; rintro e w2 ⟨rfl, hb2⟩
   go_wp2
   go_ret
   exact ⟨ret_int (by unfold many; rw [if_pos h]), below_seq b1 hb2⟩
 · rw [Bool.not_eq_true] at h
   go_enter Tryz.func34, Tryz.ntmps34
   go_wp2_with fail
   refine (iRegionValid_any _ _ _ _ _ xs _ HN.out hn' (HA.out.one _)).mono ?_; rintro e w1 ⟨rfl, hb1⟩
   go_wp2
   go_ret
   exact ⟨ret_int (by unfold many; rw [h]; rfl), below_seq (below1 _ _) hb1⟩

end Go.Proofs.YtpcajacekmidbaaGreat

namespace Go.Proofs.YtpcajacekmidbaaGreat
open Go.RowKit
set_option linter.unusedVariables false
set_option maxRecDepth 100000
set_option linter.unusedSimpArgs false

def dkAt (W : Int) (k : Nat) : Bool := ((k : Int) % W + (k : Int) / W) % 2 == 0
def dkN (W : Int) (xs : List Bool) (k : Nat) : Nat := (List.range k).countP fun i => xs.getD i false && dkAt W i
def dark (W T : Int) (xs : List Bool) : Int := if rv W T xs then dkN W xs xs.length else -1

theorem divmod_bd {W : Int} {k : Nat} (h : 1 ≤ W) : 0 ≤ (k : Int) % W ∧ (k : Int) % W < W ∧ 0 ≤ (k : Int) / W ∧ (k : Int) / W ≤ k :=
 ⟨Int.emod_nonneg _ (by omega), Int.emod_lt_of_pos _ (by omega), Int.ediv_nonneg (by omega) (by omega), Int.ediv_le_self _ (by omega)⟩

end Go.Proofs.YtpcajacekmidbaaGreat

namespace Go.Proofs.YtpcajacekmidbaaGreat
open Go.RowKit
set_option linter.unusedVariables false
set_option maxRecDepth 100000
set_option linter.unusedSimpArgs false

def IntsAt (w : World) (a : Option Addr) (xs : List Int) : Prop :=
 ∀ i, i < xs.length → ∃ b off, a = some ⟨b, off, none⟩ ∧ w.cell? ⟨b, off + i, none⟩ = some (.int .i64 (xs.getD i 0))

theorem IntsAt.later {w w' : World} {B : Nat} {a : Option Addr} {xs : List Int} (h : IntsAt w a xs) (hb : Below B w w') (hB : w.heap.size ≤ B) : IntsAt w' a xs := by
 intro i hi
 obtain ⟨b, off, rfl, hc⟩ := h i hi
 refine ⟨b, off, rfl, ?_⟩
 have hbl := World.block_lt_of_cell? w _ hc
 exact (hb.cell (p := ⟨b, off + i, none⟩) (Nat.lt_of_lt_of_le hbl hB)).trans hc

theorem IntsAt.one {w : World} {a : Option Addr} {xs : List Int} (h : IntsAt w a xs) (o1 : Obj) : IntsAt (w.alloc o1) a xs := h.later (below1 w o1) (Nat.le_refl _)

theorem IntsAt.two {w : World} {a : Option Addr} {xs : List Int} (h : IntsAt w a xs) (o1 o2 : Obj) : IntsAt ((w.alloc o1).alloc o2) a xs := h.later (below2 w o1 o2) (Nat.le_refl _)

theorem IntsAt.drewN {w : World} {a : Option Addr} {xs : List Int} (h : IntsAt w a xs) (k : Nat) : IntsAt (w.drewN k) a xs := h

theorem IntsAt.below {w w' : World} {a : Option Addr} {xs : List Int} (h : IntsAt w a xs) (hb : Below w.heap.size w w') : IntsAt w' a xs := h.later hb (Nat.le_refl _)

def OwnsI (w : World) (B : Nat) (v : Value) (xs : List Int) : Prop := w.ownsRow B 3 1 v xs.length (xs.map (Value.int .i64))

theorem infoInt : (Tryz.prog.info? 3).map (fun i => (i.zero, i.size, i.bytes)) = some (some (.int .i64 0), 1, 8) := by kernel_rfl

theorem OwnsI.lower {w : World} {B B' : Nat} {v : Value} {xs : List Int} (h : OwnsI w B v xs) (hB : B' ≤ B) : OwnsI w B' v xs :=
 ⟨h.1, h.2.elim Or.inl (fun ⟨g, cap, cur, hv, hg, r⟩ => Or.inr ⟨g, cap, cur, hv, Nat.le_trans hB hg, r⟩)⟩

theorem OwnsI.setBelow {w : World} {B : Nat} {v : Value} {xs : List Int} (h : OwnsI w B v xs) {p : Addr} (hp : p.block < B) (u : Value) : OwnsI (w.setCell p u) B v xs :=
 ownsRow_setCell_below h hp u

theorem OwnsI.at {w : World} {B : Nat} {a : Option Addr} {n cap : Nat} {xs : List Int} (h : OwnsI w B (.slice a n cap) xs) : IntsAt w a xs := by
 intro i hi
 rcases h.2 with ⟨_, h0⟩ | ⟨g, cap', cur, hv, _⟩
 · omega
 · simp only [Value.slice.injEq] at hv
   obtain ⟨rfl, rfl, rfl⟩ := hv
   refine ⟨g, 0, rfl, ?_⟩
   rw [Nat.zero_add, World.ownsRow.cellAt (xs := xs.map (Value.int .i64)) h i (by omega)]
   simp [hi]

theorem OwnsI.nil (w : World) (B : Nat) : OwnsI w B (.slice none 0 0) [] := World.ownsRow_nil _ _ _ _

theorem OwnsI.below {w w' : World} {B : Nat} {v : Value} {xs : List Int} (h : OwnsI w B v xs) (hb : Below w.heap.size w w') : OwnsI w' B v xs := by
 refine ⟨h.1, ?_⟩
 rcases h.2 with h2 | ⟨g, cap, cur, hv, hg, hh, r⟩
 · exact Or.inl h2
 · exact Or.inr ⟨g, cap, cur, hv, hg, heap_later hh hb, r⟩

theorem OwnsI.forms {w : World} {B : Nat} {v : Value} {xs : List Int} (h : OwnsI w B v xs) : (v = .slice none 0 0 ∧ xs = []) ∨ ∃ g cap, v = .slice (some ⟨g, 0, none⟩) xs.length cap ∧ B ≤ g ∧ g < w.heap.size := by
 rcases h.2 with ⟨h1, h2⟩ | ⟨g, cap, cur, hv, hg, hh, _⟩
 · exact Or.inl ⟨h1, List.length_eq_zero_iff.1 h2⟩
 · exact Or.inr ⟨g, cap, hv, hg, heap_lt hh⟩

theorem OwnsI.keptBy {w w' : World} {B : Nat} {v : Value} {xs : List Int} {row : Option Nat} (h : OwnsI w B v xs) (hg : w.grownBy w' row) (hr : ∀ k, row = some k → k < B) : OwnsI w' B v xs := by
 refine ⟨h.1, ?_⟩
 rcases h.2 with h2 | ⟨g, cap, cur, hv, hgB, hh, r⟩
 · exact Or.inl h2
 · refine Or.inr ⟨g, cap, cur, hv, hgB, ?_, r⟩
   rw [hg.block g (heap_lt hh) (fun e => by have := hr g e.symm; omega)]; exact hh

def tabI (N : Nat) (f : Nat → Int) : List Int := (List.range N).map f

theorem tabI_len (N : Nat) (f : Nat → Int) : (tabI N f).length = N := by simp [tabI]

theorem tabI_congr {N : Nat} {f g : Nat → Int} (h : ∀ i, i < N → f i = g i) : tabI N f = tabI N g := by
 unfold tabI; exact List.map_congr_left fun i hi => h i (List.mem_range.1 hi)

theorem tabI_set (N : Nat) (f : Nat → Int) (k : Nat) (v : Int) : (tabI N f).set k v = tabI N fun i => if i = k then v else f i := by
 apply List.ext_getElem
 · simp [tabI]
 · intro i h1 h2
   simp only [tabI, List.getElem_set, List.getElem_map, List.getElem_range]
   by_cases e : k = i
   · subst e; simp
   · simp [e, show ¬ i = k from fun h => e h.symm]

theorem tabI_of (xs : List Int) : tabI xs.length (fun i => xs.getD i 0) = xs := by
 apply List.ext_getElem
 · simp [tabI]
 · intro i h1 h2; simp [tabI, h2]

def RowI (w : World) (B g N cap : Nat) (f : Nat → Int) : Prop := w.ownsRow B 3 1 (.slice (some ⟨g, 0, none⟩) N cap) N ((tabI N f).map (Value.int .i64))

theorem RowI.of {w : World} {B g N cap : Nat} {xs : List Int} (h : OwnsI w B (.slice (some ⟨g, 0, none⟩) N cap) xs) (hN : N = xs.length) : RowI w B g N cap (fun i => xs.getD i 0) := by
 unfold RowI; subst hN; rw [tabI_of]; exact h

theorem RowI.owns {w : World} {B g N cap : Nat} {f : Nat → Int} (h : RowI w B g N cap f) : OwnsI w B (.slice (some ⟨g, 0, none⟩) N cap) (tabI N f) := by
 unfold OwnsI; rw [tabI_len]; exact h

theorem RowI.cell {w : World} {B g N cap : Nat} {f : Nat → Int} (h : RowI w B g N cap f) {k : Nat} (hk : k < N) : w.cell? ⟨g, k, none⟩ = some (.int .i64 (f k)) := by
 rw [World.ownsRow.cellAt h k (by omega)]; simp [tabI, hk]

theorem RowI.free {w : World} {B g N cap : Nat} {f : Nat → Int} (h : RowI w B g N cap f) (k : Nat) : w.frozen? ⟨g, k, none⟩ = false := World.ownsRow.frozenAt h k

theorem RowI.set {w : World} {B g N cap : Nat} {f : Nat → Int} (h : RowI w B g N cap f) (k : Nat) (v : Int) :
 RowI (w.setCell ⟨g, k, none⟩ (.int .i64 v)) B g N cap (fun i => if i = k then v else f i) ∧ w.grownBy (w.setCell ⟨g, k, none⟩ (.int .i64 v)) (some g) := by
 have := World.ownsRow.stored h k (.int .i64 v)
 rw [← List.map_set, tabI_set] at this
 exact this

theorem RowI.congr {w : World} {B g N cap : Nat} {f f' : Nat → Int} (h : RowI w B g N cap f) (e : ∀ i, i < N → f i = f' i) : RowI w B g N cap f' := by
 unfold RowI; rw [← tabI_congr e]; exact h

theorem RowI.keptBy {w w' : World} {B g N cap : Nat} {f : Nat → Int} {row : Option Nat} (h : RowI w B g N cap f) (hg : w.grownBy w' row) (hr : row ≠ some g) : RowI w' B g N cap f :=
 World.ownsRow.kept h hg (Or.inr (fun e => hr e.symm))

theorem RowI.below {w w' : World} {B g N cap : Nat} {f : Nat → Int} (h : RowI w B g N cap f) (hb : Below w.heap.size w w') : RowI w' B g N cap f := by
 have := (RowI.owns h).below hb
 unfold OwnsI at this; rw [tabI_len] at this; exact this

theorem RowI.base {w : World} {B g N cap : Nat} {f : Nat → Int} (h : RowI w B g N cap f) : B ≤ g ∧ g < w.heap.size := World.ownsRow.lt h g rfl

theorem OwnsI.row {w : World} {B : Nat} {v : Value} {xs : List Int} (h : OwnsI w B v xs) {n : Nat} (hn : xs.length = n) : w.ownsRow B 3 1 v n (xs.map (Value.int .i64)) := by subst hn; exact h

theorem OwnsI.ofRow {w : World} {B : Nat} {v : Value} {xs : List Int} {n : Nat} {cs : List Value} (h : w.ownsRow B 3 1 v n cs) (hc : cs = xs.map (Value.int .i64)) (hn : xs.length = n) : OwnsI w B v xs := by subst hn; subst hc; exact h

theorem OwnsI.alloc {w : World} {B : Nat} {v : Value} {xs : List Int} (h : OwnsI w B v xs) (o : Obj) : OwnsI (w.alloc o) B v xs := h.below (below1 _ _)

theorem OwnsI.ownBlock {w : World} {B : Nat} {v : Value} {xs : List Int} (h : OwnsI w B v xs) {b : Nat} (hb : b < B) : v.ownBlock ≠ some b := fun e => by
 have := World.ownsRow.lt h b e; omega

theorem OwnsI.ownAt {w : World} {B : Nat} {v : Value} {xs : List Int} (h : OwnsI w B v xs) {B' : Nat} (hB : B' ≤ B) : ∀ k, v.ownBlock = some k → B' ≤ k := fun k e => Nat.le_trans hB (World.ownsRow.lt h k e).1

theorem IntsAt.grown {w0 w w' : World} {a : Option Addr} {xs : List Int} {row : Option Nat} (h : IntsAt w a xs) (h0 : IntsAt w0 a xs) (hg : w.grownBy w' row) (hr : ∀ k, row = some k → w0.heap.size ≤ k) : IntsAt w' a xs := by
 intro i hi
 obtain ⟨b, off, rfl, hc⟩ := h i hi
 obtain ⟨b', off', he, hc'⟩ := h0 i hi
 simp only [Option.some.injEq, Addr.mk.injEq, and_true] at he
 obtain ⟨rfl, rfl⟩ := he
 have hb' := World.block_lt_of_cell? w0 _ hc'
 simp only at hb'
 exact ⟨b, off, rfl, hg.cell hc (fun e => by have := hr b e.symm; omega)⟩

theorem OwnsI.blkLt {w : World} {B : Nat} {v : Value} {xs : List Int} (h : OwnsI w B v xs) : ∀ k, v.ownBlock = some k → k < w.heap.size := fun k e => (World.ownsRow.lt h k e).2

theorem new_int (w : World) (b : Int) : ∀ j u, [Value.int .i64 b][j]? = some u → (w.alloc (.cells #[.int .i64 b] 3)).cell? ((⟨w.heap.size, 0, none⟩ : Addr).add j) = some u := cell_one_new _ _ _
theorem one_int (b : Int) : ∀ u ∈ [Value.int .i64 b], u.oneCell' = true := by intro u hu; simp at hu; subst hu; rfl


theorem OwnsI.form2 {w : World} {B : Nat} {v : Value} {zs : List Int} (h : OwnsI w B v zs) : ∃ (a : Option Addr) (cap : Nat), v = .slice a zs.length cap := by
 rcases h.2 with ⟨h1, h2⟩ | ⟨g, cap, cur, hv, _⟩
 · exact ⟨none, 0, by rw [h1, h2]⟩
 · exact ⟨_, cap, hv⟩

end Go.Proofs.YtpcajacekmidbaaGreat

namespace Go.Proofs.YtpcajacekmidbaaGreat
open Go.RowKit
set_option linter.unusedVariables false
set_option maxRecDepth 100000

def RetL (w : World) (n : Nat) (ys : List Int) (e : Ending) (w' : World) : Prop :=
 ∃ a cap, e = .returned (.slice a n cap) ∧ OwnsI w' w.heap.size (.slice a n cap) ys ∧ Below w.heap.size w w'
def RetLT (w : World) (n : Nat) (ys : List Int) (ok : Bool) (e : Ending) (w' : World) : Prop :=
 ∃ a cap, e = .returned (.tuple #[.slice a n cap, .bool ok]) ∧ OwnsI w' w.heap.size (.slice a n cap) ys ∧ Below w.heap.size w w'
end Go.Proofs.YtpcajacekmidbaaGreat

namespace Go.Proofs.YtpcajacekmidbaaGreat
open Go.RowKit
set_option linter.unusedVariables false
set_option maxRecDepth 100000
set_option linter.unusedSimpArgs false

theorem alive_any (w : World) : Calls Tryz.prog 12 #[] w fun e w' => e = .returned (.bool true) ∧ Below w.heap.size w w' := by
 go_enter Tryz.func12, Tryz.ntmps12
 go_wp2_with fail
 refine (iRegionBox_yes 2 3 6 _ (by decide) (by decide)).mono ?_; rintro e w1 ⟨g, rfl, ho, hb⟩
 have HM : Hid (many 2 3 (List.replicate 6 true) = 6) := by show _ = _; rfl
 go_wp2_with fail
 refine (iCellsMany_any _ _ _ _ _ (List.replicate 6 true) _ rfl (by simp) (OwnsB.at ho)).mono ?_; rintro e w2 ⟨rfl, hb2⟩
 rw [HM.out]
 go_wp2
 go_ret
 exact ⟨rfl, below_seq hb hb2⟩

theorem sameInts_same (a b : Option Addr) (n cap cap' : Nat) (xs : List Int) (w : World) (hn : n = xs.length) (hn' : n ≤ 1048576) (ha : IntsAt w a xs) (hb : IntsAt w b xs) :
 Calls Tryz.prog 8 #[.slice a n cap, .slice b n cap'] w fun e w' => e = .returned (.bool true) ∧ Below w.heap.size w w' := by
 have HN := Lib.hid hn; clear hn
 have HA := Lib.hid ha; clear ha
 have HB := Lib.hid hb; clear hb
 go_enter Tryz.func8, Tryz.ntmps8
 go_wp2
 go_loopw [5] (fun i wr => ∃ k : Nat, k ≤ n ∧ i = .int .i64 k ∧ ∃ q, wr = w.drewN q) (fun i _ => n - (intOf i).toNat)
 case atStart => exact ⟨0, Nat.zero_le _, rfl, 0, rfl⟩
 case round =>
  obtain ⟨k, hk, rfl, q, rfl⟩ := hrel
  by_cases hlt : k < n
  · obtain ⟨b1, o1, rfl, hc1⟩ := HA.out k (by rw [← HN.out]; exact hlt)
    obtain ⟨b2, o2, rfl, hc2⟩ := HB.out k (by rw [← HN.out]; exact hlt)
    have e1 : (k : Int) < n := by omega
    have e0 : (0 : Int) ≤ k := by omega
    go_wp2
    go_big_quiet (fail)
    go_wp2
    go_roundw
    case rel => exact ⟨k + 1, by omega, by go_num, _, rfl⟩
    case measure => simp [intOf]; omega
  · go_wp2
    go_ret
    exact ⟨rfl, drewN_below _ _⟩
end Go.Proofs.YtpcajacekmidbaaGreat
