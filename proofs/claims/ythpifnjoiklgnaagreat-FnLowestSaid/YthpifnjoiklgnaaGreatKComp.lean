/- Contract of spec.l2Complete: a list is completed, the east first. -/
import Derived.Test.YthpifnjoiklgnaaGreatKLayOne
import Derived.Laws.CopyOwn
import Derived.Deep.AppendLies
namespace Go.Proofs.YthpifnjoiklgnaaGreat
open Go.RowKit
set_option linter.unusedVariables false
set_option maxRecDepth 100000
set_option linter.unusedSimpArgs false

def many (W T : Int) (xs : List Bool) : Int := if rv W T xs then cnt xs else -1

set_option maxHeartbeats 1000000 in
theorem iCellsMany_any (W T : Int) (a : Option Addr) (n cap : Nat) (xs : List Bool) (w : World) (hn : n = xs.length) (hn' : n ≤ 1048576) (ha : BoolsAt w a xs) :
 Calls Tryz.prog 31 #[.agg #[.int .i64 W, .int .i64 T, .slice a n cap]] w fun e w' => e = .returned (.int .i64 (many W T xs)) ∧ Below w.heap.size w w' := by
 have HN := Lib.hid hn; clear hn
 have HA := Lib.hid ha; clear ha
 by_cases h : rv W T xs = true
 · go_enter Tryz.func31, Tryz.ntmps31
   go_wp2_with fail
   refine (iRegionValid_any _ _ _ _ _ xs _ HN.out hn' (HA.out.one _)).mono ?_; rintro e w1 ⟨rfl, hb1⟩
   have p1 := heap_later (heap_new w _) hb1
   have b1 := below_seq (below1 _ _) hb1
   obtain ⟨c0, c1, c2⟩ := cells3 p1
   go_wp2_with fail
   refine (cellsIn_any _ _ _ _ _ xs _ HN.out hn' (HA.out.below b1)).mono ?_; rintro e w2 ⟨rfl, hb2⟩
   go_wp2
   go_ret
   exact ⟨ret_int (by unfold many; rw [if_pos h]), below_seq b1 hb2⟩
 · rw [Bool.not_eq_true] at h
   go_enter Tryz.func31, Tryz.ntmps31
   go_wp2_with fail
   refine (iRegionValid_any _ _ _ _ _ xs _ HN.out hn' (HA.out.one _)).mono ?_; rintro e w1 ⟨rfl, hb1⟩
   go_wp2
   go_ret
   exact ⟨ret_int (by unfold many; rw [h]; rfl), below_seq (below1 _ _) hb1⟩

end Go.Proofs.YthpifnjoiklgnaaGreat

namespace Go.Proofs.YthpifnjoiklgnaaGreat
open Go.RowKit
set_option linter.unusedVariables false
set_option maxRecDepth 100000
set_option linter.unusedSimpArgs false

def dkAt (W : Int) (k : Nat) : Bool := ((k : Int) % W + (k : Int) / W) % 2 == 0
def dkN (W : Int) (xs : List Bool) (k : Nat) : Nat := (List.range k).countP fun i => xs.getD i false && dkAt W i
def dark (W T : Int) (xs : List Bool) : Int := if rv W T xs then dkN W xs xs.length else -1

theorem divmod_bd {W : Int} {k : Nat} (h : 1 ≤ W) : 0 ≤ (k : Int) % W ∧ (k : Int) % W < W ∧ 0 ≤ (k : Int) / W ∧ (k : Int) / W ≤ k :=
 ⟨Int.emod_nonneg _ (by omega), Int.emod_lt_of_pos _ (by omega), Int.ediv_nonneg (by omega) (by omega), Int.ediv_le_self _ (by omega)⟩

end Go.Proofs.YthpifnjoiklgnaaGreat

namespace Go.Proofs.YthpifnjoiklgnaaGreat
open Go.RowKit
set_option linter.unusedVariables false
set_option maxRecDepth 100000
set_option linter.unusedSimpArgs false

theorem made_bools (N : Nat) : (madeCells (Value.bool false).cells (N * 1)).toList = (List.replicate N false).map Value.bool := by
 rw [show (Value.bool false).cells = #[.bool false] from rfl, toList_madeCells_one]; simp

set_option maxHeartbeats 400000 in
theorem bareField_any (W T : Int) (N : Nat) (w : World) (hW0 : 0 ≤ W) (hW1 : W ≤ 100) (hT0 : 0 ≤ T) (hT1 : T ≤ 100) (hN : W * T = N) (hN1 : N ≤ 10000) :
 Calls Tryz.prog 65 #[.int .i64 W, .int .i64 T] w fun e w' => ∃ g, e = .returned (.agg #[.int .i64 W, .int .i64 T, .slice (some ⟨g, 0, none⟩) N N]) ∧ OwnsB w' (w.heap.size + 1) (.slice (some ⟨g, 0, none⟩) N N) (List.replicate N false) ∧ Below w.heap.size w w' := by
 obtain ⟨i0, hi, hz0, hz1, hz2⟩ := info_parts infoBool
 have b1 : 0 ≤ W * T := by omega
 have b2 : W * T ≤ 10000 := by omega
 have HNN := Lib.hid hN; clear hN
 go_enter Tryz.func65, Tryz.ntmps65
 go_wp2_with (at_make; refine wpList_make_full _ rfl _ _ 23 rfl (w.heap.size + 1) 4 i0 (.bool false) 1 Tryz.underlying23 hi hz0 hz1 _ _ _ _ N rfl rfl HNN.out HNN.out (by rw [hz2]; omega) (by unfold maxLen; omega) (by simp) ?_; intro w1 hown hgrow; have hb := grown_below hgrow; obtain ⟨hc, hf⟩ := bcell hb; have hz : w.heap.size + 1 ≤ w1.heap.size := (by have := hb.size; simp at this; omega); have HOW := Lib.hid hown; clear hown)
 refine bodyPost_ret (v := .agg #[.int .i64 W, .int .i64 T, .slice (some ⟨w.heap.size + 1, 0, none⟩) N N]) (by simp [results, Tryz.results65, go_sem, hc, hz]) rfl ⟨_, rfl, ?_, ?_⟩
 · have h := HOW.out
   rw [made_bools] at h
   have h' : OwnsB w1 (w.heap.size + 1) (.slice (some ⟨w.heap.size + 1, 0, none⟩) N N) (List.replicate N false) := by unfold OwnsB; simpa using h
   exact h'.set3 (by simp) _ _ _
 · exact below_set3 (below_seq (below1 _ _) hb) (Nat.le_refl _) _ _ _

def boxB (W T : Int) : Bool := sidesB W T && decide (W * T ≤ 24)

theorem boxB_yes {W T : Int} (h : boxB W T = true) : sidesB W T = true ∧ (decide (24 < W * T)) = false ∧ 1 ≤ W ∧ W ≤ 6 ∧ 1 ≤ T ∧ T ≤ 6 ∧ 1 ≤ W * T ∧ W * T ≤ 24 := by
 simp only [boxB, Bool.and_eq_true, decide_eq_true_eq] at h
 have ⟨h1, h2⟩ := h
 simp only [sidesB, decide_eq_true_eq] at h1
 have := mul_bd h1.1 h1.2.1 h1.2.2.1 h1.2.2.2
 exact ⟨h.1, by simp; omega, h1.1, h1.2.1, h1.2.2.1, h1.2.2.2, this.1, h2⟩

set_option maxHeartbeats 1000000 in
theorem iRegionBox_yes (W T : Int) (N : Nat) (w : World) (h : boxB W T = true) (hN : W * T = N) :
 Calls Tryz.prog 32 #[.int .i64 W, .int .i64 T] w fun e w' => ∃ g, e = .returned (.agg #[.int .i64 W, .int .i64 T, .slice (some ⟨g, 0, none⟩) N N]) ∧ OwnsB w' (w.heap.size + 1) (.slice (some ⟨g, 0, none⟩) N N) (List.replicate N true) ∧ Below w.heap.size w w' := by
 obtain ⟨hs, hm, hW0, hW1, hT0, hT1, hm0, hm1⟩ := boxB_yes h
 clear h
 have hm' : ¬ 24 < W * T := by simpa using hm
 have HNN := Lib.hid hN; clear hN
 go_enter Tryz.func32, Tryz.ntmps32
 go_wp2_with (first
  | (go_at_call 67; refine (sidesOk_any _ _ _).mono ?_; rintro e w1 ⟨rfl, rfl⟩)
  | (go_at_call 65; refine (bareField_any W T N _ (by omega) (by omega) (by omega) (by omega) HNN.out (by have := HNN.out; omega)).mono ?_; rintro e w1 ⟨g, rfl, ho, hb⟩; have HO := Lib.hid ho; clear ho))
 have hN24 : N ≤ 24 := by have := HNN.out; omega
 have hg1 : g < w1.heap.size := (HO.out.forms.elim (fun h => by simp at h) (fun ⟨g', c', h, _, h2⟩ => by simp at h; omega))
 have hz : w.heap.size + 1 ≤ w1.heap.size := by have := hb.size; simp at this; omega
 have R0 : RowB w1 (w.heap.size + 1) g N N (fun _ => false) := (RowB.of (HO.out.lower (by simp)) (by simp)).congr (fun i hi => by simp [hi])
 have p1 := heap_later (heap_new w _) hb
 have hb' := below_seq (below1 _ _) hb
 clear HO hb
 go_loopw [6, 24] (fun _ i wr => ∃ k : Nat, k ≤ N ∧ i = .int .i64 k ∧ RowB wr (w.heap.size + 1) g N N (fun j => decide (j < k)) ∧ wr.heap[w.heap.size]? = some (.cells #[.int .i64 0, .int .i64 0, .slice none 0 0] 25 (0, 0)) ∧ wr.heap[w1.heap.size]? = some (.cells #[.int .i64 W, .int .i64 T, .slice (some ⟨g, 0, none⟩) N N] 25 (0, 0)) ∧ Below w.heap.size w wr) (fun _ i _ => N - (intOf i).toNat)
 case atStart => exact ⟨0, Nat.zero_le _, rfl, (R0.below (below1 _ _)).congr (by simp), heap_later p1 (below1 _ _), heap_new _ _, below_seq hb' (below1 _ _)⟩
 case round =>
  obtain ⟨k, hk, rfl, hr, h5, h6, hbel⟩ := hrel
  obtain ⟨c0, c1, c2⟩ := cells3 h6
  by_cases hlt : k < N
  · have hc := hr.cell hlt
    have hf := hr.free k
    have HR := Lib.hid hr; clear hr
    go_wp2
    go_roundw
    case rel =>
     have hs := HR.out.set k true
     exact ⟨k + 1, by omega, by go_num, hs.1.congr (fun i hi => by by_cases e : i = k <;> simp [e]; omega), heap_set_other h5 (by have := HR.out.base; simp; omega) _, heap_set_other h6 (by simp; omega) _, hbel.setCell (by have := HR.out.base; simp; omega) _⟩
    case measure => simp [intOf]; omega
  · obtain rfl : k = N := by omega
    have HR := Lib.hid hr; clear hr
    obtain ⟨d0, d1, d2⟩ := cells3 h5
    have e0 := free3 h5 0
    have e1 := free3 h5 1
    have e2 := free3 h5 2
    go_wp2
    refine bodyPost_ret (v := .agg #[.int .i64 W, .int .i64 T, .slice (some ⟨g, 0, none⟩) k k]) (by simp [results, Tryz.results32, go_sem, d0, d1, d2]) rfl ⟨_, rfl, ?_, ?_⟩
    · have := (HR.out.congr (f' := fun _ => true) (fun i hi => by simp [hi])).owns
      rw [tab_const] at this
      exact this.set3 (by omega) _ _ _
    · exact below_set3 hbel (Nat.le_refl _) _ _ _
end Go.Proofs.YthpifnjoiklgnaaGreat

namespace Go.Proofs.YthpifnjoiklgnaaGreat
open Go.RowKit
set_option linter.unusedVariables false
set_option maxRecDepth 100000
set_option linter.unusedSimpArgs false

set_option maxHeartbeats 1000000 in
theorem sRegionBox_no (W T : Int) (w : World) (h : boxB W T = false) :
 Calls Tryz.prog 46 #[.int .i64 W, .int .i64 T] w fun e w' => e = .returned (.agg #[.int .i64 0, .int .i64 0, .slice none 0 0]) ∧ Below w.heap.size w w' := by
 by_cases ha : inB W 1 6 = true
 · by_cases hb : inB T 1 6 = true
   · have h1 : 1 ≤ W ∧ W ≤ 6 := by simpa [inB] using ha
     have h1' : 1 ≤ T ∧ T ≤ 6 := by simpa [inB] using hb
     have h2 : 24 < W * T := by
      have : ¬ W * T ≤ 24 := by intro hh; simp [boxB, sidesB, h1, h1', hh] at h
      omega
     have h3 := mul_bd h1.1 h1.2 h1'.1 h1'.2
     obtain ⟨h3a, h3b⟩ := h3
     clear h h1 h1'
     go_enter Tryz.func46, Tryz.ntmps46
     go_wp2_with (go_at_call 83; refine (l1In_any _ _ _ _).mono ?_; rintro e w1 ⟨rfl, rfl⟩)
     exact bodyPost_ret (v := .agg #[.int .i64 0, .int .i64 0, .slice none 0 0]) (by simp [results, Tryz.results46, go_sem]) rfl ⟨rfl, below1 _ _⟩
   · rw [Bool.not_eq_true] at hb
     clear h
     go_enter Tryz.func46, Tryz.ntmps46
     go_wp2_with (go_at_call 83; refine (l1In_any _ _ _ _).mono ?_; rintro e w1 ⟨rfl, rfl⟩)
     exact bodyPost_ret (v := .agg #[.int .i64 0, .int .i64 0, .slice none 0 0]) (by simp [results, Tryz.results46, go_sem]) rfl ⟨rfl, below1 _ _⟩
 · rw [Bool.not_eq_true] at ha
   clear h
   go_enter Tryz.func46, Tryz.ntmps46
   go_wp2_with (go_at_call 83; refine (l1In_any _ _ _ _).mono ?_; rintro e w1 ⟨rfl, rfl⟩)
   exact bodyPost_ret (v := .agg #[.int .i64 0, .int .i64 0, .slice none 0 0]) (by simp [results, Tryz.results46, go_sem]) rfl ⟨rfl, below1 _ _⟩

theorem boxB_ins {W T : Int} (h : boxB W T = true) : inB W 1 6 = true ∧ inB T 1 6 = true := by
 obtain ⟨_, _, a, b, c, d, _, _⟩ := boxB_yes h
 simp [inB]; omega

set_option maxHeartbeats 1000000 in
theorem sRegionBox_yes (W T : Int) (N : Nat) (w : World) (h : boxB W T = true) (hN : W * T = N) :
 Calls Tryz.prog 46 #[.int .i64 W, .int .i64 T] w fun e w' => ∃ g c, e = .returned (.agg #[.int .i64 W, .int .i64 T, .slice (some ⟨g, 0, none⟩) N c]) ∧ OwnsB w' (w.heap.size + 2) (.slice (some ⟨g, 0, none⟩) N c) (List.replicate N true) ∧ Below w.heap.size w w' := by
 obtain ⟨i0, hi, hz0, hz1, hz2⟩ := info_parts infoBool
 obtain ⟨hs, hm, hW0, hW1, hT0, hT1, hm0, hm1⟩ := boxB_yes h
 obtain ⟨ha, hb⟩ := boxB_ins h
 clear h
 have hm' : ¬ 24 < W * T := by simpa using hm
 have hN24 : N ≤ 24 := by omega
 have HNN := Lib.hid hN; clear hN
 go_enter Tryz.func46, Tryz.ntmps46
 go_wp2_with (first
  | (go_at_call 83; refine (l1In_any _ _ _ _).mono ?_; rintro e w1 ⟨rfl, rfl⟩))
 go_loopw [6] (fun i wr => ∃ (k : Nat) (v : Value), k ≤ N ∧ i = .int .i64 k ∧ OwnsB wr (w.heap.size + 2) v (List.replicate k true) ∧ wr.heap[w.heap.size]? = some (.cells #[.int .i64 0, .int .i64 0, .slice none 0 0] 25 (0, 0)) ∧ wr.heap[w.heap.size + 1]? = some (.cells #[.int .i64 W, .int .i64 T, v] 25 (0, 0)) ∧ Below w.heap.size w wr) (fun i _ => N - (intOf i).toNat)
 case atStart => exact ⟨0, _, Nat.zero_le _, rfl, OwnsB.nil _ _, heap_later (heap_new w _) (below1 _ _), by simpa using heap_new (w.alloc _) _, below2 _ _ _⟩
 case round =>
  obtain ⟨k, v, hk, rfl, hown, h5, h6, hbel⟩ := hrel
  obtain ⟨c0, c1, c2⟩ := cells3 h6
  have hlw := heap_lt h6
  have HO := Lib.hid hown; clear hown
  by_cases hlt : k < N
  · have hlt' : (k : Int) < W * T := by have := HNN.out; omega
    go_wp2_with (at_builtin; refine wpList_append_own _ rfl _ _ 23 rfl (w.heap.size + 2) 4 i0 (.bool false) 1 1 Tryz.underlying23 hi hz0 hz1 hz2 rfl (by decide) v k ((List.replicate k true).map Value.bool) rfl ((HO.out.alloc _).row (by simp)) ⟨wr.heap.size, 0, none⟩ 1 1 [.bool true] rfl rfl (new_bool _ _) (one_bool _) (by unfold maxLen; omega) (by omega) (by simp; omega) ?_; intro v' w1 hown' hgrow _; obtain ⟨g', cap', rfl⟩ := form_pos hown' (by omega); have p5 := heap_grown (heap_later h5 (below1 _ _)) hgrow (HO.out.ownBlock (by omega)); have p6 := heap_grown (heap_later h6 (below1 _ _)) hgrow (HO.out.ownBlock (by omega)); obtain ⟨d0, d1, d2⟩ := cells3 p6; have e2 := free3 p6 2; have HN' := Lib.hid hown'; clear hown')
    go_roundw
    case rel => exact ⟨k + 1, _, by omega, by go_num, (OwnsB.ofRow HN'.out (rep_snoc _ _) (by simp)).setBelow (by simp) _, heap_set_other p5 (by simp) _, by simpa using block_setCell p6 (i := 2) _, (grown_tail hbel hgrow (by omega) (HO.out.ownAt (by omega))).setCell (by simp) _⟩
    case measure => simp [intOf]; omega
  · obtain rfl : k = N := by omega
    have hge : ¬ (k : Int) < W * T := by have := HNN.out; omega
    obtain ⟨g, cap, rfl⟩ := form_pos (HO.out.row (n := k) (by simp)) (by have := HNN.out; omega)
    obtain ⟨d0, d1, d2⟩ := cells3 h5
    have e0 := free3 h5 0
    have e1 := free3 h5 1
    have e2 := free3 h5 2
    go_wp2
    refine bodyPost_ret (v := .agg #[.int .i64 W, .int .i64 T, .slice (some ⟨g, 0, none⟩) k cap]) (by simp [results, Tryz.results46, go_sem, d0, d1, d2]) rfl ⟨_, _, rfl, ?_, ?_⟩
    · exact HO.out.set3 (by omega) _ _ _
    · exact below_set3 hbel (Nat.le_refl _) _ _ _
end Go.Proofs.YthpifnjoiklgnaaGreat

namespace Go.Proofs.YthpifnjoiklgnaaGreat
open Go.RowKit
set_option linter.unusedVariables false
set_option maxRecDepth 100000
set_option linter.unusedSimpArgs false

def RetReg (w : World) (W T : Int) (n : Nat) (xs : List Bool) (e : Ending) (w' : World) : Prop :=
 ∃ (a : Option Addr) (cap : Nat), e = .returned (.agg #[.int .i64 W, .int .i64 T, .slice a n cap]) ∧ OwnsB w' w.heap.size (.slice a n cap) xs ∧ Below w.heap.size w w'

def boxF (W T : Int) : Int × Int × List Bool := if boxB W T then (W, T, List.replicate (W * T).toNat true) else (0, 0, [])
theorem boxF_len (W T : Int) : (boxF W T).2.2.length ≤ 24 := by
 unfold boxF
 split
 · next h => have := boxB_yes h; simp; omega
 · simp

theorem sRegionBox_ret (W T : Int) (w : World) : Calls Tryz.prog 46 #[.int .i64 W, .int .i64 T] w (RetReg w (boxF W T).1 (boxF W T).2.1 (boxF W T).2.2.length (boxF W T).2.2) := by
 by_cases h : boxB W T = true
 · have hb := boxB_yes h
   refine (sRegionBox_yes W T (W * T).toNat w h (by omega)).mono ?_
   rintro e w' ⟨g, c, rfl, ho, hb⟩
   unfold boxF; rw [if_pos h]
   simp only [List.length_replicate]
   exact ⟨_, _, rfl, ho.lower (by omega), hb⟩
 · rw [Bool.not_eq_true] at h
   refine (sRegionBox_no W T w h).mono ?_
   rintro e w' ⟨rfl, hb⟩
   unfold boxF; rw [h]
   exact ⟨_, _, rfl, OwnsB.nil _ _, hb⟩

end Go.Proofs.YthpifnjoiklgnaaGreat

namespace Go.Proofs.YthpifnjoiklgnaaGreat
open Go.RowKit
set_option linter.unusedVariables false
set_option maxRecDepth 100000
set_option linter.unusedSimpArgs false

def cellsOf (N : Nat) (f : Nat → Bool) : Array Value := ((tab N f).map Value.bool).toArray
theorem RowB.block {w : World} {B g N : Nat} {f : Nat → Bool} (h : RowB w B g N N f) : w.heap[g]? = some (.cells (cellsOf N f) 4 (0, 0)) := by
 rcases h.2 with ⟨h', _⟩ | ⟨g', cap', cur, h', _, hg, _, _, hs, ht⟩
 · simp at h'
 · simp only [Value.slice.injEq, Option.some.injEq, Addr.mk.injEq, and_true, true_and] at h'
   obtain ⟨rfl, rfl⟩ := h'
   rw [hg]
   have e : cur = cellsOf N f := by
    apply Array.toList_inj.1
    rw [List.take_of_length_le (by simp [hs])] at ht
    rw [ht]; simp [cellsOf]
   rw [e]
theorem RowB.mk' {w : World} {B g N : Nat} {f : Nat → Bool} (hB : B ≤ g) (hN : N ≤ maxLen) (h : w.heap[g]? = some (.cells (cellsOf N f) 4 (0, 0))) : RowB w B g N N f :=
 ⟨by simp [tab_len], Or.inr ⟨g, N, _, rfl, hB, h, Nat.le_refl _, hN, by simp [cellsOf, tab_len], by simp [cellsOf, List.take_of_length_le, tab_len]⟩⟩

theorem sizeBool : (Tryz.prog.info? 4).map (·.size) = some 1 := by kernel_rfl

theorem bools_one (xs : List Bool) : ∀ v ∈ xs.map Value.bool, v.oneCell' = true := by
 intro v hv
 simp only [List.mem_map] at hv
 obtain ⟨b, _, rfl⟩ := hv
 rfl

theorem src_cells {w : World} {b off : Nat} {xs : List Bool} (h : ∀ i, i < xs.length → w.cell? ⟨b, off + i, none⟩ = some (.bool (xs.getD i false))) :
 ∀ j v, (xs.map Value.bool)[j]? = some v → w.cell? ((⟨b, off, none⟩ : Addr).add j) = some v := by
 intro j v hv
 have hj : j < xs.length := by
  rcases Nat.lt_or_ge j xs.length with h' | h'
  · exact h'
  · rw [List.getElem?_eq_none (by simpa using h')] at hv; cases hv
 have e : (⟨b, off, none⟩ : Addr).add j = ⟨b, off + j, none⟩ := by unfold Addr.add; split <;> simp_all
 rw [e, h j hj]
 simp [hj] at hv
 simp [hj, hv]

theorem BoolsAt.addr {w : World} {a : Option Addr} {xs : List Bool} (h : BoolsAt w a xs) (hp : 0 < xs.length) : ∃ b off, a = some ⟨b, off, none⟩ ∧ ∀ i, i < xs.length → w.cell? ⟨b, off + i, none⟩ = some (.bool (xs.getD i false)) := by
 obtain ⟨b, off, rfl, _⟩ := h 0 hp
 refine ⟨b, off, rfl, fun i hi => ?_⟩
 obtain ⟨b', off', he, hc⟩ := h i hi
 simp only [Option.some.injEq, Addr.mk.injEq, and_true] at he
 obtain ⟨rfl, rfl⟩ := he
 exact hc

structure Copied (g n : Nat) (xs : List Bool) (w w' : World) : Prop where
 at_g : w'.heap[g]? = some (.cells (cellsOf n (fun i => xs.getD i false)) 4 (0, 0))
 other : ∀ k o, k ≠ g → w.heap[k]? = some o → w'.heap[k]? = some o
 below : ∀ B w0, B ≤ g → Below B w0 w → Below B w0 w'

theorem wpList_copy_bools {P : Program} {w : World} {ops : Array Oper} {rest : List Oper} {o : Oper} {a : Act} {Q : Exit → Act → World → Prop} (hgd : o.guard = none) (d s : Operand) (dT sT : TypeId)
 (ho : o.op = .call { callee := .builtin .copy, args := #[d, s], argTypes := #[dT, sT] }) (elem : TypeId) (hu : P.underlying dT = some (.slice elem)) (hsz : (P.info? elem).map (·.size) = some 1)
 (g n cap : Nat) (ad : Addr) (xs : List Bool) (hn : n = xs.length) (hd : a.eval d = .slice (some ⟨g, 0, none⟩) n n) (hs : a.eval s = .slice (some ad) n cap) (f : Nat → Bool)
 (hg : w.heap[g]? = some (.cells (cellsOf n f) 4 (0, 0))) (hsrc : ∀ j v, (xs.map Value.bool)[j]? = some v → w.cell? (ad.add j) = some v)
 (h : ∀ w', Copied g n xs w w' → wpList P ops Q rest (a.put o.dst (goInt (xs.map Value.bool).length)) w') : wpList P ops Q (o :: rest) a w := by
 refine wpList_copy_own hgd d s dT sT ho elem hu hsz g 0 n n ad n cap hd hs (cellsOf n f) 4 hg (xs.map Value.bool) (by rw [List.length_map, ← hn]; simp) hsrc (by rw [List.length_map, ← hn]; simp [cellsOf, tab_len]) (bools_one xs) (h _ ?_)
 have ea : ((cellsOf n f).toList.take 0 ++ ((xs.map Value.bool) ++ (cellsOf n f).toList.drop (0 + (xs.map Value.bool).length))).toArray = cellsOf n (fun i => xs.getD i false) := by
  have e1 : (cellsOf n f).toList.drop (0 + (xs.map Value.bool).length) = [] := by
   apply List.drop_eq_nil_of_le; simp [cellsOf, tab_len, ← hn]
  rw [e1]
  unfold cellsOf
  rw [hn, tab_of]; simp
 rw [ea]
 exact ⟨setRow_heap w g _ (cellsOf n (fun i => xs.getD i false)) _ (0, 0) hg, fun k o hk ho => by rw [setRow_other _ g k _ hk]; exact ho, fun B w0 hB hb => below_setRow hb hB _⟩

set_option maxHeartbeats 1000000 in
theorem copyField_any (W T : Int) (a : Option Addr) (n cap : Nat) (xs : List Bool) (w : World) (hn : n = xs.length) (hW0 : 0 ≤ W) (hW1 : W ≤ 100) (hT0 : 0 ≤ T) (hT1 : T ≤ 100) (hWT : (n : Int) = W * T) (hp : 0 < n) (ha : BoolsAt w a xs) :
 Calls Tryz.prog 34 #[.agg #[.int .i64 W, .int .i64 T, .slice a n cap]] w fun e w' => ∃ g, e = .returned (.agg #[.int .i64 W, .int .i64 T, .slice (some ⟨g, 0, none⟩) n n]) ∧ OwnsB w' (w.heap.size + 2) (.slice (some ⟨g, 0, none⟩) n n) xs ∧ Below w.heap.size w w' := by
 have pb := (prod_bd hW0 hW1 hT0 hT1).2
 have n4 : n ≤ 10000 := by omega
 have HN := Lib.hid hn; clear hn
 have HWT := Lib.hid hWT; clear hWT
 obtain ⟨b, off, rfl, hsrc⟩ := ha.addr (by rw [← HN.out]; exact hp)
 have hbl : b < w.heap.size := World.block_lt_of_cell? w _ (hsrc 0 (by rw [← HN.out]; exact hp))
 have HSRC := Lib.hid hsrc; clear hsrc ha
 go_enter Tryz.func34, Tryz.ntmps34
 go_wp2_with fail
 refine (bareField_any W T n _ hW0 hW1 hT0 hT1 HWT.out.symm n4).mono ?_; rintro e w2 ⟨g, rfl, ho, hb2⟩
 have b2 := below_seq (below2 w _ _) hb2
 have p2 := heap_later (heap_later (heap_new w _) (below1 _ _)) hb2
 have q2 := heap_later (heap_new2 w _ _) hb2
 have R2 : RowB w2 (w.heap.size + 2) g n n (fun _ => false) := (RowB.of (ho.lower (by simp)) (by simp)).congr (fun i hi => by simp [hi])
 have lg := R2.base
 clear ho hb2
 obtain ⟨c0, c1, c2⟩ := cells3 p2
 have lp := heap_lt p2
 have lq := heap_lt q2
 have R3 := R2.below (below1 w2 (.cells #[.int .i64 W, .int .i64 T, .slice (some ⟨g, 0, none⟩) n n] 25))
 have k3 := RowB.block R3
 have hsrc2 : ∀ j v, (xs.map Value.bool)[j]? = some v → (w2.alloc (.cells #[.int .i64 W, .int .i64 T, .slice (some ⟨g, 0, none⟩) n n] 25)).cell? ((⟨b, off, none⟩ : Addr).add j) = some v := by
  refine src_cells fun i hi => ?_
  have hc := HSRC.out i hi
  exact ((below1 w2 _).cell (p := ⟨b, off + i, none⟩) (show b < w2.heap.size by omega)).trans ((b2.cell (p := ⟨b, off + i, none⟩) hbl).trans hc)
 have SRC2 := Lib.hid hsrc2; clear hsrc2
 have K3 := Lib.hid k3; clear k3 R3
 go_wp2_with (with_reducible refine wpList_copy_bools rfl _ _ 23 23 rfl 4 Tryz.underlying23 sizeBool g n cap ⟨b, off, none⟩ xs HN.out rfl rfl _ K3.out SRC2.out ?_)
 intro w4 hcop
 · have k4 := hcop.at_g
   have ot := hcop.other
   have b4 : Below w.heap.size w w4 := hcop.below _ _ (by omega) (below_seq b2 (below1 _ _))
   have q4 := ot _ _ (by omega) (heap_later q2 (below1 _ _))
   have s4 := ot _ _ (by omega) (heap_new w2 _)
   have R4 : RowB w4 (w.heap.size + 2) g n n (fun i => xs.getD i false) := RowB.mk' lg.1 (by unfold maxLen; omega) k4
   clear hcop ot R2 c0 c1 c2
   obtain ⟨d0, d1, d2⟩ := cells3 q4
   have e0 := free3 q4 0
   have e1 := free3 q4 1
   have e2 := free3 q4 2
   obtain ⟨s0, s1, s2⟩ := cells3 s4
   go_wp2
   refine bodyPost_ret (v := .agg #[.int .i64 W, .int .i64 T, .slice (some ⟨g, 0, none⟩) n n]) (by simp [results, Tryz.results34, go_sem, d0, d1, d2]) rfl ⟨_, rfl, ?_, ?_⟩
   · have := R4.owns
     rw [HN.out, tab_of, ← HN.out] at this
     exact this.set3 (by omega) _ _ _
   · exact below_set3 b4 (by omega) _ _ _

end Go.Proofs.YthpifnjoiklgnaaGreat

namespace Go.Proofs.YthpifnjoiklgnaaGreat
open Go.RowKit
set_option linter.unusedVariables false
set_option maxRecDepth 100000
set_option linter.unusedSimpArgs false

end Go.Proofs.YthpifnjoiklgnaaGreat

namespace Go.Proofs.YthpifnjoiklgnaaGreat
open Go.RowKit
set_option linter.unusedVariables false
set_option maxRecDepth 100000
set_option linter.unusedSimpArgs false

theorem OwnsB.setNe {w : World} {B g n cap : Nat} {xs : List Bool} (h : OwnsB w B (.slice (some ⟨g, 0, none⟩) n cap) xs) {p : Addr} (hp : p.block ≠ g) (x : Value) : OwnsB (w.setCell p x) B (.slice (some ⟨g, 0, none⟩) n cap) xs := by
 rcases h.2 with ⟨h1, _⟩ | ⟨g', cap', cur, h1, hB, hc, r⟩
 · simp at h1
 · have hg : g = g' := by injection h1 with e; injection e with e; injection e
   exact ⟨h.1, Or.inr ⟨g', cap', cur, h1, hB, heap_set_other hc (fun e => hp (by rw [← e, hg])) _, r⟩⟩
theorem OwnsB.set3Ne {w : World} {B g n cap : Nat} {xs : List Bool} (h : OwnsB w B (.slice (some ⟨g, 0, none⟩) n cap) xs) {b : Nat} (hb : b ≠ g) (x y z : Value) : OwnsB (((w.setCell ⟨b, 0, none⟩ x).setCell ⟨b, 1, none⟩ y).setCell ⟨b, 2, none⟩ z) B (.slice (some ⟨g, 0, none⟩) n cap) xs :=
 ((h.setNe (p := ⟨b, 0, none⟩) hb x).setNe (p := ⟨b, 1, none⟩) hb y).setNe (p := ⟨b, 2, none⟩) hb z

theorem ne_own {x y : Nat} (h : x ≠ y) : (some x : Option Nat) ≠ some y := fun e => h (Option.some.inj e)

theorem emptyRow (w : World) {B : Nat} (hB : B ≤ w.heap.size) : (w.alloc (.cells #[] 4)).ownsRow B 4 1 (.slice (some ⟨w.heap.size, 0, none⟩) 0 0) 0 [] :=
 World.ownsRow_made w #[] 0 hB (Nat.zero_le _) rfl

theorem emptyRowAt (w : World) {B k : Nat} (hk : w.heap.size = k) (hB : B ≤ w.heap.size) : (w.alloc (.cells #[] 4)).ownsRow B 4 1 (.slice (some ⟨k, 0, none⟩) 0 0) 0 [] := by subst hk; exact emptyRow w hB

end Go.Proofs.YthpifnjoiklgnaaGreat

namespace Go.Proofs.YthpifnjoiklgnaaGreat
open Go.RowKit
set_option linter.unusedVariables false
set_option maxRecDepth 100000
set_option linter.unusedSimpArgs false

def freeN (xs : List Bool) (L : List Int) : Nat := (List.range xs.length).countP (freeB xs L)
theorem freeN_le (xs : List Bool) (L : List Int) : freeN xs L ≤ xs.length := by
 have := List.countP_le_length (p := freeB xs L) (l := List.range xs.length)
 rwa [List.length_range] at this
theorem layF_yes {W T : Int} {xs : List Bool} {L : List Int} {k way : Int} (h : (layF W T xs L k way).2 = true) : lok W T xs L = true ∧ canLay W T xs L k way = true ∧ (layF W T xs L k way).1 = laidL W T xs L k way := by
 unfold layF at h ⊢
 by_cases hl : lok W T xs L = true
 · rw [if_pos hl] at h ⊢; exact ⟨hl, h, rfl⟩
 · rw [if_neg hl] at h; cases h
theorem free_drop {W T : Int} {xs : List Bool} {L : List Int} {k way : Int} (hw : way = 1 ∨ way = 2) (h : (layF W T xs L k way).2 = true) : freeN xs (layF W T xs L k way).1 < freeN xs L := by
 obtain ⟨hl, hc, e⟩ := layF_yes h
 rw [e]
 obtain ⟨hr, hlen, _⟩ := lok_rv hl
 obtain ⟨v1, v2, v3, v4, v5, _⟩ := rv_true hr
 have hc0 := hc
 unfold canLay at hc
 simp only [Bool.and_eq_true, decide_eq_true_eq] at hc
 obtain ⟨⟨h0, h1⟩, h2⟩ := hc
 obtain ⟨k0, k1, o1, ok, hway⟩ := cellB_bd (W := W) (T := T) (n := xs.length) v1 v5 h0
 obtain ⟨kn, rfl⟩ := Int.eq_ofNat_of_zero_le k0
 obtain ⟨on, ho⟩ := Int.eq_ofNat_of_zero_le h0
 rw [ho] at h2 o1 ok
 simp only [Int.toNat_natCast] at h1 h2
 unfold laidL
 rw [if_pos hc0, ho]
 simp only [Int.toNat_natCast]
 have hb : backI way ≠ 0 := by unfold backI; omega
 have hw0 : way ≠ 0 := by omega
 unfold freeN
 refine countP_lt _ _ _ (fun j _ hj => ?_) kn (List.mem_range.2 (by omega)) ?_ h1
 · unfold freeB at hj ⊢
   rw [getD_set1, getD_set1] at hj
   simp only [Bool.and_eq_true, beq_iff_eq] at hj ⊢
   refine ⟨hj.1, ?_⟩
   have h3 := hj.2
   split at h3
   · exact absurd h3 hb
   · split at h3
     · exact absurd h3 hw0
     · exact h3
 · unfold freeB
   rw [getD_set1, getD_set1]
   have hne : ¬ kn = on := by intro e; apply ok; rw [e]
   rw [if_neg (fun q => hne q.1), if_pos ⟨rfl, by omega⟩]
   simp [hw0]
end Go.Proofs.YthpifnjoiklgnaaGreat
