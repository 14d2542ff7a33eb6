/- Contracts of impl.copyField and impl.sameField. Merged of: Copy, Set, SetS. -/
import Derived.Test.YtpcajacekmidbaaJLaid
import Derived.Laws.OwnMore
import Derived.Laws.CopyOwn
import Derived.Deep.AppendLies
namespace Go.Proofs.Ytpcajacekmidbaa
open Go.RowKit
set_option linter.unusedVariables false
set_option maxRecDepth 100000
set_option linter.unusedSimpArgs false

theorem ints_news {w : World} {b off : Nat} {L : List Int} (h : IntsAt w (some ⟨b, off, none⟩) L) : ∀ j u, (L.map (Value.int .i64))[j]? = some u → w.cell? ((⟨b, off, none⟩ : Addr).add j) = some u := by
  intro j u hj
  have hl : j < L.length := by
    rcases Nat.lt_or_ge j L.length with h' | h'
    · exact h'
    · rw [List.getElem?_eq_none (by simpa using h')] at hj; cases hj
  have e : (⟨b, off, none⟩ : Addr).add j = ⟨b, off + j, none⟩ := by unfold Addr.add; split <;> simp_all
  rw [e, h.cellAt hl]
  simp only [List.getElem?_map, List.getElem?_eq_getElem hl, Option.map_some, Option.some.injEq] at hj
  rw [← hj]
  simp [hl]
theorem ints_one (L : List Int) : ∀ u ∈ L.map (Value.int .i64), u.oneCell' = true := by
  intro u hu
  obtain ⟨x, _, rfl⟩ := List.mem_map.1 hu
  rfl

/-- What the list without dominoes is. -/
def bareL (W T : Int) (xs : List Bool) : List Int := if rv W T xs then List.replicate xs.length 0 else []

set_option maxHeartbeats 1000000 in
theorem sLaidBare_ret (W T : Int) (a : Option Addr) (n cap : Nat) (xs : List Bool) (w : World) (hn : n = xs.length) (hn' : n ≤ 1048576) (ha : BoolsAt w a xs) :
    Calls Try.prog 105 #[.agg #[.int .i64 W, .int .i64 T, .slice a n cap]] w (RetL w (bareL W T xs).length (bareL W T xs)) := by
  have HN := Lib.hid hn; clear hn
  have HA := Lib.hid ha; clear ha
  obtain ⟨i0, hi, hz0, hz1, hz2⟩ := info_parts infoInt
  cases h : rv W T xs
  · have e : bareL W T xs = [] := by unfold bareL; rw [h]; rfl
    rw [e]
    have H := Lib.hid h; clear h e
    go_enter Try.func105, Try.ntmps105
    go_wp2_with fail
    refine (sRegionValid_any _ _ _ _ _ xs _ HN.out hn' (HA.out.one _)).mono ?_; rintro e w1 ⟨rfl, hb1⟩
    have b1 := below_seq (below1 w _) hb1
    rw [H.out]
    go_wp2
    go_ret
    exact ⟨_, 0, rfl, World.ownsRow_made w1 #[] 0 b1.size (Nat.zero_le _) rfl, below_seq b1 (below1 _ _)⟩
  · have e : bareL W T xs = List.replicate n 0 := by unfold bareL; rw [h, ← HN.out]; rfl
    rw [e, List.length_replicate]
    have H := Lib.hid h; clear h e
    go_enter Try.func105, Try.ntmps105
    go_wp2_with fail
    refine (sRegionValid_any _ _ _ _ _ xs _ HN.out hn' (HA.out.one _)).mono ?_; rintro e w1 ⟨rfl, hb1⟩
    have p1 := heap_later (heap_new w _) hb1
    have b1 := below_seq (below1 w _) hb1
    have z1 : w.heap.size ≤ w1.heap.size := b1.size
    rw [H.out]
    obtain ⟨c0, c1, c2⟩ := cells3 p1
    go_wp2_with (at_make; refine wpList_make_full _ rfl _ _ 26 rfl w.heap.size 3 i0 (.int .i64 0) 1 Try.underlying26 hi hz0 hz1 _ _ _ _ n rfl rfl rfl rfl (by rw [hz2]; omega) (by unfold maxLen; omega) z1 ?_; intro w2 hown hgrow)
    go_ret
    rw [show (Value.int .i64 0).cells = #[.int .i64 0] from rfl, toList_madeCells_one] at hown
    exact ⟨_, n, rfl, OwnsI.ofRow hown (by simp) (by simp), below_grown b1 hgrow (Nat.le_refl _) (by simp)⟩

end Go.Proofs.Ytpcajacekmidbaa

namespace Go.Proofs.Ytpcajacekmidbaa
open Go.RowKit
set_option linter.unusedVariables false
set_option maxRecDepth 100000
set_option linter.unusedSimpArgs false

theorem step_ne {W T k way : Int} (hW : 1 ≤ W) (h : 0 ≤ stepI W T k way) (hk : 0 ≤ k) : stepI W T k way ≠ k := by
  unfold stepI at h ⊢
  split
  · omega
  · split
    · omega
    · split
      · omega
      · split <;> omega

/-- Whether a domino can be laid from a cell in a direction. -/
def canLay (W T : Int) (xs : List Bool) (L : List Int) (k way : Int) : Bool :=
  decide (0 ≤ cellB W T xs.length k way) && freeB xs L k.toNat && freeB xs L (cellB W T xs.length k way).toNat
/-- The list with it. -/
def laidL (W T : Int) (xs : List Bool) (L : List Int) (k way : Int) : List Int :=
  if canLay W T xs L k way then (L.set k.toNat way).set (cellB W T xs.length k way).toNat (backI way) else L
def layF (W T : Int) (xs : List Bool) (L : List Int) (k way : Int) : List Int × Bool :=
  if lok W T xs L then (laidL W T xs L k way, canLay W T xs L k way) else ([], false)
theorem laidL_len (W T : Int) (xs : List Bool) (L : List Int) (k way : Int) : (laidL W T xs L k way).length = L.length := by
  unfold laidL; split <;> simp
theorem cellB_bd {W T : Int} {n : Nat} {k way : Int} (hW : 1 ≤ W) (hn : (n : Int) = W * T) (h : 0 ≤ cellB W T n k way) :
    0 ≤ k ∧ k < n ∧ cellB W T n k way < n ∧ cellB W T n k way ≠ k ∧ okOf way = true := by
  unfold cellB at h ⊢
  split at h
  · rename_i hk
    have hb := step_bd (W := W) (T := T) (k := k) (way := way) hW hk.1 (by rw [← hn]; exact hk.2)
    rw [if_pos hk]
    refine ⟨hk.1, hk.2, ?_, step_ne hW h hk.1, stepI_edge (W := W) (T := T) (k := k) (by omega)⟩
    rcases hb with hb | hb <;> omega
  · omega
theorem canLay_neg {W T : Int} {xs : List Bool} {L : List Int} {k way : Int} (h : cellB W T xs.length k way < 0) : canLay W T xs L k way = false := by
  unfold canLay; rw [show decide (0 ≤ cellB W T xs.length k way) = false by simpa using h]; rfl
theorem grown_seq {a b c : World} {row : Option Nat} (h : a.grownBy b row) (k : b.grownBy c row) : a.grownBy c row :=
  ⟨k.os.trans h.os, k.tape.trans h.tape, k.output.trans h.output, Nat.le_trans h.size k.size, fun i hi hr => (k.block i (Nat.lt_of_lt_of_le hi h.size) hr).trans (h.block i hi hr)⟩
theorem OwnsI.set {w : World} {B g n cap : Nat} {L : List Int} (h : OwnsI w B (.slice (some ⟨g, 0, none⟩) n cap) L) (k : Nat) (v : Int) :
    OwnsI (w.setCell ⟨g, k, none⟩ (.int .i64 v)) B (.slice (some ⟨g, 0, none⟩) n cap) (L.set k v) ∧ w.grownBy (w.setCell ⟨g, k, none⟩ (.int .i64 v)) (some g) := by
  have hl : n = L.length := by
    rcases h.2 with ⟨h1, h2⟩ | ⟨g', cap', cur, hv, _⟩
    · simp at h1
    · simp only [Value.slice.injEq] at hv; exact hv.2.1
  subst hl
  have := World.ownsRow.stored h k (.int .i64 v)
  rw [← List.map_set] at this
  exact ⟨OwnsI.ofRow this.1 rfl (by simp), this.2⟩
theorem OwnsI.cell {w : World} {B g n cap : Nat} {L : List Int} (h : OwnsI w B (.slice (some ⟨g, 0, none⟩) n cap) L) {k : Nat} (hk : k < L.length) : w.cell? ⟨g, k, none⟩ = some (.int .i64 (L.getD k 0)) := by
  have := IntsAt.cellAt (OwnsI.at h) hk
  rw [Nat.zero_add] at this; exact this
theorem OwnsI.free {w : World} {B g n cap : Nat} {L : List Int} (h : OwnsI w B (.slice (some ⟨g, 0, none⟩) n cap) L) (k : Nat) : w.frozen? ⟨g, k, none⟩ = false := by
  rcases h.2 with ⟨h1, h2⟩ | ⟨g', cap', cur, hv, hg, hh, _⟩
  · simp at h1
  · simp only [Value.slice.injEq, Option.some.injEq, Addr.mk.injEq] at hv
    obtain ⟨⟨rfl, _⟩, _⟩ := hv
    exact free3 hh k
theorem OwnsI.lt {w : World} {B g n cap : Nat} {L : List Int} (h : OwnsI w B (.slice (some ⟨g, 0, none⟩) n cap) L) : B ≤ g ∧ g < w.heap.size := World.ownsRow.lt h g rfl
end Go.Proofs.Ytpcajacekmidbaa

namespace Go.Proofs.Ytpcajacekmidbaa
open Go.RowKit
set_option linter.unusedVariables false
set_option maxRecDepth 100000
set_option linter.unusedSimpArgs false

theorem rk_back {W T k way : Int} (hW : 1 ≤ W) (hW6 : W ≤ 6) (hk : 0 ≤ k) (hk1 : k < W * T) (hway : 0 ≤ way ∧ way ≤ 5) (h : 0 ≤ stepI W T k way) : stepI W T (stepI W T k way) (backI way) = k := by
  have hok := stepI_edge (W := W) (T := T) (k := k) (way := way) (by omega)
  have hb := step_bd (W := W) (T := T) (k := k) (way := way) hW hk hk1
  simp only [okOf, decide_eq_true_eq] at hok
  have hw : way = 1 ∨ way = 2 ∨ way = 3 ∨ way = 4 := by omega
  have hWs : W = 1 ∨ W = 2 ∨ W = 3 ∨ W = 4 ∨ W = 5 ∨ W = 6 := by omega
  rcases hWs with rfl | rfl | rfl | rfl | rfl | rfl <;> rcases hw with rfl | rfl | rfl | rfl
  all_goals (simp only [stepI, backI] at h hb ⊢)
  all_goals (try simp at h hb ⊢)
  all_goals (split at h <;> first | omega | (simp_all; done) | (simp_all <;> omega))

theorem getD_set1 {M : List Int} {c j : Nat} {v : Int} : (M.set c v).getD j 0 = if j = c ∧ c < M.length then v else M.getD j 0 := by
  simp only [List.getD_eq_getElem?_getD, List.getElem?_set]
  by_cases h : c = j
  · subst h
    by_cases h2 : c < M.length
    · simp [h2]
    · simp [h2]
  · simp [h, Ne.symm h]
theorem getD_set2 {M : List Int} {c o j : Nat} {v u : Int} (hc : c < M.length) (ho : o < M.length) : ((M.set c v).set o u).getD j 0 = if j = o then u else if j = c then v else M.getD j 0 := by
  rw [getD_set1, getD_set1]
  have h2 : o < (M.set c v).length := by simpa using ho
  by_cases e1 : j = o
  · rw [if_pos ⟨e1, h2⟩, if_pos e1]
  · rw [if_neg (fun q => e1 q.1), if_neg e1]
    by_cases e2 : j = c
    · rw [if_pos ⟨e2, hc⟩, if_pos e2]
    · rw [if_neg (fun q => e2 q.1), if_neg e2]
theorem back_back {way : Int} (h : 1 ≤ way ∧ way ≤ 4) : backI (backI way) = way := by unfold backI; omega
theorem back_nz {way : Int} (h : 0 ≤ way) : backI way ≠ 0 := by unfold backI; omega

theorem lok_lay {W T : Int} {xs : List Bool} {M : List Int} {c o : Nat} {way : Int} (h : lok W T xs M = true) (hc : c < xs.length) (ho : o < xs.length) (hne : o ≠ c) (hfc : freeB xs M c = true) (hfo : freeB xs M o = true) (hw : 1 ≤ way ∧ way ≤ 4)
    (hs : stepI W T c way = o) (hb : stepI W T o (backI way) = c) : lok W T xs ((M.set c way).set o (backI way)) = true := by
  obtain ⟨hr, hlen, hg⟩ := lok_rv h
  have hgd : ∀ j : Nat, ((M.set c way).set o (backI way)).getD j 0 = if j = o then backI way else if j = c then way else M.getD j 0 := fun j => getD_set2 (by omega) (by omega)
  obtain ⟨M', hM⟩ : ∃ M', M' = (M.set c way).set o (backI way) := ⟨_, rfl⟩
  rw [← hM] at hgd ⊢
  have hlM : M'.length = xs.length := by rw [hM]; simp [-List.getD_eq_getElem?_getD, hlen]
  clear hM
  unfold freeB at hfc hfo
  rw [Bool.and_eq_true, beq_iff_eq] at hfc hfo
  unfold lok goodN
  rw [hr, hlM]
  simp only [BEq.rfl, Bool.true_and, List.all_eq_true]
  intro j hj
  have hjn := List.mem_range.1 hj
  unfold goodB bothB
  rw [hgd j]
  by_cases e1 : j = o
  · subst e1
    rw [if_pos rfl, hb]
    have e2 : M'.getD c 0 = way := by rw [hgd c, if_neg (fun e => hne e.symm), if_pos rfl]
    simp only [Int.toNat_natCast]
    rw [e2, hfc.1, hfo.1, back_back hw]
    simp [-List.getD_eq_getElem?_getD]
  · rw [if_neg e1]
    by_cases e2 : j = c
    · subst e2
      rw [if_pos rfl, hs]
      have e3 : M'.getD o 0 = backI way := by rw [hgd o, if_pos rfl]
      simp only [Int.toNat_natCast]
      rw [e3, hfc.1, hfo.1]
      simp [-List.getD_eq_getElem?_getD]
    · rw [if_neg e2]
      have hgj := hg j (by omega)
      unfold goodB at hgj
      rw [Bool.or_eq_true] at hgj
      rcases hgj with hz | hbj
      · rw [hz]; rfl
      · have hbj' := hbj
        unfold bothB at hbj
        simp only [Bool.and_eq_true, decide_eq_true_eq, beq_iff_eq] at hbj
        obtain ⟨⟨⟨h0, hxj⟩, hxp⟩, hbk⟩ := hbj
        by_cases hz : M.getD j 0 = 0
        · rw [hz]; rfl
        · have hway := lok_way h (k := j) (by omega)
          have hnz := back_nz hway.1
          have p1 : (stepI W T j (M.getD j 0)).toNat ≠ o := fun e => by rw [e, hfo.2] at hbk; exact hnz hbk.symm
          have p2 : (stepI W T j (M.getD j 0)).toNat ≠ c := fun e => by rw [e, hfc.2] at hbk; exact hnz hbk.symm
          rw [hgd _, if_neg p1, if_neg p2, hbk, hxj, hxp]
          simp [-List.getD_eq_getElem?_getD, h0]

end Go.Proofs.Ytpcajacekmidbaa

namespace Go.Proofs.Ytpcajacekmidbaa
open Go.RowKit
set_option linter.unusedVariables false
set_option maxRecDepth 100000
set_option linter.unusedSimpArgs false

end Go.Proofs.Ytpcajacekmidbaa

namespace Go.Proofs.Ytpcajacekmidbaa
open Go.RowKit
set_option linter.unusedVariables false
set_option maxRecDepth 100000
set_option linter.unusedSimpArgs false

theorem rv_pos {W T : Int} {n : Nat} (h1 : 1 ≤ W) (h2 : 1 ≤ T) (h : (n : Int) = W * T) : 0 < n := by
  have := Int.mul_pos (show 0 < W by omega) (show 0 < T by omega)
  omega

end Go.Proofs.Ytpcajacekmidbaa

namespace Go.Proofs.Ytpcajacekmidbaa
open Go.RowKit
set_option linter.unusedVariables false
set_option maxRecDepth 100000
set_option linter.unusedSimpArgs false

theorem ret_slB {a : Option Addr} {n n' cap : Nat} {b b' : Bool} (h : n = n') (hb : b = b') : Ending.returned (.tuple #[.slice a n cap, .bool b]) = .returned (.tuple #[.slice a n' cap, .bool b']) := by rw [h, hb]
theorem sStepTo_is (W T : Int) (k way : Int) (a : Option Addr) (n cap : Nat) (xs : List Bool) (w : World) {o : Int} (hn : n = xs.length) (hn' : n ≤ 1048576) (ha : BoolsAt w a xs) (h : rv W T xs = true) (ho : cellB W T n k way = o) :
    Calls Try.prog 150 #[.agg #[.int .i64 W, .int .i64 T, .slice a n cap], .int .i64 k, .int .i64 way] w fun e w' => e = .returned (.int .i64 o) ∧ Below w.heap.size w w' := by
  have e : stepTo W T xs k way = o := by unfold stepTo; rw [if_pos h, ← hn, ho]
  rw [← e]; exact sStepTo_any W T k way a n cap xs w hn hn' ha

/-- What a call of append returned is a list of the call's own. -/
theorem own_of_row {w : World} {B n : Nat} {v : Value} {L : List Int} {cs : List Value} (h : w.ownsRow B 3 1 v n cs) (hc : cs = L.map (Value.int .i64)) (hn : L.length = n) (h0 : 0 < n) :
    ∃ g cap, v = .slice (some ⟨g, 0, none⟩) n cap ∧ OwnsI w B (.slice (some ⟨g, 0, none⟩) n cap) L := by
  obtain ⟨g, cap, rfl⟩ := form_pos h h0
  exact ⟨g, cap, rfl, OwnsI.ofRow h hc hn⟩

set_option maxHeartbeats 4000000 in
theorem sLayOne_ret (W T : Int) (a : Option Addr) (n cap : Nat) (xs : List Bool) (la : Option Addr) (m lcap : Nat) (L : List Int) (k way : Int) (w : World) (hn : n = xs.length) (hn' : n ≤ 1048576) (hm : m = L.length) (hm' : m ≤ 1048576) (ha : BoolsAt w a xs) (hl : IntsAt w la L) :
    Calls Try.prog 108 #[.agg #[.int .i64 W, .int .i64 T, .slice a n cap], .slice la m lcap, .int .i64 k, .int .i64 way] w (RetLT w (layF W T xs L k way).1.length (layF W T xs L k way).1 (layF W T xs L k way).2) := by
  have HN := Lib.hid hn; clear hn
  have HM := Lib.hid hm; clear hm
  have HA := Lib.hid ha; clear ha
  have HL := Lib.hid hl; clear hl
  cases h : lok W T xs L
  · have e : layF W T xs L k way = ([], false) := by unfold layF; rw [h]; rfl
    rw [e]
    have H := Lib.hid h; clear h e
    go_enter Try.func108, Try.ntmps108
    go_wp2_with fail
    refine (sLaidOk_any _ _ _ _ _ xs _ _ _ L _ HN.out hn' HM.out hm' (HA.out.one _) (HL.out.one _)).mono ?_; rintro e w1 ⟨rfl, hb1⟩
    have b1 := below_seq (below1 w _) hb1
    rw [H.out]
    go_wp2
    go_ret2
    exact ⟨some ⟨w1.heap.size, 0, none⟩, 0, rfl, World.ownsRow_made w1 #[] 0 b1.size (Nat.zero_le _) rfl, below_seq b1 (below1 _ _)⟩
  · obtain ⟨h1, h2, h3⟩ := lok_rv h
    have hle : m = n := by rw [HM.out, HN.out]; exact h2
    subst hle
    obtain ⟨v1, v2, v3, v4, v5, _⟩ := rv_true h1
    have HV : Hid ((m : Int) = W * T) := by show (m : Int) = W * T; rw [HN.out]; exact v5
    have hpos := rv_pos v1 v3 HV.out
    have e : layF W T xs L k way = (laidL W T xs L k way, canLay W T xs L k way) := by unfold layF; rw [h]; rfl
    rw [e]
    have HE : Hid ((laidL W T xs L k way).length = m) := by show _ = m; rw [laidL_len, HM.out]
    clear h2 h3 v5 e
    have HR := Lib.hid h1; clear h1
    have H := Lib.hid h; clear h
    obtain ⟨i0, hi, hz0, hz1, hz2⟩ := info_parts infoInt
    obtain ⟨lb, lo, rfl, -⟩ := HL.out 0 (by rw [← HM.out]; exact hpos)
    obtain ⟨o, hco⟩ : ∃ o, cellB W T m k way = o := ⟨_, rfl⟩
    have bd := cellB_bd (n := m) (k := k) (way := way) v1 HV.out
    rw [hco] at bd
    have HCO := Lib.hid hco; clear hco
    go_enter Try.func108, Try.ntmps108
    go_wp2_with fail
    refine (sLaidOk_any _ _ _ _ _ xs _ _ _ L _ HN.out hn' HM.out hm' (HA.out.one _) (HL.out.one _)).mono ?_; rintro e w1 ⟨rfl, hb1⟩
    have p1 := heap_later (heap_new w _) hb1
    have b1 := below_seq (below1 w _) hb1
    have z1 := b1.size
    rw [H.out]
    clear hb1
    have HL1 := Lib.hid ((HL.out.below b1).one (.cells #[] 3 (0, 0)))
    have p1' := heap_later p1 (below1 w1 (.cells #[] 3 (0, 0)))
    obtain ⟨c0, c1, c2⟩ := cells3 p1'
    go_wp2_with (at_builtin; refine wpList_append_own _ rfl _ _ 26 rfl w1.heap.size 3 i0 (.int .i64 0) 1 8 Try.underlying26 hi hz0 hz1 hz2 rfl (by decide) _ _ _ rfl (World.ownsRow_made w1 #[] 0 (Nat.le_refl _) (Nat.zero_le _) rfl) ⟨lb, lo, none⟩ m lcap (L.map (Value.int .i64)) rfl (by rw [List.length_map, ← HM.out]; omega) (ints_news HL1.out) (ints_one L) (by unfold maxLen; omega) (by omega) (by simp) ?_; intro v' w2 hown hgrow hnil; clear hnil; rw [Nat.zero_add, List.nil_append] at hown; obtain ⟨g, gc, rfl, ho2⟩ := own_of_row (L := L) hown rfl HM.out.symm hpos; clear hown; have hgw : w.heap.size < g := Nat.lt_of_lt_of_le (heap_lt p1) ho2.lt.1; have hg2 : (w1.alloc (.cells #[] 3 (0, 0))).grownBy w2 (some w1.heap.size) := hgrow; clear hgrow; have b2 := below_grown (below_seq b1 (below1 _ _)) hg2 (Nat.le_refl _) (fun k e => by cases e; exact z1); have p2 := heap_grown p1' hg2 (by simp; have := heap_lt p1; omega); clear c0 c1 c2; obtain ⟨c0, c1, c2⟩ := cells3 p2; have HB2 := Lib.hid b2; clear hg2)
    have O2 := Lib.hid (ho2.lower z1); clear ho2
    refine (sStepTo_is _ _ _ _ _ _ _ xs _ HN.out hn' (HA.out.below HB2.out) HR.out HCO.out).mono ?_; rintro e w3 ⟨rfl, hb3⟩
    have p3 := heap_later p2 hb3
    clear c0 c1 c2
    obtain ⟨c0, c1, c2⟩ := cells3 p3
    have b3 := Lib.hid (below_seq HB2.out hb3)
    have O3 := Lib.hid (O2.out.below hb3)
    have A3 := Lib.hid (HA.out.below b3.out)
    have I3 := Lib.hid (HL.out.below b3.out)
    clear O2 hb3 p2 p1 p1' HL1 b2 b1
    by_cases h0 : o < 0
    · have HC : Hid (canLay W T xs L k way = false) := canLay_neg (by rw [← HN.out, HCO.out]; exact h0)
      have HLL : Hid (laidL W T xs L k way = L) := by show _ = _; unfold laidL; rw [HC.out]; rfl
      have h0d : decide (o < 0) = true := by simpa using h0
      clear bd
      go_wp2
      go_ret2
      exact ⟨some ⟨g, 0, none⟩, gc, ret_slB HE.out.symm HC.out.symm, by rw [HE.out, HLL.out]; exact O3.out, b3.out⟩
    · obtain ⟨k0, k1, o1, ok, hway⟩ := bd (by omega)
      clear bd
      obtain ⟨kn, rfl⟩ : ∃ kn : Nat, k = kn := ⟨k.toNat, by omega⟩
      obtain ⟨on, rfl⟩ : ∃ on : Nat, o = on := ⟨o.toNat, by omega⟩
      have hk : kn < m := by omega
      have hon : on < m := by omega
      have hw : 0 ≤ way ∧ way ≤ 1000 := by simp only [okOf, decide_eq_true_eq] at hway; omega
      obtain ⟨hw0, hw1⟩ := hw
      have hne : ¬ kn = on := by omega
      have h0d : decide ((on : Int) < 0) = false := by simp
      have e1 : (kn : Int) < m := by omega
      have e2 : (on : Int) < m := by omega
      clear hway ok k0 k1 o1 h0
      obtain ⟨xk, hxk⟩ : ∃ x, x = xs.getD kn false := ⟨_, rfl⟩
      obtain ⟨xo, hxo⟩ : ∃ x, x = xs.getD on false := ⟨_, rfl⟩
      obtain ⟨lk, hlk⟩ : ∃ x, x = L.getD kn 0 := ⟨_, rfl⟩
      obtain ⟨lq, hlq⟩ : ∃ x, x = L.getD on 0 := ⟨_, rfl⟩
      obtain ⟨xb, xf, rfl, -⟩ := A3.out kn (by rw [← HN.out]; exact hk)
      have qk := A3.out.cellAt (i := kn) (by rw [← HN.out]; exact hk)
      have qo := A3.out.cellAt (i := on) (by rw [← HN.out]; exact hon)
      have rk := I3.out.cellAt (i := kn) (by rw [← HM.out]; exact hk)
      have ro := I3.out.cellAt (i := on) (by rw [← HM.out]; exact hon)
      rw [← hxk] at qk; rw [← hxo] at qo; rw [← hlk] at rk; rw [← hlq] at ro
      have HFK : Hid (freeB xs L kn = (xk && (lk == 0))) := by show _ = _; rw [hxk, hlk]; rfl
      have HFO : Hid (freeB xs L on = (xo && (lq == 0))) := by show _ = _; rw [hxo, hlq]; rfl
      clear hxk hxo hlk hlq
      have HCL : Hid (canLay W T xs L kn way = (freeB xs L kn && freeB xs L on)) := by
        show _ = _; unfold canLay; rw [← HN.out, HCO.out]; simp
      by_cases hall : (xk = true ∧ xo = true) ∧ lk = 0 ∧ lq = 0
      · obtain ⟨⟨rfl, rfl⟩, rfl, rfl⟩ := hall
        have HC : Hid (canLay W T xs L kn way = true) := by show _ = _; rw [HCL.out, HFK.out, HFO.out]; rfl
        have HLL : Hid (laidL W T xs L kn way = (L.set kn way).set on (backI way)) := by
          show _ = _; unfold laidL; rw [HC.out, ← HN.out, HCO.out]; simp
        have s1 := OwnsI.set O3.out kn way
        have s2 := OwnsI.set s1.1 on (backI way)
        have hx1 := O3.out.cell (k := kn) (by rw [← HM.out]; exact hk)
        have hx2 := O3.out.cell (k := on) (by rw [← HM.out]; exact hon)
        have hz1 := O3.out.free kn
        have hz2 := O3.out.free on
        have HS := Lib.hid s2.1
        have HG := Lib.hid (grown_seq s1.2 s2.2)
        clear s1 s2
        have y1 := hx1
        go_wp2_with fail
        refine (l2Back_any _ _ hw0 hw1).mono ?_; rintro e w4 ⟨rfl, rfl⟩
        go_wp2
        go_ret2
        exact ⟨some ⟨g, 0, none⟩, gc, ret_slB HE.out.symm HC.out.symm, by rw [HE.out, HLL.out]; exact HS.out, below_grown b3.out HG.out (Nat.le_refl _) (fun k e => by cases e; exact O3.out.lt.1)⟩
      · have HC : Hid (canLay W T xs L kn way = false) := by
          show _ = _; rw [HCL.out, HFK.out, HFO.out]
          cases xk <;> cases xo <;> simp at hall ⊢
          exact hall
        have HLL : Hid (laidL W T xs L kn way = L) := by show _ = _; unfold laidL; rw [HC.out]; rfl
        cases xk
        · clear hall
          go_wp2
          go_ret2
          exact ⟨some ⟨g, 0, none⟩, gc, ret_slB HE.out.symm HC.out.symm, by rw [HE.out, HLL.out]; exact O3.out, b3.out⟩
        · cases xo
          · clear hall
            go_wp2
            go_ret2
            exact ⟨some ⟨g, 0, none⟩, gc, ret_slB HE.out.symm HC.out.symm, by rw [HE.out, HLL.out]; exact O3.out, b3.out⟩
          · by_cases hlk : lk = 0
            · have hlq : lq ≠ 0 := fun e => hall ⟨⟨rfl, rfl⟩, hlk, e⟩
              subst hlk
              clear hall
              have t1 : (lq != 0) = true := by simpa using hlq
              have t2 : (lq == 0) = false := by simpa using hlq
              go_wp2
              go_ret2
              exact ⟨some ⟨g, 0, none⟩, gc, ret_slB HE.out.symm HC.out.symm, by rw [HE.out, HLL.out]; exact O3.out, b3.out⟩
            · clear hall
              have t1 : (lk != 0) = true := by simpa using hlk
              have t2 : (lk == 0) = false := by simpa using hlk
              go_wp2
              go_ret2
              exact ⟨some ⟨g, 0, none⟩, gc, ret_slB HE.out.symm HC.out.symm, by rw [HE.out, HLL.out]; exact O3.out, b3.out⟩

end Go.Proofs.Ytpcajacekmidbaa

namespace Go.Proofs.Ytpcajacekmidbaa
open Go.RowKit
set_option linter.unusedVariables false
set_option maxRecDepth 100000
set_option linter.unusedSimpArgs false

def many (W T : Int) (xs : List Bool) : Int := if rv W T xs then cnt xs else -1

set_option maxHeartbeats 1000000 in
theorem sCellsMany_any (W T : Int) (a : Option Addr) (n cap : Nat) (xs : List Bool) (w : World) (hn : n = xs.length) (hn' : n ≤ 1048576) (ha : BoolsAt w a xs) :
    Calls Try.prog 146 #[.agg #[.int .i64 W, .int .i64 T, .slice a n cap]] w fun e w' => e = .returned (.int .i64 (many W T xs)) ∧ Below w.heap.size w w' := by
  have HN := Lib.hid hn; clear hn
  have HA := Lib.hid ha; clear ha
  by_cases h : rv W T xs = true
  · go_enter Try.func146, Try.ntmps146
    go_wp2_with fail
    refine (sRegionValid_any _ _ _ _ _ xs _ HN.out hn' (HA.out.one _)).mono ?_; rintro e w1 ⟨rfl, hb1⟩
    have p1 := heap_later (heap_new w _) hb1
    have b1 := below_seq (below1 _ _) hb1
    obtain ⟨c0, c1, c2⟩ := cells3 p1
    go_wp2_with fail
    refine (l1Count_any _ _ _ xs _ HN.out hn' (HA.out.below b1)).mono ?_; rintro e w2 ⟨rfl, rfl⟩
    go_wp2
    go_ret
    exact ⟨ret_int (by unfold many; rw [if_pos h]), b1⟩
  · rw [Bool.not_eq_true] at h
    go_enter Try.func146, Try.ntmps146
    go_wp2_with fail
    refine (sRegionValid_any _ _ _ _ _ xs _ HN.out hn' (HA.out.one _)).mono ?_; rintro e w1 ⟨rfl, hb1⟩
    go_wp2
    go_ret
    exact ⟨ret_int (by unfold many; rw [h]; rfl), below_seq (below1 _ _) hb1⟩

set_option maxHeartbeats 1000000 in
theorem iCellsMany_any (W T : Int) (a : Option Addr) (n cap : Nat) (xs : List Bool) (w : World) (hn : n = xs.length) (hn' : n ≤ 1048576) (ha : BoolsAt w a xs) :
    Calls Try.prog 52 #[.agg #[.int .i64 W, .int .i64 T, .slice a n cap]] w fun e w' => e = .returned (.int .i64 (many W T xs)) ∧ Below w.heap.size w w' := by
  have HN := Lib.hid hn; clear hn
  have HA := Lib.hid ha; clear ha
  by_cases h : rv W T xs = true
  · go_enter Try.func52, Try.ntmps52
    go_wp2_with fail
    refine (iRegionValid_any _ _ _ _ _ xs _ HN.out hn' (HA.out.one _)).mono ?_; rintro e w1 ⟨rfl, hb1⟩
    have p1 := heap_later (heap_new w _) hb1
    have b1 := below_seq (below1 _ _) hb1
    obtain ⟨c0, c1, c2⟩ := cells3 p1
    go_wp2_with fail
    refine (cellsIn_any _ _ _ _ _ xs _ HN.out hn' (HA.out.below b1)).mono ?_; rintro e w2 ⟨rfl, hb2⟩
    go_wp2
    go_ret
    exact ⟨ret_int (by unfold many; rw [if_pos h]), below_seq b1 hb2⟩
  · rw [Bool.not_eq_true] at h
    go_enter Try.func52, Try.ntmps52
    go_wp2_with fail
    refine (iRegionValid_any _ _ _ _ _ xs _ HN.out hn' (HA.out.one _)).mono ?_; rintro e w1 ⟨rfl, hb1⟩
    go_wp2
    go_ret
    exact ⟨ret_int (by unfold many; rw [h]; rfl), below_seq (below1 _ _) hb1⟩

end Go.Proofs.Ytpcajacekmidbaa

namespace Go.Proofs.Ytpcajacekmidbaa
open Go.RowKit
set_option linter.unusedVariables false
set_option maxRecDepth 100000
set_option linter.unusedSimpArgs false

end Go.Proofs.Ytpcajacekmidbaa

namespace Go.Proofs.Ytpcajacekmidbaa
open Go.RowKit
set_option linter.unusedVariables false
set_option maxRecDepth 100000
set_option linter.unusedSimpArgs false

theorem made_bools (N : Nat) : (madeCells (Value.bool false).cells (N * 1)).toList = (List.replicate N false).map Value.bool := by
  rw [show (Value.bool false).cells = #[.bool false] from rfl, toList_madeCells_one]; simp

set_option maxHeartbeats 400000 in
theorem bareField_any (W T : Int) (N : Nat) (w : World) (hW0 : 0 ≤ W) (hW1 : W ≤ 100) (hT0 : 0 ≤ T) (hT1 : T ≤ 100) (hN : W * T = N) (hN1 : N ≤ 10000) :
    Calls Try.prog 104 #[.int .i64 W, .int .i64 T] w fun e w' => ∃ g, e = .returned (.agg #[.int .i64 W, .int .i64 T, .slice (some ⟨g, 0, none⟩) N N]) ∧ OwnsB w' (w.heap.size + 1) (.slice (some ⟨g, 0, none⟩) N N) (List.replicate N false) ∧ Below w.heap.size w w' := by
  obtain ⟨i0, hi, hz0, hz1, hz2⟩ := info_parts infoBool
  have b1 : 0 ≤ W * T := by omega
  have b2 : W * T ≤ 10000 := by omega
  have HNN := Lib.hid hN; clear hN
  go_enter Try.func104, Try.ntmps104
  go_wp2_with (at_make; refine wpList_make_full _ rfl _ _ 23 rfl (w.heap.size + 1) 4 i0 (.bool false) 1 Try.underlying23 hi hz0 hz1 _ _ _ _ N rfl rfl HNN.out HNN.out (by rw [hz2]; omega) (by unfold maxLen; omega) (by simp) ?_; intro w1 hown hgrow; have hb := grown_below hgrow; obtain ⟨hc, hf⟩ := bcell hb; have hz : w.heap.size + 1 ≤ w1.heap.size := (by have := hb.size; simp at this; omega); have HOW := Lib.hid hown; clear hown)
  refine bodyPost_ret (v := .agg #[.int .i64 W, .int .i64 T, .slice (some ⟨w.heap.size + 1, 0, none⟩) N N]) (by simp [results, Try.results104, go_sem, hc, hz]) rfl ⟨_, rfl, ?_, ?_⟩
  · have h := HOW.out
    rw [made_bools] at h
    have h' : OwnsB w1 (w.heap.size + 1) (.slice (some ⟨w.heap.size + 1, 0, none⟩) N N) (List.replicate N false) := by unfold OwnsB; simpa using h
    exact h'.set3 (by simp) _ _ _
  · exact below_set3 (below_seq (below1 _ _) hb) (Nat.le_refl _) _ _ _

def boxB (W T : Int) : Bool := sidesB W T && decide (W * T ≤ 24)

theorem boxB_yes {W T : Int} (h : boxB W T = true) : sidesB W T = true ∧ (decide (24 < W * T)) = false ∧ 1 ≤ W ∧ W ≤ 6 ∧ 1 ≤ T ∧ T ≤ 6 ∧ 1 ≤ W * T ∧ W * T ≤ 24 := by
  simp only [boxB, Bool.and_eq_true, decide_eq_true_eq] at h
  have ⟨h1, h2⟩ := h
  simp only [sidesB, decide_eq_true_eq] at h1
  have := mul_bd h1.1 h1.2.1 h1.2.2.1 h1.2.2.2
  exact ⟨h.1, by simp; omega, h1.1, h1.2.1, h1.2.2.1, h1.2.2.2, this.1, h2⟩

set_option maxHeartbeats 1000000 in
theorem iRegionBox_yes (W T : Int) (N : Nat) (w : World) (h : boxB W T = true) (hN : W * T = N) :
    Calls Try.prog 53 #[.int .i64 W, .int .i64 T] w fun e w' => ∃ g, e = .returned (.agg #[.int .i64 W, .int .i64 T, .slice (some ⟨g, 0, none⟩) N N]) ∧ OwnsB w' (w.heap.size + 1) (.slice (some ⟨g, 0, none⟩) N N) (List.replicate N true) ∧ Below w.heap.size w w' := by
  obtain ⟨hs, hm, hW0, hW1, hT0, hT1, hm0, hm1⟩ := boxB_yes h
  clear h
  have hm' : ¬ 24 < W * T := by simpa using hm
  have HNN := Lib.hid hN; clear hN
  go_enter Try.func53, Try.ntmps53
  go_wp2_with (first
    | (go_at_call 101; refine (sidesOk_any _ _ _).mono ?_; rintro e w1 ⟨rfl, rfl⟩)
    | (go_at_call 104; refine (bareField_any W T N _ (by omega) (by omega) (by omega) (by omega) HNN.out (by have := HNN.out; omega)).mono ?_; rintro e w1 ⟨g, rfl, ho, hb⟩; have HO := Lib.hid ho; clear ho))
  have hN24 : N ≤ 24 := by have := HNN.out; omega
  have hg1 : g < w1.heap.size := (HO.out.forms.elim (fun h => by simp at h) (fun ⟨g', c', h, _, h2⟩ => by simp at h; omega))
  have hz : w.heap.size + 1 ≤ w1.heap.size := by have := hb.size; simp at this; omega
  have R0 : RowB w1 (w.heap.size + 1) g N N (fun _ => false) := (RowB.of (HO.out.lower (by simp)) (by simp)).congr (fun i hi => by simp [hi])
  have p1 := heap_later (heap_new w _) hb
  have hb' := below_seq (below1 _ _) hb
  clear HO hb
  go_loopw [6, 24] (fun _ i wr => ∃ k : Nat, k ≤ N ∧ i = .int .i64 k ∧ RowB wr (w.heap.size + 1) g N N (fun j => decide (j < k)) ∧ wr.heap[w.heap.size]? = some (.cells #[.int .i64 0, .int .i64 0, .slice none 0 0] 25 (0, 0)) ∧ wr.heap[w1.heap.size]? = some (.cells #[.int .i64 W, .int .i64 T, .slice (some ⟨g, 0, none⟩) N N] 25 (0, 0)) ∧ Below w.heap.size w wr) (fun _ i _ => N - (intOf i).toNat)
  case atStart => exact ⟨0, Nat.zero_le _, rfl, (R0.below (below1 _ _)).congr (by simp), heap_later p1 (below1 _ _), heap_new _ _, below_seq hb' (below1 _ _)⟩
  case round =>
    obtain ⟨k, hk, rfl, hr, h5, h6, hbel⟩ := hrel
    obtain ⟨c0, c1, c2⟩ := cells3 h6
    by_cases hlt : k < N
    · have hc := hr.cell hlt
      have hf := hr.free k
      have HR := Lib.hid hr; clear hr
      go_wp2
      go_roundw
      case rel =>
        have hs := HR.out.set k true
        exact ⟨k + 1, by omega, by go_num, hs.1.congr (fun i hi => by by_cases e : i = k <;> simp [e]; omega), heap_set_other h5 (by have := HR.out.base; simp; omega) _, heap_set_other h6 (by simp; omega) _, hbel.setCell (by have := HR.out.base; simp; omega) _⟩
      case measure => simp [intOf]; omega
    · obtain rfl : k = N := by omega
      have HR := Lib.hid hr; clear hr
      obtain ⟨d0, d1, d2⟩ := cells3 h5
      have e0 := free3 h5 0
      have e1 := free3 h5 1
      have e2 := free3 h5 2
      go_wp2
      refine bodyPost_ret (v := .agg #[.int .i64 W, .int .i64 T, .slice (some ⟨g, 0, none⟩) k k]) (by simp [results, Try.results53, go_sem, d0, d1, d2]) rfl ⟨_, rfl, ?_, ?_⟩
      · have := (HR.out.congr (f' := fun _ => true) (fun i hi => by simp [hi])).owns
        rw [tab_const] at this
        exact this.set3 (by omega) _ _ _
      · exact below_set3 hbel (Nat.le_refl _) _ _ _
end Go.Proofs.Ytpcajacekmidbaa

namespace Go.Proofs.Ytpcajacekmidbaa
open Go.RowKit
set_option linter.unusedVariables false
set_option maxRecDepth 100000
set_option linter.unusedSimpArgs false

set_option maxHeartbeats 1000000 in
theorem sRegionBox_no (W T : Int) (w : World) (h : boxB W T = false) :
    Calls Try.prog 144 #[.int .i64 W, .int .i64 T] w fun e w' => e = .returned (.agg #[.int .i64 0, .int .i64 0, .slice none 0 0]) ∧ Below w.heap.size w w' := by
  by_cases ha : inB W 1 6 = true
  · by_cases hb : inB T 1 6 = true
    · have h1 : 1 ≤ W ∧ W ≤ 6 := by simpa [inB] using ha
      have h1' : 1 ≤ T ∧ T ≤ 6 := by simpa [inB] using hb
      have h2 : 24 < W * T := by
        have : ¬ W * T ≤ 24 := by intro hh; simp [boxB, sidesB, h1, h1', hh] at h
        omega
      have h3 := mul_bd h1.1 h1.2 h1'.1 h1'.2
      obtain ⟨h3a, h3b⟩ := h3
      clear h h1 h1'
      go_enter Try.func144, Try.ntmps144
      go_wp2_with (go_at_call 51; refine (l1In_any _ _ _ _).mono ?_; rintro e w1 ⟨rfl, rfl⟩)
      exact bodyPost_ret (v := .agg #[.int .i64 0, .int .i64 0, .slice none 0 0]) (by simp [results, Try.results144, go_sem]) rfl ⟨rfl, below1 _ _⟩
    · rw [Bool.not_eq_true] at hb
      clear h
      go_enter Try.func144, Try.ntmps144
      go_wp2_with (go_at_call 51; refine (l1In_any _ _ _ _).mono ?_; rintro e w1 ⟨rfl, rfl⟩)
      exact bodyPost_ret (v := .agg #[.int .i64 0, .int .i64 0, .slice none 0 0]) (by simp [results, Try.results144, go_sem]) rfl ⟨rfl, below1 _ _⟩
  · rw [Bool.not_eq_true] at ha
    clear h
    go_enter Try.func144, Try.ntmps144
    go_wp2_with (go_at_call 51; refine (l1In_any _ _ _ _).mono ?_; rintro e w1 ⟨rfl, rfl⟩)
    exact bodyPost_ret (v := .agg #[.int .i64 0, .int .i64 0, .slice none 0 0]) (by simp [results, Try.results144, go_sem]) rfl ⟨rfl, below1 _ _⟩

theorem boxB_ins {W T : Int} (h : boxB W T = true) : inB W 1 6 = true ∧ inB T 1 6 = true := by
  obtain ⟨_, _, a, b, c, d, _, _⟩ := boxB_yes h
  simp [inB]; omega

set_option maxHeartbeats 1000000 in
theorem sRegionBox_yes (W T : Int) (N : Nat) (w : World) (h : boxB W T = true) (hN : W * T = N) :
    Calls Try.prog 144 #[.int .i64 W, .int .i64 T] w fun e w' => ∃ g c, e = .returned (.agg #[.int .i64 W, .int .i64 T, .slice (some ⟨g, 0, none⟩) N c]) ∧ OwnsB w' (w.heap.size + 2) (.slice (some ⟨g, 0, none⟩) N c) (List.replicate N true) ∧ Below w.heap.size w w' := by
  obtain ⟨i0, hi, hz0, hz1, hz2⟩ := info_parts infoBool
  obtain ⟨hs, hm, hW0, hW1, hT0, hT1, hm0, hm1⟩ := boxB_yes h
  obtain ⟨ha, hb⟩ := boxB_ins h
  clear h
  have hm' : ¬ 24 < W * T := by simpa using hm
  have hN24 : N ≤ 24 := by omega
  have HNN := Lib.hid hN; clear hN
  go_enter Try.func144, Try.ntmps144
  go_wp2_with (first
    | (go_at_call 51; refine (l1In_any _ _ _ _).mono ?_; rintro e w1 ⟨rfl, rfl⟩))
  go_loopw [6] (fun i wr => ∃ (k : Nat) (v : Value), k ≤ N ∧ i = .int .i64 k ∧ OwnsB wr (w.heap.size + 2) v (List.replicate k true) ∧ wr.heap[w.heap.size]? = some (.cells #[.int .i64 0, .int .i64 0, .slice none 0 0] 25 (0, 0)) ∧ wr.heap[w.heap.size + 1]? = some (.cells #[.int .i64 W, .int .i64 T, v] 25 (0, 0)) ∧ Below w.heap.size w wr) (fun i _ => N - (intOf i).toNat)
  case atStart => exact ⟨0, _, Nat.zero_le _, rfl, OwnsB.nil _ _, heap_later (heap_new w _) (below1 _ _), by simpa using heap_new (w.alloc _) _, below2 _ _ _⟩
  case round =>
    obtain ⟨k, v, hk, rfl, hown, h5, h6, hbel⟩ := hrel
    obtain ⟨c0, c1, c2⟩ := cells3 h6
    have hlw := heap_lt h6
    have HO := Lib.hid hown; clear hown
    by_cases hlt : k < N
    · have hlt' : (k : Int) < W * T := by have := HNN.out; omega
      go_wp2_with (at_builtin; refine wpList_append_own _ rfl _ _ 23 rfl (w.heap.size + 2) 4 i0 (.bool false) 1 1 Try.underlying23 hi hz0 hz1 hz2 rfl (by decide) v k ((List.replicate k true).map Value.bool) rfl ((HO.out.alloc _).row (by simp)) ⟨wr.heap.size, 0, none⟩ 1 1 [.bool true] rfl rfl (new_bool _ _) (one_bool _) (by unfold maxLen; omega) (by omega) (by simp; omega) ?_; intro v' w1 hown' hgrow _; obtain ⟨g', cap', rfl⟩ := form_pos hown' (by omega); have p5 := heap_grown (heap_later h5 (below1 _ _)) hgrow (HO.out.ownBlock (by omega)); have p6 := heap_grown (heap_later h6 (below1 _ _)) hgrow (HO.out.ownBlock (by omega)); obtain ⟨d0, d1, d2⟩ := cells3 p6; have e2 := free3 p6 2; have HN' := Lib.hid hown'; clear hown')
      go_roundw
      case rel => exact ⟨k + 1, _, by omega, by go_num, (OwnsB.ofRow HN'.out (rep_snoc _ _) (by simp)).setBelow (by simp) _, heap_set_other p5 (by simp) _, by simpa using block_setCell p6 (i := 2) _, (grown_tail hbel hgrow (by omega) (HO.out.ownAt (by omega))).setCell (by simp) _⟩
      case measure => simp [intOf]; omega
    · obtain rfl : k = N := by omega
      have hge : ¬ (k : Int) < W * T := by have := HNN.out; omega
      obtain ⟨g, cap, rfl⟩ := form_pos (HO.out.row (n := k) (by simp)) (by have := HNN.out; omega)
      obtain ⟨d0, d1, d2⟩ := cells3 h5
      have e0 := free3 h5 0
      have e1 := free3 h5 1
      have e2 := free3 h5 2
      go_wp2
      refine bodyPost_ret (v := .agg #[.int .i64 W, .int .i64 T, .slice (some ⟨g, 0, none⟩) k cap]) (by simp [results, Try.results144, go_sem, d0, d1, d2]) rfl ⟨_, _, rfl, ?_, ?_⟩
      · exact HO.out.set3 (by omega) _ _ _
      · exact below_set3 hbel (Nat.le_refl _) _ _ _
end Go.Proofs.Ytpcajacekmidbaa

namespace Go.Proofs.Ytpcajacekmidbaa
open Go.RowKit
set_option linter.unusedVariables false
set_option maxRecDepth 100000
set_option linter.unusedSimpArgs false

def RetReg (w : World) (W T : Int) (n : Nat) (xs : List Bool) (e : Ending) (w' : World) : Prop :=
  ∃ (a : Option Addr) (cap : Nat), e = .returned (.agg #[.int .i64 W, .int .i64 T, .slice a n cap]) ∧ OwnsB w' w.heap.size (.slice a n cap) xs ∧ Below w.heap.size w w'

def boxF (W T : Int) : Int × Int × List Bool := if boxB W T then (W, T, List.replicate (W * T).toNat true) else (0, 0, [])
theorem boxF_len (W T : Int) : (boxF W T).2.2.length ≤ 24 := by
  unfold boxF
  split
  · next h => have := boxB_yes h; simp; omega
  · simp

theorem sRegionBox_ret (W T : Int) (w : World) : Calls Try.prog 144 #[.int .i64 W, .int .i64 T] w (RetReg w (boxF W T).1 (boxF W T).2.1 (boxF W T).2.2.length (boxF W T).2.2) := by
  by_cases h : boxB W T = true
  · have hb := boxB_yes h
    refine (sRegionBox_yes W T (W * T).toNat w h (by omega)).mono ?_
    rintro e w' ⟨g, c, rfl, ho, hb⟩
    unfold boxF; rw [if_pos h]
    simp only [List.length_replicate]
    exact ⟨_, _, rfl, ho.lower (by omega), hb⟩
  · rw [Bool.not_eq_true] at h
    refine (sRegionBox_no W T w h).mono ?_
    rintro e w' ⟨rfl, hb⟩
    unfold boxF; rw [h]
    exact ⟨_, _, rfl, OwnsB.nil _ _, hb⟩

end Go.Proofs.Ytpcajacekmidbaa

namespace Go.Proofs.Ytpcajacekmidbaa
open Go.RowKit
set_option linter.unusedVariables false
set_option maxRecDepth 100000
set_option linter.unusedSimpArgs false

def cellsOf (N : Nat) (f : Nat → Bool) : Array Value := ((tab N f).map Value.bool).toArray
theorem RowB.block {w : World} {B g N : Nat} {f : Nat → Bool} (h : RowB w B g N N f) : w.heap[g]? = some (.cells (cellsOf N f) 4 (0, 0)) := by
  rcases h.2 with ⟨h', _⟩ | ⟨g', cap', cur, h', _, hg, _, _, hs, ht⟩
  · simp at h'
  · simp only [Value.slice.injEq, Option.some.injEq, Addr.mk.injEq, and_true, true_and] at h'
    obtain ⟨rfl, rfl⟩ := h'
    rw [hg]
    have e : cur = cellsOf N f := by
      apply Array.toList_inj.1
      rw [List.take_of_length_le (by simp [hs])] at ht
      rw [ht]; simp [cellsOf]
    rw [e]
theorem bools_one (xs : List Bool) : ∀ v ∈ xs.map Value.bool, v.oneCell' = true := by
  intro v hv
  simp only [List.mem_map] at hv
  obtain ⟨b, _, rfl⟩ := hv
  rfl

theorem src_cells {w : World} {b off : Nat} {xs : List Bool} (h : ∀ i, i < xs.length → w.cell? ⟨b, off + i, none⟩ = some (.bool (xs.getD i false))) :
    ∀ j v, (xs.map Value.bool)[j]? = some v → w.cell? ((⟨b, off, none⟩ : Addr).add j) = some v := by
  intro j v hv
  have hj : j < xs.length := by
    rcases Nat.lt_or_ge j xs.length with h' | h'
    · exact h'
    · rw [List.getElem?_eq_none (by simpa using h')] at hv; cases hv
  have e : (⟨b, off, none⟩ : Addr).add j = ⟨b, off + j, none⟩ := by unfold Addr.add; split <;> simp_all
  rw [e, h j hj]
  simp [hj] at hv
  simp [hj, hv]

theorem BoolsAt.addr {w : World} {a : Option Addr} {xs : List Bool} (h : BoolsAt w a xs) (hp : 0 < xs.length) : ∃ b off, a = some ⟨b, off, none⟩ ∧ ∀ i, i < xs.length → w.cell? ⟨b, off + i, none⟩ = some (.bool (xs.getD i false)) := by
  obtain ⟨b, off, rfl, _⟩ := h 0 hp
  refine ⟨b, off, rfl, fun i hi => ?_⟩
  obtain ⟨b', off', he, hc⟩ := h i hi
  simp only [Option.some.injEq, Addr.mk.injEq, and_true] at he
  obtain ⟨rfl, rfl⟩ := he
  exact hc

end Go.Proofs.Ytpcajacekmidbaa

namespace Go.Proofs.Ytpcajacekmidbaa
open Go.RowKit
set_option linter.unusedVariables false
set_option maxRecDepth 100000
set_option linter.unusedSimpArgs false

end Go.Proofs.Ytpcajacekmidbaa

namespace Go.Proofs.Ytpcajacekmidbaa
open Go.RowKit
set_option linter.unusedVariables false
set_option maxRecDepth 100000
set_option linter.unusedSimpArgs false

theorem OwnsB.setNe {w : World} {B g n cap : Nat} {xs : List Bool} (h : OwnsB w B (.slice (some ⟨g, 0, none⟩) n cap) xs) {p : Addr} (hp : p.block ≠ g) (x : Value) : OwnsB (w.setCell p x) B (.slice (some ⟨g, 0, none⟩) n cap) xs := by
  rcases h.2 with ⟨h1, _⟩ | ⟨g', cap', cur, h1, hB, hc, r⟩
  · simp at h1
  · have hg : g = g' := by injection h1 with e; injection e with e; injection e
    exact ⟨h.1, Or.inr ⟨g', cap', cur, h1, hB, heap_set_other hc (fun e => hp (by rw [← e, hg])) _, r⟩⟩
theorem OwnsB.set3Ne {w : World} {B g n cap : Nat} {xs : List Bool} (h : OwnsB w B (.slice (some ⟨g, 0, none⟩) n cap) xs) {b : Nat} (hb : b ≠ g) (x y z : Value) : OwnsB (((w.setCell ⟨b, 0, none⟩ x).setCell ⟨b, 1, none⟩ y).setCell ⟨b, 2, none⟩ z) B (.slice (some ⟨g, 0, none⟩) n cap) xs :=
  ((h.setNe (p := ⟨b, 0, none⟩) hb x).setNe (p := ⟨b, 1, none⟩) hb y).setNe (p := ⟨b, 2, none⟩) hb z

theorem ne_own {x y : Nat} (h : x ≠ y) : (some x : Option Nat) ≠ some y := fun e => h (Option.some.inj e)

theorem emptyRow (w : World) {B : Nat} (hB : B ≤ w.heap.size) : (w.alloc (.cells #[] 4)).ownsRow B 4 1 (.slice (some ⟨w.heap.size, 0, none⟩) 0 0) 0 [] :=
  World.ownsRow_made w #[] 0 hB (Nat.zero_le _) rfl

theorem emptyRowAt (w : World) {B k : Nat} (hk : w.heap.size = k) (hB : B ≤ w.heap.size) : (w.alloc (.cells #[] 4)).ownsRow B 4 1 (.slice (some ⟨k, 0, none⟩) 0 0) 0 [] := by subst hk; exact emptyRow w hB

end Go.Proofs.Ytpcajacekmidbaa
