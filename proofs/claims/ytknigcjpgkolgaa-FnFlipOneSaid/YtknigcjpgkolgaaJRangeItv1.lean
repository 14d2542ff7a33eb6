/- All tilings with the dominoes of a list: what the iterator over them yields, and what lies in the heap for it. Merged of: IterM, Iter, RangeIt. -/
import Derived.Test.YtknigcjpgkolgaaJLaid20
import Derived.Test.YtknigcjpgkolgaaJSqM
namespace Go.Proofs.Ytknigcjpgkolgaa
open Go.RowKit
set_option linter.unusedVariables false
set_option maxRecDepth 100000
set_option linter.unusedSimpArgs false

/-- How many of the first k entries are a direction. -/
def wayN (L : List Int) (way : Int) (k : Nat) : Nat := (List.range k).countP fun i => L.getD i 0 == way
theorem wayN_succ (L : List Int) (way : Int) (k : Nat) : wayN L way (k + 1) = wayN L way k + if L.getD k 0 == way then 1 else 0 := by
  unfold wayN
  rw [List.range_succ, List.countP_append]
  simp [List.countP_cons]
theorem wayN_le (L : List Int) (way : Int) (k : Nat) : wayN L way k ≤ k := by
  have := List.countP_le_length (p := fun i => L.getD i 0 == way) (l := List.range k)
  rw [List.length_range] at this; exact this
def flatN (W T : Int) (xs : List Bool) (L : List Int) : Int := if lok W T xs L then wayN L 1 L.length else -1

end Go.Proofs.Ytknigcjpgkolgaa

namespace Go.Proofs.Ytknigcjpgkolgaa
open Go.RowKit
set_option linter.unusedVariables false
set_option maxRecDepth 100000
set_option linter.unusedSimpArgs false

end Go.Proofs.Ytknigcjpgkolgaa

namespace Go.Proofs.Ytknigcjpgkolgaa
open Go.RowKit
set_option linter.unusedVariables false
set_option maxRecDepth 100000
set_option linter.unusedSimpArgs false

end Go.Proofs.Ytknigcjpgkolgaa

namespace Go.Proofs.Ytknigcjpgkolgaa
open Go.RowKit
set_option linter.unusedVariables false
set_option maxRecDepth 100000
set_option linter.unusedSimpArgs false

end Go.Proofs.Ytknigcjpgkolgaa

namespace Go.Proofs.Ytknigcjpgkolgaa
open Go.RowKit
set_option linter.unusedVariables false
set_option maxRecDepth 100000
set_option linter.unusedSimpArgs false

end Go.Proofs.Ytknigcjpgkolgaa

namespace Go.Proofs.Ytknigcjpgkolgaa
open Go.RowKit
set_option linter.unusedVariables false
set_option maxRecDepth 100000
set_option linter.unusedSimpArgs false

end Go.Proofs.Ytknigcjpgkolgaa

namespace Go.Proofs.Ytknigcjpgkolgaa
open Go.RowKit
set_option linter.unusedVariables false
set_option maxRecDepth 100000
set_option linter.unusedSimpArgs false

end Go.Proofs.Ytknigcjpgkolgaa

namespace Go.Proofs.Ytknigcjpgkolgaa
open Go.RowKit
set_option linter.unusedVariables false
set_option maxRecDepth 100000
set_option linter.unusedSimpArgs false

end Go.Proofs.Ytknigcjpgkolgaa

namespace Go.Proofs.Ytknigcjpgkolgaa
open Go.RowKit
set_option linter.unusedVariables false
set_option maxRecDepth 100000
set_option linter.unusedSimpArgs false

theorem layF_len (W T : Int) (xs : List Bool) (L : List Int) (k way : Int) : (layF W T xs L k way).1.length ≤ L.length := by
  unfold layF; split
  · rw [laidL_len]; exact Nat.le_refl _
  · simp
def liftF (W T : Int) (xs : List Bool) (L : List Int) (k : Int) : List Int × Bool :=
  if lok W T xs L then (liftL W T L k, canLift L k) else ([], false)
theorem liftL_len (W T : Int) (L : List Int) (k : Int) : (liftL W T L k).length = L.length := by
  unfold liftL; split <;> simp
theorem liftF_len (W T : Int) (xs : List Bool) (L : List Int) (k : Int) : (liftF W T xs L k).1.length ≤ L.length := by
  unfold liftF; split
  · rw [liftL_len]; exact Nat.le_refl _
  · simp

end Go.Proofs.Ytknigcjpgkolgaa

namespace Go.Proofs.Ytknigcjpgkolgaa
open Go.RowKit
set_option linter.unusedVariables false
set_option maxRecDepth 100000
set_option linter.unusedSimpArgs false

end Go.Proofs.Ytknigcjpgkolgaa

namespace Go.Proofs.Ytknigcjpgkolgaa
open Go.RowKit
set_option linter.unusedVariables false
set_option maxRecDepth 100000
set_option linter.unusedSimpArgs false

end Go.Proofs.Ytknigcjpgkolgaa

namespace Go.Proofs.Ytknigcjpgkolgaa
open Go.RowKit
set_option linter.unusedVariables false
set_option maxRecDepth 100000
set_option linter.unusedSimpArgs false

theorem lift_on {W T : Int} {xs : List Bool} {L : List Int} {n kn : Nat} (h : lok W T xs L = true) (hW : 1 ≤ W) (hn : n = xs.length) (hWT : (n : Int) = W * T) (hk : kn < n) (hz : L.getD kn 0 ≠ 0) :
    ∃ on : Nat, on < n ∧ on ≠ kn ∧ stepI W T kn (L.getD kn 0) = on ∧ cellB W T n kn (L.getD kn 0) = on := by
  have hb := lok_both h (k := kn) (by rw [lok_len' h, ← hn]; exact hk) hz
  simp only [bothB, Bool.and_eq_true, decide_eq_true_eq] at hb
  have h0 := hb.1.1.1
  have hs := step_bd (W := W) (T := T) (k := kn) (way := L.getD kn 0) hW (by omega) (by rw [← hWT]; omega)
  have hne := step_ne hW h0 (by omega : (0 : Int) ≤ kn)
  refine ⟨(stepI W T kn (L.getD kn 0)).toNat, by omega, by omega, by omega, ?_⟩
  unfold cellB
  rw [if_pos ⟨by omega, by omega⟩]
  omega

end Go.Proofs.Ytknigcjpgkolgaa

namespace Go.Proofs.Ytknigcjpgkolgaa
open Go.RowKit
set_option linter.unusedVariables false
set_option maxRecDepth 100000
set_option linter.unusedSimpArgs false

set_option maxHeartbeats 4000000 in
theorem sLiftOne_ret (W T : Int) (a : Option Addr) (n cap : Nat) (xs : List Bool) (la : Option Addr) (m lcap : Nat) (L : List Int) (k : Int) (w : World) (hn : n = xs.length) (hn' : n ≤ 1048576) (hm : m = L.length) (hm' : m ≤ 1048576) (ha : BoolsAt w a xs) (hl : IntsAt w la L) :
    Calls Try.prog 131 #[.agg #[.int .i64 W, .int .i64 T, .slice a n cap], .slice la m lcap, .int .i64 k] w (RetLT w (liftF W T xs L k).1.length (liftF W T xs L k).1 (liftF W T xs L k).2) := by
  have HN := Lib.hid hn; clear hn
  have HM := Lib.hid hm; clear hm
  have HA := Lib.hid ha; clear ha
  have HL := Lib.hid hl; clear hl
  cases h : lok W T xs L
  · have e : liftF W T xs L k = ([], false) := by unfold liftF; rw [h]; rfl
    rw [e]
    have H := Lib.hid h; clear h e
    go_enter Try.func131, Try.ntmps131
    go_wp2_with fail
    refine (sLaidOk_any _ _ _ _ _ xs _ _ _ L _ HN.out hn' HM.out hm' (HA.out.one _) (HL.out.one _)).mono ?_; rintro e w1 ⟨rfl, hb1⟩
    have b1 := below_seq (below1 w _) hb1
    rw [H.out]
    go_wp2
    go_ret2
    exact ⟨some ⟨w1.heap.size, 0, none⟩, 0, rfl, World.ownsRow_made w1 #[] 0 b1.size (Nat.zero_le _) rfl, below_seq b1 (below1 _ _)⟩
  · obtain ⟨h1, h2, h3⟩ := lok_rv h
    have hle : m = n := by rw [HM.out, HN.out]; exact h2
    subst hle
    obtain ⟨v1, v2, v3, v4, v5, _⟩ := rv_true h1
    have HV : Hid ((m : Int) = W * T) := by show (m : Int) = W * T; rw [HN.out]; exact v5
    have hpos := rv_pos v1 v3 HV.out
    have e : liftF W T xs L k = (liftL W T L k, canLift L k) := by unfold liftF; rw [h]; rfl
    rw [e]
    have HE : Hid ((liftL W T L k).length = m) := by show _ = m; rw [liftL_len, HM.out]
    clear h2 h3 v5 e
    have HR := Lib.hid h1; clear h1
    have H := Lib.hid h; clear h
    obtain ⟨i0, hi, hz0, hz1, hz2⟩ := info_parts infoInt
    obtain ⟨lb, lo, rfl, hlc⟩ := HL.out 0 (by rw [← HM.out]; exact hpos)
    have HLB : Hid (lb < w.heap.size) := World.block_lt_of_cell? w _ hlc
    clear hlc
    go_enter Try.func131, Try.ntmps131
    go_wp2_with fail
    refine (sLaidOk_any _ _ _ _ _ xs _ _ _ L _ HN.out hn' HM.out hm' (HA.out.one _) (HL.out.one _)).mono ?_; rintro e w1 ⟨rfl, hb1⟩
    have p1 := heap_later (heap_new w _) hb1
    have b1 := below_seq (below1 w _) hb1
    have z1 := b1.size
    rw [H.out]
    clear hb1
    have HL1 := Lib.hid ((HL.out.below b1).one (.cells #[] 3 (0, 0)))
    have p1' := heap_later p1 (below1 w1 (.cells #[] 3 (0, 0)))
    obtain ⟨c0, c1, c2⟩ := cells3 p1'
    go_wp2_with (at_builtin; refine wpList_append_own _ rfl _ _ 26 rfl w1.heap.size 3 i0 (.int .i64 0) 1 8 Try.underlying26 hi hz0 hz1 hz2 rfl (by decide) _ _ _ rfl (World.ownsRow_made w1 #[] 0 (Nat.le_refl _) (Nat.zero_le _) rfl) ⟨lb, lo, none⟩ m lcap (L.map (Value.int .i64)) rfl (by rw [List.length_map, ← HM.out]; omega) (ints_news HL1.out) (ints_one L) (by unfold maxLen; omega) (by omega) (by simp) ?_; intro v' w2 hown hgrow hnil; clear hnil; rw [Nat.zero_add, List.nil_append] at hown; obtain ⟨g, gc, rfl, ho2⟩ := own_of_row (L := L) hown rfl HM.out.symm hpos; clear hown; have hgw : w.heap.size < g := Nat.lt_of_lt_of_le (heap_lt p1) ho2.lt.1; have hg2 : (w1.alloc (.cells #[] 3 (0, 0))).grownBy w2 (some w1.heap.size) := hgrow; clear hgrow; have b2 := below_grown (below_seq b1 (below1 _ _)) hg2 (Nat.le_refl _) (fun k e => by cases e; exact z1); have p2 := heap_grown p1' hg2 (by simp; have := heap_lt p1; omega); clear c0 c1 c2; obtain ⟨c0, c1, c2⟩ := cells3 p2; have HB2 := Lib.hid b2; clear hg2)
    have O2 := Lib.hid (ho2.lower z1); clear ho2
    have O3 := O2
    have b3 := HB2
    have A3 := Lib.hid (HA.out.below b3.out)
    have I3 := Lib.hid (HL.out.below b3.out)
    clear O2 p1 p1' HL1 b2 b1
    cases hk : inB k 0 ((m : Int) - 1)
    · have HC : Hid (canLift L k = false) := by
        show _ = _; unfold canLift; rw [show decide (0 ≤ k ∧ k < (L.length : Int)) = false by rw [← HM.out]; simp only [inB, decide_eq_false_iff_not] at hk; simp; omega]; rfl
      have HLL : Hid (liftL W T L k = L) := by show _ = _; unfold liftL; rw [HC.out]; rfl
      refine (l1In_any _ _ _ _).mono ?_; rintro e w6 ⟨rfl, rfl⟩; rw [hk]
      clear hk
      go_wp2
      go_ret2
      exact ⟨some ⟨g, 0, none⟩, gc, ret_slB HE.out.symm HC.out.symm, by rw [HE.out, HLL.out]; exact O3.out, b3.out⟩
    · have hk2 : 0 ≤ k ∧ k < m := by simp only [inB, decide_eq_true_eq] at hk; omega
      obtain ⟨k0, k1⟩ := hk2
      refine (l1In_any _ _ _ _).mono ?_; rintro e w6 ⟨rfl, rfl⟩; rw [hk]
      clear hk
      obtain ⟨kn, rfl⟩ : ∃ kn : Nat, k = kn := ⟨k.toNat, by omega⟩
      have hk : kn < m := by omega
      obtain ⟨lk, hlk⟩ : ∃ x, x = L.getD kn 0 := ⟨_, rfl⟩
      have rk := I3.out.cellAt (i := kn) (by rw [← HM.out]; exact hk)
      rw [← hlk] at rk
      have HCL : Hid (canLift L kn = (lk != 0)) := by
        show _ = _; unfold canLift; rw [show decide (0 ≤ (kn : Int) ∧ (kn : Int) < (L.length : Int)) = true by rw [← HM.out]; simp; omega, hlk]; simp
      by_cases hz : lk = 0
      · subst hz
        have HC : Hid (canLift L kn = false) := HCL.out
        have HLL : Hid (liftL W T L kn = L) := by show _ = _; unfold liftL; rw [HC.out]; rfl
        clear hlk
        go_wp2
        go_ret2
        exact ⟨some ⟨g, 0, none⟩, gc, ret_slB HE.out.symm HC.out.symm, by rw [HE.out, HLL.out]; exact O3.out, b3.out⟩
      · have HC : Hid (canLift L kn = true) := HCL.out.trans (by simpa using hz)
        obtain ⟨on, o1, o2, o3, o4⟩ := lift_on H.out v1 HN.out HV.out hk (by rw [← hlk]; exact hz)
        have HLL : Hid (liftL W T L kn = (L.set on 0).set kn 0) := by show _ = _; unfold liftL; rw [HC.out, if_pos rfl, Int.toNat_natCast, o3, Int.toNat_natCast]
        rw [← hlk] at o3
        have HO3 := Lib.hid o3; clear o3 o4
        have z2 : (lk == 0) = false := by simpa using hz
        have e1 : (kn : Int) < m := by omega
        have e2 : (on : Int) < m := by omega
        have hlb := HLB.out
        have hg1 : ¬ g = w.heap.size := by omega
        have hg2 : ¬ g = lb := by omega
        have hg3 : ¬ w.heap.size = g := by omega
        have hg4 : ¬ lb = g := by omega
        clear hlk
        go_wp2
        have P2 : w2.drew.heap[w.heap.size]? = some _ := p2
        go_region_held3 (fun w' => w'.cell? ⟨w.heap.size, 0, none⟩ = some (.int .i64 W) ∧ w'.cell? ⟨w.heap.size, 1, none⟩ = some (.int .i64 T) ∧ w'.cell? ⟨w.heap.size, 2, none⟩ = some (.slice a m cap) ∧ w'.cell? ⟨lb, lo + kn, none⟩ = some (.int .i64 lk))
          (go_keep)
          (first
            | (go_at_call 65; refine (l2Step_is _ _ _ _ _ _ _ _ v1 v2 v3 v4 k0 (by rw [← HV.out]; exact k1) HO3.out).mono ?_; rintro e w6 ⟨rfl, hb6⟩; have p6 := heap_later P2 hb6; obtain ⟨c60, c61, c62⟩ := cells3 p6; have k6 := cell_later hb6 (show (World.drew w2).cell? _ = some _ from rk); have O6 := (show OwnsI w2.drew _ _ _ from O3.out).below hb6; have x6 := O6.cell (k := on) (by rw [← HM.out]; exact o1); have f6 := O6.free on; have f7 := O6.free kn))
        have s1 := OwnsI.set O6 on 0
        have s2 := OwnsI.set s1.1 kn 0
        have y1 := s1.1.cell (k := kn) (by rw [List.length_set, ← HM.out]; exact hk)
        have y2 := s1.1.free kn
        have HS := Lib.hid s2.1
        have HG := Lib.hid (grown_seq s1.2 s2.2)
        have HB := Lib.hid (below_seq b3.out (below_seq (drew_below _) hb6))
        have HGL : Hid (w.heap.size ≤ g) := O6.lt.1
        clear s1 s2 O6
        go_wp2
        go_ret2
        exact ⟨some ⟨g, 0, none⟩, gc, ret_slB HE.out.symm HC.out.symm, by rw [HE.out, HLL.out]; exact HS.out, below_grown HB.out HG.out (Nat.le_refl _) (fun k e => by cases e; exact HGL.out)⟩

end Go.Proofs.Ytknigcjpgkolgaa

namespace Go.Proofs.Ytknigcjpgkolgaa
open Go.RowKit
set_option linter.unusedVariables false
set_option maxRecDepth 100000
set_option linter.unusedSimpArgs false

/-- The call returns a list that lies at B or beyond, and a mark. -/
def RetLB (B : Nat) (w : World) (n : Nat) (ys : List Int) (ok : Bool) (e : Ending) (w' : World) : Prop :=
  ∃ a cap, e = .returned (.tuple #[.slice a n cap, .bool ok]) ∧ OwnsI w' B (.slice a n cap) ys ∧ Below w.heap.size w w'

/-- The first completion, and whether there is one; f is more than there are free cells. -/
def compL (W T : Int) (xs : List Bool) : Nat → List Int → List Int × Bool
  | 0, _ => ([], false)
  | f + 1, L =>
    if firstI xs L 0 xs.length < 0 then (L, true)
    else if ((layF W T xs L (firstI xs L 0 xs.length) 1).2 && (compL W T xs f (layF W T xs L (firstI xs L 0 xs.length) 1).1).2) = true then compL W T xs f (layF W T xs L (firstI xs L 0 xs.length) 1).1
    else if ((layF W T xs L (firstI xs L 0 xs.length) 2).2 && (compL W T xs f (layF W T xs L (firstI xs L 0 xs.length) 2).1).2) = true then compL W T xs f (layF W T xs L (firstI xs L 0 xs.length) 2).1
    else ([], false)
theorem compL_succ {W T : Int} {xs : List Bool} {f : Nat} {L : List Int} {c : Int} (h : firstI xs L 0 xs.length = c) (h0 : ¬ c < 0) : compL W T xs (f + 1) L =
    if ((layF W T xs L c 1).2 && (compL W T xs f (layF W T xs L c 1).1).2) = true then compL W T xs f (layF W T xs L c 1).1
      else if ((layF W T xs L c 2).2 && (compL W T xs f (layF W T xs L c 2).1).2) = true then compL W T xs f (layF W T xs L c 2).1 else ([], false) := by
  subst h
  have e : compL W T xs (f + 1) L = if firstI xs L 0 xs.length < 0 then (L, true)
    else if ((layF W T xs L (firstI xs L 0 xs.length) 1).2 && (compL W T xs f (layF W T xs L (firstI xs L 0 xs.length) 1).1).2) = true then compL W T xs f (layF W T xs L (firstI xs L 0 xs.length) 1).1
    else if ((layF W T xs L (firstI xs L 0 xs.length) 2).2 && (compL W T xs f (layF W T xs L (firstI xs L 0 xs.length) 2).1).2) = true then compL W T xs f (layF W T xs L (firstI xs L 0 xs.length) 2).1
    else ([], false) := rfl
  rw [e, if_neg h0]
theorem compL_len (W T : Int) (xs : List Bool) : ∀ f L, (compL W T xs f L).1.length ≤ L.length
  | 0, L => by simp [compL]
  | f + 1, L => by
    unfold compL
    split
    · exact Nat.le_refl _
    · split
      · exact Nat.le_trans (compL_len W T xs f _) (layF_len _ _ _ _ _ _)
      · split
        · exact Nat.le_trans (compL_len W T xs f _) (layF_len _ _ _ _ _ _)
        · simp
/-- How many cells are free. -/
def freeN (xs : List Bool) (L : List Int) : Nat := (List.range xs.length).countP (freeB xs L)
theorem freeN_le (xs : List Bool) (L : List Int) : freeN xs L ≤ xs.length := by
  have := List.countP_le_length (p := freeB xs L) (l := List.range xs.length)
  rwa [List.length_range] at this
theorem layF_yes {W T : Int} {xs : List Bool} {L : List Int} {k way : Int} (h : (layF W T xs L k way).2 = true) : lok W T xs L = true ∧ canLay W T xs L k way = true ∧ (layF W T xs L k way).1 = laidL W T xs L k way := by
  unfold layF at h ⊢
  by_cases hl : lok W T xs L = true
  · rw [if_pos hl] at h ⊢; exact ⟨hl, h, rfl⟩
  · rw [if_neg hl] at h; cases h
theorem layF_length {W T : Int} {xs : List Bool} {L : List Int} {k way : Int} (h : (layF W T xs L k way).2 = true) : (layF W T xs L k way).1.length = L.length := by
  rw [(layF_yes h).2.2, laidL_len]
theorem free_drop {W T : Int} {xs : List Bool} {L : List Int} {k way : Int} (hw : way = 1 ∨ way = 2) (h : (layF W T xs L k way).2 = true) : freeN xs (layF W T xs L k way).1 < freeN xs L := by
  obtain ⟨hl, hc, e⟩ := layF_yes h
  rw [e]
  obtain ⟨hr, hlen, _⟩ := lok_rv hl
  obtain ⟨v1, v2, v3, v4, v5, _⟩ := rv_true hr
  have hc0 := hc
  unfold canLay at hc
  simp only [Bool.and_eq_true, decide_eq_true_eq] at hc
  obtain ⟨⟨h0, h1⟩, h2⟩ := hc
  obtain ⟨k0, k1, o1, ok, hway⟩ := cellB_bd (W := W) (T := T) (n := xs.length) v1 v5 h0
  obtain ⟨kn, rfl⟩ := Int.eq_ofNat_of_zero_le k0
  obtain ⟨on, ho⟩ := Int.eq_ofNat_of_zero_le h0
  rw [ho] at h2 o1 ok
  simp only [Int.toNat_natCast] at h1 h2
  unfold laidL
  rw [if_pos hc0, ho]
  simp only [Int.toNat_natCast]
  have hb : backI way ≠ 0 := by unfold backI; omega
  have hw0 : way ≠ 0 := by omega
  unfold freeN
  refine countP_lt _ _ _ (fun j _ hj => ?_) kn (List.mem_range.2 (by omega)) ?_ h1
  · unfold freeB at hj ⊢
    rw [getD_set1, getD_set1] at hj
    simp only [Bool.and_eq_true, beq_iff_eq] at hj ⊢
    refine ⟨hj.1, ?_⟩
    have h3 := hj.2
    split at h3
    · exact absurd h3 hb
    · split at h3
      · exact absurd h3 hw0
      · exact h3
  · unfold freeB
    rw [getD_set1, getD_set1]
    have hne : ¬ kn = on := by intro e; apply ok; rw [e]
    rw [if_neg (fun q => hne q.1), if_pos ⟨rfl, by omega⟩]
    simp [hw0]
theorem ret_slC {a : Option Addr} {n n' cap : Nat} {b b' : Bool} (h : n = n') (hb : b = b') : Ending.returned (.tuple #[.slice a n cap, .bool b]) = .returned (.tuple #[.slice a n' cap, .bool b']) := by rw [h, hb]

set_option maxHeartbeats 4000000 in
theorem l2Complete_ret (W T : Int) (xs : List Bool) : ∀ (f : Nat) (a : Option Addr) (n cap : Nat) (la : Option Addr) (lcap : Nat) (L : List Int) (B : Nat) (w : World), n = xs.length → n ≤ 1048576 → n = L.length → freeN xs L < f → BoolsAt w a xs → OwnsI w B (.slice la n lcap) L → B ≤ w.heap.size →
    Calls Try.prog 152 #[.agg #[.int .i64 W, .int .i64 T, .slice a n cap], .slice la n lcap] w (RetLB B w (compL W T xs f L).1.length (compL W T xs f L).1 (compL W T xs f L).2) := by
  intro f
  induction f with
  | zero => intro a n cap la lcap L B w _ _ _ h; exact absurd h (Nat.not_lt_zero _)
  | succ f ih =>
  intro a n cap la lcap L B w hn hn' hm hf ha hl hBw
  have HN := Lib.hid hn; clear hn
  have HM := Lib.hid hm; clear hm
  have HA := Lib.hid ha; clear ha
  have HL := Lib.hid hl; clear hl
  have HI := Lib.hid ih; clear ih
  have HF := Lib.hid hf; clear hf
  obtain ⟨fv, hfv⟩ : ∃ fv, firstI xs L 0 n = fv := ⟨_, rfl⟩
  by_cases h0 : fv < 0
  · have HE : Hid (compL W T xs (f + 1) L = (L, true)) := by show _ = _; unfold compL; rw [← HN.out, hfv, if_pos h0]
    have HFV := Lib.hid hfv; clear hfv
    rw [HE.out]
    go_enter Try.func152, Try.ntmps152
    go_wp2_with fail
    refine (l2First_any _ _ _ _ _ xs _ _ L _ HN.out HM.out hn' (HA.out.one _) (OwnsI.at (HL.out.alloc _))).mono ?_; rintro e w1 ⟨rfl, hb1⟩
    have b1 := below_seq (below1 w _) hb1
    rw [HFV.out]
    go_wp2
    go_ret2
    exact ⟨la, lcap, ret_slC HM.out rfl, by rw [← HM.out]; exact HL.out.below b1, b1⟩
  · obtain ⟨c, rfl⟩ : ∃ c : Nat, fv = c := ⟨fv.toNat, by omega⟩
    obtain ⟨V, hV⟩ : ∃ V, compL W T xs (f + 1) L = V := ⟨_, rfl⟩
    have HV : Hid (V = if ((layF W T xs L c 1).2 && (compL W T xs f (layF W T xs L c 1).1).2) = true then compL W T xs f (layF W T xs L c 1).1
      else if ((layF W T xs L c 2).2 && (compL W T xs f (layF W T xs L c 2).1).2) = true then compL W T xs f (layF W T xs L c 2).1 else ([], false)) := by
      show V = _
      rw [← hV]; exact compL_succ (by rw [← HN.out]; exact hfv) h0
    rw [hV]
    clear hV
    have HFV := Lib.hid hfv; clear hfv
    have HB := Lib.hid hBw; clear hBw
    go_enter Try.func152, Try.ntmps152
    go_wp2_with fail
    refine (l2First_any _ _ _ _ _ xs _ _ L _ HN.out HM.out hn' (HA.out.one _) (OwnsI.at (HL.out.alloc _))).mono ?_; rintro e w1 ⟨rfl, hb1⟩
    have p1 := heap_later (heap_new w (.cells #[.int .i64 W, .int .i64 T, .slice a n cap] 25)) hb1
    have B1 := Lib.hid (below_seq (below1 w _) hb1)
    rw [HFV.out]
    clear hb1
    have hc0 : ¬ ((c : Int) < 0) := by omega
    clear h0
    go_wp2
    go_loopw [7] (fun i wr => ∃ wy : Nat, (wy = 1 ∨ wy = 2 ∨ wy = 3) ∧ i = .int .i64 wy ∧ (1 < wy → ((layF W T xs L c 1).2 && (compL W T xs f (layF W T xs L c 1).1).2) = false) ∧ (2 < wy → ((layF W T xs L c 2).2 && (compL W T xs f (layF W T xs L c 2).1).2) = false) ∧
        wr.heap[w.heap.size]? = some (.cells #[.int .i64 W, .int .i64 T, .slice a n cap] 25 (0, 0)) ∧ Below w.heap.size w wr) (fun i _ => 3 - (intOf i).toNat)
    case atStart => exact ⟨1, Or.inl rfl, rfl, fun h => absurd h (by omega), fun h => absurd h (by omega), p1, B1.out⟩
    case round =>
      rename World => wo
      clear p1 B1
      obtain ⟨wy, hwy, rfl, no1, no2, po, bo⟩ := hrel
      have BO := Lib.hid bo; clear bo
      have N1 := Lib.hid no1; clear no1
      have N2 := Lib.hid no2; clear no2
      obtain ⟨c0, c1, c2⟩ := cells3 po
      have zo := BO.out.size
      rcases hwy with rfl | rfl | rfl
      · go_wp2_with fail
        refine (sLayOne_ret _ _ _ _ _ xs _ _ _ L _ _ _ HN.out hn' HM.out (by omega) (HA.out.below BO.out) (OwnsI.at (HL.out.below BO.out))).mono ?_; rintro e w2 ⟨a2, cap2, rfl, ho2, hb2⟩
        have B2 := Lib.hid (below_seq BO.out hb2)
        have p2 := heap_later po hb2
        clear c0 c1 c2
        obtain ⟨c0, c1, c2⟩ := cells3 p2
        have z2 := hb2.size
        clear hb2
        cases hok : (layF W T xs L (c : Int) 1).2
        · have HOK : Hid (((layF W T xs L c 1).2 && (compL W T xs f (layF W T xs L c 1).1).2) = false) := by show _ = _; rw [hok]; rfl
          clear hok
          go_wp2
          go_roundw
          case rel => exact ⟨2, Or.inr (Or.inl rfl), by go_num, fun _ => HOK.out, fun h => absurd h (by omega), p2, B2.out⟩
          case measure => simp [intOf]
        · have hl2 : (layF W T xs L (c : Int) 1).1.length = n := by rw [layF_length hok, HM.out]
          have hfr := free_drop (Or.inl rfl) hok
          have HFR : Hid (freeN xs (layF W T xs L (c : Int) 1).1 < f) := by show _ < _; have := HF.out; omega
          have HL2 := Lib.hid hl2.symm
          rw [hl2] at ho2 ⊢
          have O2 := Lib.hid ho2; clear ho2 hl2 hfr
          have HOK := Lib.hid hok; clear hok
          go_wp2_with fail
          refine (HI.out _ _ _ _ _ _ wo.heap.size _ HN.out hn' HL2.out HFR.out (HA.out.below B2.out) O2.out z2).mono ?_; rintro e w3 ⟨a3, cap3, rfl, ho3, hb3⟩
          have B3 := Lib.hid (below_seq B2.out hb3)
          have p3 := heap_later p2 hb3
          have O3 := Lib.hid (ho3.lower (B' := B) (by have := HB.out; omega))
          clear c0 c1 c2 ho3 hb3
          obtain ⟨c0, c1, c2⟩ := cells3 p3
          cases hdone : (compL W T xs f (layF W T xs L (c : Int) 1).1).2
          · have HD : Hid (((layF W T xs L c 1).2 && (compL W T xs f (layF W T xs L c 1).1).2) = false) := by show _ = _; rw [hdone]; simp
            clear hdone
            go_wp2
            go_roundw
            case rel => exact ⟨2, Or.inr (Or.inl rfl), by go_num, fun _ => HD.out, fun h => absurd h (by omega), p3, B3.out⟩
            case measure => simp [intOf]
          · have HD : Hid (V = compL W T xs f (layF W T xs L (c : Int) 1).1) := by
              show V = _
              have hok := HOK.out
              rw [HV.out]
              rw [if_pos (by rw [hok, hdone]; rfl)]
            have HD2 := Lib.hid hdone; clear hdone
            go_wp2
            go_ret2
            exact ⟨a3, cap3, ret_slC (by rw [HD.out]) (by rw [HD.out, HD2.out]), by rw [HD.out]; exact O3.out, B3.out⟩
      · go_wp2_with fail
        refine (sLayOne_ret _ _ _ _ _ xs _ _ _ L _ _ _ HN.out hn' HM.out (by omega) (HA.out.below BO.out) (OwnsI.at (HL.out.below BO.out))).mono ?_; rintro e w2 ⟨a2, cap2, rfl, ho2, hb2⟩
        have B2 := Lib.hid (below_seq BO.out hb2)
        have p2 := heap_later po hb2
        clear c0 c1 c2
        obtain ⟨c0, c1, c2⟩ := cells3 p2
        have z2 := hb2.size
        clear hb2
        cases hok : (layF W T xs L (c : Int) 2).2
        · have HOK : Hid (((layF W T xs L c 2).2 && (compL W T xs f (layF W T xs L c 2).1).2) = false) := by show _ = _; rw [hok]; rfl
          clear hok
          go_wp2
          go_roundw
          case rel => exact ⟨3, Or.inr (Or.inr rfl), by go_num, fun _ => N1.out (by decide), fun _ => HOK.out, p2, B2.out⟩
          case measure => simp [intOf]
        · have hl2 : (layF W T xs L (c : Int) 2).1.length = n := by rw [layF_length hok, HM.out]
          have hfr := free_drop (Or.inr rfl) hok
          have HFR : Hid (freeN xs (layF W T xs L (c : Int) 2).1 < f) := by show _ < _; have := HF.out; omega
          have HL2 := Lib.hid hl2.symm
          rw [hl2] at ho2 ⊢
          have O2 := Lib.hid ho2; clear ho2 hl2 hfr
          have HOK := Lib.hid hok; clear hok
          go_wp2_with fail
          refine (HI.out _ _ _ _ _ _ wo.heap.size _ HN.out hn' HL2.out HFR.out (HA.out.below B2.out) O2.out z2).mono ?_; rintro e w3 ⟨a3, cap3, rfl, ho3, hb3⟩
          have B3 := Lib.hid (below_seq B2.out hb3)
          have p3 := heap_later p2 hb3
          have O3 := Lib.hid (ho3.lower (B' := B) (by have := HB.out; omega))
          clear c0 c1 c2 ho3 hb3
          obtain ⟨c0, c1, c2⟩ := cells3 p3
          cases hdone : (compL W T xs f (layF W T xs L (c : Int) 2).1).2
          · have HD : Hid (((layF W T xs L c 2).2 && (compL W T xs f (layF W T xs L c 2).1).2) = false) := by show _ = _; rw [hdone]; simp
            clear hdone
            go_wp2
            go_roundw
            case rel => exact ⟨3, Or.inr (Or.inr rfl), by go_num, fun _ => N1.out (by decide), fun _ => HD.out, p3, B3.out⟩
            case measure => simp [intOf]
          · have HD : Hid (V = compL W T xs f (layF W T xs L (c : Int) 2).1) := by
              show V = _
              have hok := HOK.out
              rw [HV.out]
              rw [if_neg (by rw [N1.out (by decide)]; exact Bool.false_ne_true), if_pos (by rw [hok, hdone]; rfl)]
            have HD2 := Lib.hid hdone; clear hdone
            go_wp2
            go_ret2
            exact ⟨a3, cap3, ret_slC (by rw [HD.out]) (by rw [HD.out, HD2.out]), by rw [HD.out]; exact O3.out, B3.out⟩
      · have HD : Hid (V = ([], false)) := by
          show V = _
          rw [HV.out, if_neg (by rw [N1.out (by decide)]; exact Bool.false_ne_true), if_neg (by rw [N2.out (by decide)]; exact Bool.false_ne_true)]
        go_wp2
        go_ret2
        exact ⟨some ⟨wo.heap.size, 0, none⟩, 0, ret_slC (by rw [HD.out]; rfl) (by rw [HD.out]), by rw [HD.out]; exact World.ownsRow_made wo #[] 0 (by have := HB.out; omega) (Nat.zero_le _) rfl, below_seq BO.out (below1 _ _)⟩
end Go.Proofs.Ytknigcjpgkolgaa

namespace Go.Proofs.Ytknigcjpgkolgaa
open Go.RowKit
set_option linter.unusedVariables false
set_option maxRecDepth 100000
set_option linter.unusedSimpArgs false

def compF (W T : Int) (xs : List Bool) (L : List Int) : List Int × Bool := if lok W T xs L then compL W T xs (xs.length + 1) L else ([], false)
theorem compF_len (W T : Int) (xs : List Bool) (L : List Int) : (compF W T xs L).1.length ≤ L.length := by
  unfold compF; split
  · exact compL_len _ _ _ _ _
  · simp

set_option maxHeartbeats 4000000 in
theorem sComplete_ret (W T : Int) (a : Option Addr) (n cap : Nat) (xs : List Bool) (la : Option Addr) (m lcap : Nat) (L : List Int) (w : World) (hn : n = xs.length) (hn' : n ≤ 1048576) (hm : m = L.length) (hm' : m ≤ 1048576) (ha : BoolsAt w a xs) (hl : IntsAt w la L) :
    Calls Try.prog 130 #[.agg #[.int .i64 W, .int .i64 T, .slice a n cap], .slice la m lcap] w (RetLT w (compF W T xs L).1.length (compF W T xs L).1 (compF W T xs L).2) := by
  have HN := Lib.hid hn; clear hn
  have HM := Lib.hid hm; clear hm
  have HA := Lib.hid ha; clear ha
  have HL := Lib.hid hl; clear hl
  cases h : lok W T xs L
  · have e : compF W T xs L = ([], false) := by unfold compF; rw [h]; rfl
    rw [e]
    have H := Lib.hid h; clear h e
    go_enter Try.func130, Try.ntmps130
    go_wp2_with fail
    refine (sLaidOk_any _ _ _ _ _ xs _ _ _ L _ HN.out hn' HM.out hm' (HA.out.one _) (HL.out.one _)).mono ?_; rintro e w1 ⟨rfl, hb1⟩
    have b1 := below_seq (below1 w _) hb1
    rw [H.out]
    go_wp2
    go_ret2
    exact ⟨some ⟨w1.heap.size, 0, none⟩, 0, rfl, World.ownsRow_made w1 #[] 0 b1.size (Nat.zero_le _) rfl, below_seq b1 (below1 _ _)⟩
  · obtain ⟨h1, h2, h3⟩ := lok_rv h
    have hle : m = n := by rw [HM.out, HN.out]; exact h2
    subst hle
    obtain ⟨v1, v2, v3, v4, v5, _⟩ := rv_true h1
    have HV : Hid ((m : Int) = W * T) := by show (m : Int) = W * T; rw [HN.out]; exact v5
    have hpos := rv_pos v1 v3 HV.out
    have e : compF W T xs L = compL W T xs (m + 1) L := by unfold compF; rw [h, HN.out]; rfl
    rw [e]
    clear h2 h3 v5 e h1
    have H := Lib.hid h; clear h
    obtain ⟨i0, hi, hz0, hz1, hz2⟩ := info_parts infoInt
    obtain ⟨lb, lo, rfl, -⟩ := HL.out 0 (by rw [← HM.out]; exact hpos)
    have hfr : freeN xs L < m + 1 := by have := freeN_le xs L; have := HN.out; omega
    have HFR := Lib.hid hfr; clear hfr
    go_enter Try.func130, Try.ntmps130
    go_wp2_with fail
    refine (sLaidOk_any _ _ _ _ _ xs _ _ _ L _ HN.out hn' HM.out hm' (HA.out.one _) (HL.out.one _)).mono ?_; rintro e w1 ⟨rfl, hb1⟩
    have p1 := heap_later (heap_new w (.cells #[.int .i64 W, .int .i64 T, .slice a m cap] 25)) hb1
    have b1 := below_seq (below1 w _) hb1
    have z1 := b1.size
    have zl := heap_lt p1
    rw [H.out]
    clear hb1
    obtain ⟨c0, c1, c2⟩ := cells3 p1
    go_wp2
    have HSD := Lib.hid (show (fun w' : World => w'.cell? ⟨w.heap.size, 0, none⟩ = some (.int .i64 W) ∧ w'.cell? ⟨w.heap.size, 1, none⟩ = some (.int .i64 T) ∧ w'.cell? ⟨w.heap.size, 2, none⟩ = some (.slice a m cap)) w1.drew from ⟨c0, c1, c2⟩)
    refine cut_region (fun a0 aa w' => ∃ (v11 v12 v13 v14 v15 v16 v17 : Value) (a6 : Option Addr) (cap6 : Nat), aa = (((((((((a0.put (some 11) v11).put (some 12) v12).put (some 13) v13).put (some 14) v14).put (some 15) v15).put (some 16) v16).put (some 17) v17).put (some 4) (.slice a6 (compL W T xs (m + 1) L).1.length cap6)).put (some 5) (.bool (compL W T xs (m + 1) L).2)) ∧ OwnsI w' w.heap.size (.slice a6 (compL W T xs (m + 1) L).1.length cap6) (compL W T xs (m + 1) L).1 ∧ Below w.heap.size w w') ?_ ?_
    · refine wp_region_till (fun w' : World => w'.cell? ⟨w.heap.size, 0, none⟩ = some (.int .i64 W) ∧ w'.cell? ⟨w.heap.size, 1, none⟩ = some (.int .i64 T) ∧ w'.cell? ⟨w.heap.size, 2, none⟩ = some (.slice a m cap)) 8 (by kernel_rfl) ?_
      refine Till.take (i := 0) (v := ?_) rfl (by kernel_rfl) (by kernel_rfl) (by kernel_rfl) (by kernel_rfl) (fun _ _ _ h => nomatch h.1) (Or.inl ⟨by kernel_rfl, ?_⟩) HSD.out ?_
      rotate_left
      · intro ws hsw
        obtain ⟨s1, s2, s3⟩ := hsw
        go_simp
        try with_reducible rfl
      try simp only [Act.put, List.setIfInBounds_toArray, List.set_cons_zero, List.set_cons_succ]
      refine Till.take (i := 2) (v := ?_) rfl (by kernel_rfl) (by kernel_rfl) (by kernel_rfl) (by kernel_rfl) (fun _ _ _ h => nomatch h.1) (Or.inl ⟨by kernel_rfl, ?_⟩) HSD.out ?_
      rotate_left
      · intro ws hsw
        obtain ⟨s1, s2, s3⟩ := hsw
        go_simp
        try with_reducible rfl
      try simp only [Act.put, List.setIfInBounds_toArray, List.set_cons_zero, List.set_cons_succ]
      refine Till.one (i := 1) (by kernel_rfl) rfl (by rfl) (fun K hK => ?_)
      go_simp
      have WNA := Lib.hid (show Below w1.heap.size w1 (w1.alloc (.cells #[] 3)).drew from below_seq (below1 _ _) (drew_below _))
      refine hK.out _ _ (fun _ => ⟨cell_later WNA.out c0, cell_later WNA.out c1, cell_later WNA.out c2⟩) ?_
      clear hK K
      have HL1 := Lib.hid ((HL.out.below b1).below WNA.out)
      refine Till.one (i := 3) (by kernel_rfl) rfl (by rfl) (fun K hK => ?_)
      refine step_append_lies _ rfl _ _ 26 rfl (w.heap.size + 1) 3 i0 (.int .i64 0) 1 8 Try.underlying26 hi hz0 hz1 hz2 rfl (by decide) _ 0 [] rfl (show World.ownsRow (World.drew (w1.alloc _)) _ _ _ _ _ _ from World.ownsRow_made w1 #[] 0 (by omega) (Nat.zero_le _) rfl) ⟨lb, lo, none⟩ m lcap (L.map (Value.int .i64)) rfl (by rw [List.length_map, ← HM.out]; omega) (ints_news HL1.out) (ints_one L) hpos (by unfold maxLen; omega) (by omega) (by simp; omega) (w1.heap.size + 1) (by simp) ?_
      intro g' c' w5 hown' hgrow hor glt
      have p5 := heap_grown (heap_later p1 WNA.out) hgrow (ne_own (show w1.heap.size ≠ w.heap.size by omega))
      have B5 := Lib.hid (below_grown (below_seq b1 WNA.out) hgrow (Nat.le_refl _) (fun k e => by have e' : w1.heap.size = k := Option.some.inj e; omega))
      have O5 : Hid (OwnsI w5 (w.heap.size + 1) (.slice (some ⟨g', 0, none⟩) m c') L) := by have h := OwnsI.ofRow (xs := L) hown' (by simp) (by rw [← HM.out]; simp); rwa [Nat.zero_add] at h
      have S5 : (fun w' : World => w'.cell? ⟨w.heap.size, 0, none⟩ = some (.int .i64 W) ∧ w'.cell? ⟨w.heap.size, 1, none⟩ = some (.int .i64 T) ∧ w'.cell? ⟨w.heap.size, 2, none⟩ = some (.slice a m cap)) w5 := ⟨(cells3 p5).1, (cells3 p5).2.1, (cells3 p5).2.2⟩
      have z5 := heap_lt p5
      clear hown' hgrow
      refine hK.out _ _ (fun _ => S5) ?_
      clear hK K
      try simp only [Nat.zero_add]
      refine Till.one (i := 4) (by kernel_rfl) rfl (by rfl) (fun K hK => ?_)
      go_simp
      refine (l2Complete_ret W T xs (m + 1) _ _ _ _ _ L (w.heap.size + 1) _ HN.out hn' HM.out HFR.out (HA.out.below B5.out) O5.out (by omega)).mono ?_; rintro e w6 ⟨a6, cap6, rfl, ho6, hb6⟩
      have p6 := heap_later p5 hb6
      have S6 : (fun w' : World => w'.cell? ⟨w.heap.size, 0, none⟩ = some (.int .i64 W) ∧ w'.cell? ⟨w.heap.size, 1, none⟩ = some (.int .i64 T) ∧ w'.cell? ⟨w.heap.size, 2, none⟩ = some (.slice a m cap)) w6 := ⟨(cells3 p6).1, (cells3 p6).2.1, (cells3 p6).2.2⟩
      have B6 := Lib.hid (below_seq B5.out hb6)
      have O6 := Lib.hid (ho6.lower (show w.heap.size ≤ _ by omega))
      clear ho6 hb6
      refine hK.out _ _ (fun _ => S6) ?_
      clear hK K
      try simp only [Act.put, List.setIfInBounds_toArray, List.set_cons_zero, List.set_cons_succ]
      refine Till.take (i := 5) (v := ?_) rfl (by kernel_rfl) (by kernel_rfl) (by kernel_rfl) (by kernel_rfl) (fun _ _ _ h => nomatch h.1) (Or.inl ⟨by kernel_rfl, ?_⟩) S6 ?_
      rotate_left
      · intro ws hsw
        obtain ⟨s1, s2, s3⟩ := hsw
        go_simp
        try with_reducible rfl
      try simp only [Act.put, List.setIfInBounds_toArray, List.set_cons_zero, List.set_cons_succ]
      refine Till.take (i := 6) (v := ?_) rfl (by kernel_rfl) (by kernel_rfl) (by kernel_rfl) (by kernel_rfl) (fun _ _ _ h => nomatch h.1) (Or.inl ⟨by kernel_rfl, ?_⟩) S6 ?_
      rotate_left
      · intro ws hsw
        obtain ⟨s1, s2, s3⟩ := hsw
        go_simp
        try with_reducible rfl
      try simp only [Act.put, List.setIfInBounds_toArray, List.set_cons_zero, List.set_cons_succ]
      refine Till.take (i := 7) (v := ?_) rfl (by kernel_rfl) (by kernel_rfl) (by kernel_rfl) (by kernel_rfl) (fun _ _ _ h => nomatch h.1) (Or.inl ⟨by kernel_rfl, ?_⟩) S6 ?_
      rotate_left
      · intro ws hsw
        obtain ⟨s1, s2, s3⟩ := hsw
        go_simp
        try with_reducible rfl
      try simp only [Act.put, List.setIfInBounds_toArray, List.set_cons_zero, List.set_cons_succ]
      refine Till.one (i := 8) (by kernel_rfl) rfl (by rfl) (fun K hK => ?_)
      go_simp
      refine hK.out _ _ (fun h => absurd rfl h) ?_
      clear hK K
      exact Till.done (by kernel_rfl) ⟨rfl, _, _, _, _, _, _, _, a6, cap6, rfl, O6.out, B6.out⟩ _
    · rintro a' w6 ⟨v11, v12, v13, v14, v15, v16, v17, a6, cap6, rfl, O6, B6⟩
      go_wp2
      go_ret2
      exact ⟨a6, cap6, rfl, O6, B6⟩

def firstF (W T : Int) (xs : List Bool) : List Int × Bool := compF W T xs (bareL W T xs)
theorem firstF_len (W T : Int) (xs : List Bool) : (firstF W T xs).1.length ≤ xs.length := by
  refine Nat.le_trans (compF_len _ _ _ _) ?_
  unfold bareL; split <;> simp

set_option maxHeartbeats 2000000 in
theorem sTilingFirst_ret (W T : Int) (a : Option Addr) (n cap : Nat) (xs : List Bool) (w : World) (hn : n = xs.length) (hn' : n ≤ 1048576) (ha : BoolsAt w a xs) :
    Calls Try.prog 128 #[.agg #[.int .i64 W, .int .i64 T, .slice a n cap]] w (RetLT w (firstF W T xs).1.length (firstF W T xs).1 (firstF W T xs).2) := by
  have HN := Lib.hid hn; clear hn
  have HA := Lib.hid ha; clear ha
  have hbl := bareL_len W T xs
  rw [← HN.out] at hbl
  have p1 := heap_new w (.cells #[.int .i64 W, .int .i64 T, .slice a n cap] 25)
  have zl := heap_lt p1
  obtain ⟨w1, hw1⟩ : ∃ w1, w1 = w.alloc (.cells #[.int .i64 W, .int .i64 T, .slice a n cap] 25) := ⟨_, rfl⟩
  have b1 : Hid (Below w.heap.size w w1) := by rw [hw1]; exact below1 _ _
  rw [← hw1] at p1
  have A1 : Hid (BoolsAt w1 a xs) := HA.out.below b1.out
  obtain ⟨c0, c1, c2⟩ := cells3 p1
  go_enter Try.func128, Try.ntmps128
  go_wp2
  rw [← hw1]
  clear hw1 zl
  go_region_held3 (fun w' : World => w'.cell? ⟨w.heap.size, 0, none⟩ = some (.int .i64 W) ∧ w'.cell? ⟨w.heap.size, 1, none⟩ = some (.int .i64 T) ∧ w'.cell? ⟨w.heap.size, 2, none⟩ = some (.slice a n cap))
    (go_keep)
    (first
      | (go_at_call 130; refine (sComplete_ret _ _ _ _ _ xs _ _ _ (bareL W T xs) _ HN.out hn' rfl (by omega) (A1.out.below b3) (OwnsI.at ho3)).mono ?_; rintro e w4 ⟨a4, cap4, rfl, ho4, hb4⟩; have p4 := heap_later p3 hb4; obtain ⟨c40, c41, c42⟩ := cells3 p4)
      | (go_at_call 85; refine (sLaidBare_ret _ _ _ _ _ xs _ HN.out hn' (show BoolsAt w1.drew _ _ from A1.out)).mono ?_; rintro e w3 ⟨a3, cap3, rfl, ho3, hb3⟩; have p3 := heap_later (show w1.drew.heap[w.heap.size]? = some _ from p1) hb3; have b3 : Below w1.heap.size w1 w3 := below_seq (drew_below _) hb3; obtain ⟨c30, c31, c32⟩ := cells3 p3))
  go_wp2
  go_ret2
  exact ⟨a4, cap4, rfl, ho4.lower (by have := b1.out.size; have := b3.size; omega), below_seq b1.out (below_seq b3 hb4)⟩
end Go.Proofs.Ytknigcjpgkolgaa

namespace Go.Proofs.Ytknigcjpgkolgaa
open Go.RowKit
set_option linter.unusedVariables false
set_option maxRecDepth 100000
set_option linter.unusedSimpArgs false

end Go.Proofs.Ytknigcjpgkolgaa

namespace Go.Proofs.Ytknigcjpgkolgaa
open Go.RowKit
set_option linter.unusedVariables false
set_option maxRecDepth 100000
set_option linter.unusedSimpArgs false

end Go.Proofs.Ytknigcjpgkolgaa

namespace Go.Proofs.Ytknigcjpgkolgaa
open Go.RowKit
set_option linter.unusedVariables false
set_option maxRecDepth 100000
set_option linter.unusedSimpArgs false

section
variable {rb N n c Pk : Nat} {w w1 w2 : World} {W T : Int} {a : Option Addr} {xs : List Bool} {v : Value}
/-- Another list. -/
theorem LS.list (h : LS rb w N W T a n c xs Pk v w1) {la : Option Addr} {m lcap B : Nat} {L : List Int} (hm : m = L.length) (h36 : m ≤ 36) (ho : OwnsI w1 B (.slice la m lcap) L) (hB : N + 1 ≤ B) : LS rb w N W T a n c xs Pk (.slice la m lcap) w1 :=
  ⟨h.p, h.q, h.o, h.s, ⟨la, m, lcap, L, rfl, hm, h36, ho.lower hB⟩, h.r, h.g, h.z, h.y⟩
theorem OwnsB.keptUp2 {w w' : World} {B : Nat} {v : Value} {xs : List Bool} {row : Option Nat} (h : OwnsB w B v xs) (hg : w.grownBy w' row) (hr : v.ownBlock = none ∨ v.ownBlock ≠ row) : OwnsB w' B v xs := World.ownsRow.kept h hg hr
/-- One number of the list is written. -/
theorem LS.store {g m lcap : Nat} (h : LS rb w N W T a n c xs Pk (.slice (some ⟨g, 0, none⟩) m lcap) w1) (lr : rb < w.heap.size) (k : Nat) (x : Int) : LS rb w N W T a n c xs Pk (.slice (some ⟨g, 0, none⟩) m lcap) (w1.setCell ⟨g, k, none⟩ (.int .i64 x)) := by
  obtain ⟨la, m', lcap', L, h1, h2, h3, h4⟩ := h.l
  simp only [Value.slice.injEq] at h1
  obtain ⟨rfl, rfl, rfl⟩ := h1
  have hs := OwnsI.set h4 k x
  have hlt := h4.lt
  have hy := h.y
  refine ⟨heap_set_other h.p (by simp; omega) _, heap_set_other h.q (by simp; omega) _, h.o.keptUp2 hs.2 (Or.inr fun e => by have := h.s g e; omega), h.s, ⟨_, _, _, L.set k x, rfl, by simpa using h2, h3, hs.1⟩, h.r.setFar (by omega) _, grown_far h.g (by omega) _, by simpa using h.z, h.y⟩
end

set_option maxHeartbeats 8000000 in
theorem l20Laid_any (rb P : Nat) (t : Int) (w : World) (hn0 : 0 ≤ t) (hn1 : t ≤ 100) (hP : P ≤ 1000) (h : RD w rb P) :
    Calls Try.prog 94 #[.pointer (some ⟨rb, 0, none⟩), .int .i64 t] w (DrawnL rb P w) := by
  have lr := h.lt
  have H := Lib.hid h; clear h
  have htt : IntKind.i64.wrap (2 * t) = 2 * t := IntWalk.i64_in _ (by omega)
  go_enter Try.func94, Try.ntmps94
  go_wp2_with fail
  refine (l20Some_any rb P (2 * t) _ (by omega) (by omega) (by omega) (H.out.below (below1 _ _))).mono ?_; rintro e w2 ⟨W, T, a, n, c, xs, rfl, hm, h36, hs, o2, r2, g2⟩
  have HM := Lib.hid hm; clear hm
  have q2 := heap_grown (heap_new w (.cells #[.int .i64 0, .int .i64 0, .slice none 0 0] 25)) g2 (by intro e; have := Option.some.inj e; omega)
  have G2 := Lib.hid (grown_seq' (World.grownBy_alloc w _ _) g2)
  have O2 := Lib.hid (show OwnsB w2 (w.heap.size + 1) (.slice a n c) xs from by simpa using o2)
  have R2 := Lib.hid r2
  have lq := heap_lt q2
  clear o2 r2 g2 H htt
  obtain ⟨wB, hwB⟩ : ∃ wB, wB = w2.alloc (.cells #[.int .i64 W, .int .i64 T, .slice a n c] 25) := ⟨_, rfl⟩
  have zB : wB.heap.size = w2.heap.size + 1 := by rw [hwB]; simp
  have LB : Hid (LS rb w w2.heap.size W T a n c xs (P + 300) (.slice none 0 0) wB) := by
    rw [hwB]
    exact ⟨heap_new _ _, heap_later q2 (below1 _ _), O2.out.alloc _, fun k e => O2.out.blkLt k e, ⟨none, 0, 0, [], rfl, rfl, by omega, OwnsI.nil _ _⟩, (R2.out.below (below1 _ _)).mono (by omega), grown_seq' G2.out (World.grownBy_alloc _ _ _), by simp, lq⟩
  clear q2 G2 R2
  obtain ⟨c0, c1, c2⟩ := cells3 LB.out.p
  go_wp2_with fail
  rw [← hwB]
  clear hwB
  refine (sTilingFirst_ret _ _ _ _ _ xs _ HM.out (by omega) (OwnsB.at LB.out.o)).mono ?_; rintro e w3 ⟨a3, cap3, rfl, ho3, hb3⟩
  obtain ⟨F, hF⟩ : ∃ F, firstF W T xs = F := ⟨_, rfl⟩
  have hFl : F.1.length ≤ 36 := by rw [← hF]; have := firstF_len W T xs; have := HM.out; omega
  rw [hF] at ho3 ⊢
  clear hF
  obtain ⟨L3, ok⟩ := F
  simp only at ho3 hFl ⊢
  have S3 := Lib.hid ((LB.out.below lr hb3).list rfl hFl ho3 (by omega))
  obtain ⟨m3, hm3⟩ : ∃ m3, m3 = L3.length := ⟨_, rfl⟩
  rw [← hm3] at S3 ⊢
  clear hm3 hFl ho3 hb3 LB c0 c1 c2 zB lq O2 L3
  go_upto_region 3 with fail
  go_cut [32] (fun v32 wx => ∃ b : Bool, v32 = .bool b ∧ LS rb w w2.heap.size W T a n c xs (P + 301) (.slice a3 m3 cap3) wx)
  case first =>
    cases ok
    · go_wp2
      go_meet
      exact ⟨true, rfl, S3.out.mono (by omega)⟩
    · go_wp2_with fail
      refine (pick_any rb _ 3 _ (by omega) (by omega) (by omega) S3.out.r).mono ?_; rintro e w4 ⟨x4, hx4, rfl, r4, g4⟩
      go_wp2
      go_meet
      exact ⟨_, rfl, S3.out.pick lr g4 r4⟩
  case rest =>
  clear S3
  obtain ⟨b4, rfl, s4⟩ := hcut
  rename_i w4
  have S4 := Lib.hid s4; clear s4
  go_upto_if 32 with fail
  go_cut [7] (fun v7 wx => LS rb w w2.heap.size W T a n c xs (P + 400) v7 wx)
  case first =>
    cases b4
    · go_wp2
      go_meet
      exact S4.out.mono (by omega)
    · obtain ⟨c0, c1, c2⟩ := cells3 S4.out.p
      go_wp2_with fail
      refine (sLaidBare_ret _ _ _ _ _ xs _ HM.out (by omega) (OwnsB.at S4.out.o)).mono ?_; rintro e w5 ⟨a5, cap5, rfl, ho5, hb5⟩
      obtain ⟨L5, hL5⟩ : ∃ L5, bareL W T xs = L5 := ⟨_, rfl⟩
      have hL5l : L5.length ≤ 36 := by rw [← hL5]; have := bareL_len W T xs; have := HM.out; omega
      rw [hL5] at ho5 ⊢
      have S5 := Lib.hid ((S4.out.below lr hb5).list rfl hL5l ho5 S4.out.z)
      obtain ⟨m5, hm5⟩ : ∃ m5, m5 = L5.length := ⟨_, rfl⟩
      rw [← hm5] at S5 ⊢
      clear hL5 hL5l hm5 ho5 hb5 S4 c0 c1 c2
      go_wp2_with fail
      refine (pick_any rb _ 16 _ (by omega) (by omega) (by omega) S5.out.r).mono ?_; rintro e w6 ⟨x6, hx6, rfl, r6, g6⟩
      have S6 := Lib.hid (S5.out.pick lr g6 r6)
      clear r6 g6 S5
      go_wp2
      go_loopw [7, 9] (fun v7 v9 wr => ∃ kn : Nat, kn ≤ 15 ∧ v9 = .int .i64 kn ∧ LS rb w w2.heap.size W T a n c xs (P + 302 + 2 * (15 - kn)) v7 wr) (fun _ v9 _ => (intOf v9).toNat)
      case atStart => exact ⟨x6, by omega, rfl, S6.out.mono (by omega)⟩
      case round =>
        rename World => wo
        clear S6
        obtain ⟨kn, hk, rfl, so⟩ := hrel
        have SR := Lib.hid so; clear so
        obtain ⟨la, m, lcap, L, rfl, hml, hm36, ol⟩ := SR.out.l
        have HML := Lib.hid hml; clear hml
        have OL := Lib.hid ol; clear ol
        by_cases hk0 : kn = 0
        · subst hk0
          go_wp2_with fail
          refine (pick_any rb _ 2 _ (by omega) (by omega) (by omega) SR.out.r).mono ?_; rintro e w10 ⟨x10, hx10, rfl, r10, g10⟩
          have S10 := Lib.hid (SR.out.pick lr g10 r10)
          have OL10 := Lib.hid (OwnsI.keptBy OL.out g10 (fun k e => by have := Option.some.inj e; have := SR.out.y; omega))
          clear r10 g10
          obtain ⟨c100, c101, c102⟩ := cells3 S10.out.p
          by_cases hx0 : x10 = 0
          · subst hx0
            go_wp2_with fail
            refine (sComplete_ret _ _ _ _ _ xs _ _ _ L _ HM.out (by omega) HML.out (by omega) (OwnsB.at S10.out.o) (OwnsI.at OL10.out)).mono ?_; rintro e w11 ⟨a11, cap11, rfl, ho11, hb11⟩
            obtain ⟨F, hF⟩ : ∃ F, compF W T xs L = F := ⟨_, rfl⟩
            have hFl : F.1.length ≤ 36 := by rw [← hF]; have := compF_len W T xs L; have := HML.out; omega
            rw [hF] at ho11 ⊢
            clear hF
            obtain ⟨L11, ok11⟩ := F
            simp only at ho11 hFl ⊢
            have S11 := Lib.hid (S10.out.below lr hb11)
            have T11 := Lib.hid (S11.out.list rfl hFl ho11 S10.out.z)
            clear ho11 hb11
            cases ok11
            · go_wp2
              go_meet
              exact S11.out.mono (by omega)
            · go_wp2
              go_meet
              exact T11.out.mono (by omega)
          · have hx0b : ((x10 : Int) == 0) = false := by simp; omega
            go_wp2
            go_meet
            exact S10.out.mono (by omega)
        · have hkp : 0 < (kn : Int) := by omega
          by_cases hm0 : m = 0
          · subst hm0
            go_wp2_with fail
            refine (pick_any rb _ 2 _ (by omega) (by omega) (by omega) SR.out.r).mono ?_; rintro e w10 ⟨x10, hx10, rfl, r10, g10⟩
            have S10 := Lib.hid (SR.out.pick lr g10 r10)
            have OL10 := Lib.hid (OwnsI.keptBy OL.out g10 (fun k e => by have := Option.some.inj e; have := SR.out.y; omega))
            clear r10 g10
            obtain ⟨c100, c101, c102⟩ := cells3 S10.out.p
            by_cases hx0 : x10 = 0
            · subst hx0
              go_wp2_with fail
              refine (sComplete_ret _ _ _ _ _ xs _ _ _ L _ HM.out (by omega) HML.out (by omega) (OwnsB.at S10.out.o) (OwnsI.at OL10.out)).mono ?_; rintro e w11 ⟨a11, cap11, rfl, ho11, hb11⟩
              obtain ⟨F, hF⟩ : ∃ F, compF W T xs L = F := ⟨_, rfl⟩
              have hFl : F.1.length ≤ 36 := by rw [← hF]; have := compF_len W T xs L; have := HML.out; omega
              rw [hF] at ho11 ⊢
              clear hF
              obtain ⟨L11, ok11⟩ := F
              simp only at ho11 hFl ⊢
              have S11 := Lib.hid (S10.out.below lr hb11)
              have T11 := Lib.hid (S11.out.list rfl hFl ho11 S10.out.z)
              clear ho11 hb11
              cases ok11
              · go_wp2
                go_meet
                exact S11.out.mono (by omega)
              · go_wp2
                go_meet
                exact T11.out.mono (by omega)
            · have hx0b : ((x10 : Int) == 0) = false := by simp; omega
              go_wp2
              go_meet
              exact S10.out.mono (by omega)
          · have hmp : 0 < (m : Int) := by omega
            have hmp' : 0 < m := by omega
            obtain ⟨c0, c1, c2⟩ := cells3 SR.out.p
            have SD : Hid (LS rb w w2.heap.size W T a n c xs (P + 302 + 2 * (15 - kn)) (.slice la m lcap) wo.drew) := ⟨SR.out.p, SR.out.q, SR.out.o, SR.out.s, SR.out.l, SR.out.r, grown_seq' SR.out.g (grown_drewN wo 1 _), SR.out.z, SR.out.y⟩
            go_upto_region 8 with fail
            go_cut [10, 11] (fun v10 v11 wx => ∃ (la' : Option Addr) (m' lcap' : Nat) (L' : List Int) (can : Bool), v10 = .slice la' m' lcap' ∧ v11 = .bool can ∧ LS rb w w2.heap.size W T a n c xs (P + 302 + 2 * (15 - kn) + 2) (.slice la m lcap) wx ∧ LS rb w w2.heap.size W T a n c xs (P + 302 + 2 * (15 - kn) + 2) (.slice la' m' lcap') wx)
            case first =>
              go_region_held3 (fun w' => w'.cell? ⟨w2.heap.size, 0, none⟩ = some (.int .i64 W) ∧ w'.cell? ⟨w2.heap.size, 1, none⟩ = some (.int .i64 T) ∧ w'.cell? ⟨w2.heap.size, 2, none⟩ = some (.slice a n c))
                (go_keep)
                (first
                  | (go_at_call 129; refine (sLayOne_ret _ _ _ _ _ xs _ _ _ L _ _ _ HM.out (by omega) HML.out (by omega) (OwnsB.at S9.out.o) (OwnsI.at O9.out)).mono ?_; rintro e w11 ⟨a11, cap11, rfl, ho11, hb11⟩; have S11 := Lib.hid (S9.out.below lr hb11); obtain ⟨c110, c111, c112⟩ := cells3 S11.out.p)
                  | (go_at_call 93; refine (pick_any rb _ 4 _ (by omega) (by omega) (by omega) S8.out.r).mono ?_; rintro e w9 ⟨x9, hx9, rfl, r9, g9⟩; have S9 := Lib.hid (S8.out.pick lr g9 r9); have O9 := Lib.hid (OwnsI.keptBy O8.out g9 (fun k e => by have := Option.some.inj e; have := SR.out.y; omega)); obtain ⟨c90, c91, c92⟩ := cells3 S9.out.p)
                  | (go_at_call 93; refine (pick_any rb _ m _ (by omega) (by omega) (by omega) SD.out.r).mono ?_; rintro e w8 ⟨x8, hx8, rfl, r8, g8⟩; have S8 := Lib.hid (SD.out.pick lr g8 r8); have O8 := Lib.hid (OwnsI.keptBy (show OwnsI wo.drew _ _ _ from OL.out) g8 (fun k e => by have := Option.some.inj e; have := SR.out.y; omega)); obtain ⟨c80, c81, c82⟩ := cells3 S8.out.p))
              go_wp2
              go_meet
              refine ⟨_, _, _, [], _, rfl, rfl, S11.out, ?_⟩
              refine LS.list S11.out rfl ?_ ho11 S9.out.z
              exact Nat.le_trans (layF_len _ _ _ _ _ _) (by have := HML.out; omega)
            case rest =>
              obtain ⟨la', m', lcap', L', can, rfl, rfl, s1, s2⟩ := hcut
              have S12 := Lib.hid s1; clear s1
              have T12 := Lib.hid s2; clear s2
              cases can
              · go_wp2
                go_roundw
                case rel => exact ⟨kn - 1, by omega, by go_num, S12.out.mono (by omega)⟩
                case measure => simp [intOf]; omega
              · go_wp2
                go_roundw
                case rel => exact ⟨kn - 1, by omega, by go_num, T12.out.mono (by omega)⟩
                case measure => simp [intOf]; omega
  case rest =>
  clear S4
  rename_i w7
  have S7 := Lib.hid hcut; clear hcut
  have htt : IntKind.i64.wrap (2 * t) = 2 * t := IntWalk.i64_in _ (by omega)
  have HTT := Lib.hid htt; clear htt
  go_wp2
  go_loopw [7, 14] (fun v7 v14 wr => ∃ k : Nat, k ≤ 36 ∧ v14 = .int .i64 k ∧ LS rb w w2.heap.size W T a n c xs (P + 400 + k) v7 wr) (fun _ v14 _ => 36 - (intOf v14).toNat)
  case atStart => exact ⟨0, by omega, rfl, S7.out⟩
  case round =>
    rename World => wo
    clear S7
    obtain ⟨k, hk, rfl, so⟩ := hrel
    have SR := Lib.hid so; clear so
    obtain ⟨la, m, lcap, L, rfl, hml, hm36, ol⟩ := SR.out.l
    have HML := Lib.hid hml; clear hml
    have OL := Lib.hid ol; clear ol
    by_cases hkm : k < m
    · have e1 : (k : Int) < m := by omega
      go_wp2_with fail
      refine (pick_any rb _ 12 _ (by omega) (by omega) (by omega) SR.out.r).mono ?_; rintro e w8 ⟨x8, hx8, rfl, r8, g8⟩
      have S8 := Lib.hid (SR.out.pick lr g8 r8)
      have O8 := Lib.hid (OwnsI.keptBy OL.out g8 (fun k e => by have := Option.some.inj e; have := SR.out.y; omega))
      clear r8 g8
      by_cases hx0 : x8 = 0
      · subst hx0
        obtain ⟨c0, c1, c2⟩ := cells3 S8.out.p
        go_wp2_with fail
        refine (sLiftOne_ret _ _ _ _ _ xs _ _ _ L _ _ HM.out (by omega) HML.out (by omega) (OwnsB.at S8.out.o) (OwnsI.at O8.out)).mono ?_; rintro e w11 ⟨a11, cap11, rfl, ho11, hb11⟩
        obtain ⟨F, hF⟩ : ∃ F, liftF W T xs L k = F := ⟨_, rfl⟩
        have hFl : F.1.length ≤ 36 := by rw [← hF]; have := liftF_len W T xs L k; have := HML.out; omega
        rw [hF] at ho11 ⊢
        clear hF
        obtain ⟨L11, ok11⟩ := F
        simp only at ho11 hFl ⊢
        have S11 := Lib.hid (S8.out.below lr hb11)
        have T11 := Lib.hid (S11.out.list rfl hFl ho11 S8.out.z)
        clear ho11 hb11
        cases ok11
        · go_wp2
          go_roundw
          case rel => exact ⟨k + 1, by omega, by go_num, S11.out.mono (by omega)⟩
          case measure => simp [intOf]; omega
        · go_wp2
          go_roundw
          case rel => exact ⟨k + 1, by omega, by go_num, T11.out.mono (by omega)⟩
          case measure => simp [intOf]; omega
      · have hx0b : ((x8 : Int) == 0) = false := by simp; omega
        go_wp2
        go_roundw
        case rel => exact ⟨k + 1, by omega, by go_num, S8.out.mono (by omega)⟩
        case measure => simp [intOf]; omega
    · go_wp2_with fail
      refine (odd_any rb _ (2 * t) _ (by omega) (by omega) (by omega) SR.out.r).mono ?_; rintro e w8 ⟨b8, rfl, r8, g8⟩
      have S8 := Lib.hid (SR.out.pick lr g8 r8)
      have O8 := Lib.hid (OwnsI.keptBy OL.out g8 (fun k e => by have := Option.some.inj e; have := SR.out.y; omega))
      clear r8 g8
      by_cases hb8 : b8 = true ∧ 0 < m
      · obtain ⟨rfl, hmp⟩ := hb8
        have hmp' : 0 < (m : Int) := by omega
        go_wp2_with fail
        refine (pick_any rb _ m _ (by omega) (by omega) (by omega) S8.out.r).mono ?_; rintro e w9 ⟨x9, hx9, rfl, r9, g9⟩
        have S9 := Lib.hid (S8.out.pick lr g9 r9)
        have O9 := Lib.hid (OwnsI.keptBy O8.out g9 (fun k e => by have := Option.some.inj e; have := SR.out.y; omega))
        clear r9 g9
        go_wp2_with fail
        refine (pick_any rb _ 6 _ (by omega) (by omega) (by omega) S9.out.r).mono ?_; rintro e w10 ⟨x10, hx10, rfl, r10, g10⟩
        have S10 := Lib.hid (S9.out.pick lr g10 r10)
        have O10 := OwnsI.keptBy O9.out g10 (fun k e => by have := Option.some.inj e; have := SR.out.y; omega)
        rcases O10.forms with ⟨e0, e1⟩ | ⟨g, gc, hv, hg1, hg2⟩
        · exfalso; have := HML.out; rw [e1] at this; simp at this; omega
        rw [← HML.out] at hv
        simp only [Value.slice.injEq] at hv
        obtain ⟨rfl, -, rfl⟩ := hv
        have hcx := O10.cell (k := x9) (by have := HML.out; omega)
        have hfx := O10.free x9
        have e9 : (x9 : Int) < m := by omega
        have S11 := Lib.hid (S10.out.store lr x9 (x10 : Int))
        obtain ⟨c0, c1, c2⟩ := cells3 S11.out.p
        obtain ⟨d0, d1, d2⟩ := cells3 S11.out.q
        have f0 := free3 S11.out.q 0
        have f1 := free3 S11.out.q 1
        have f2 := free3 S11.out.q 2
        go_wp2
        refine bodyPost_ret (v := .tuple #[.agg #[.int .i64 W, .int .i64 T, .slice a n c], .slice (some ⟨g, 0, none⟩) m lcap]) (by simp [results, Try.results94, go_sem, d0, d1, d2]) rfl ?_
        exact S11.out.done lr HM.out h36 hs (by omega)
      · have hbb : (b8 && decide (0 < (m : Int))) = false := by
          cases b8
          · rfl
          · simp; by_cases h : m = 0
            · exact h
            · exact absurd ⟨rfl, by omega⟩ hb8
        obtain ⟨c0, c1, c2⟩ := cells3 S8.out.p
        obtain ⟨d0, d1, d2⟩ := cells3 S8.out.q
        have f0 := free3 S8.out.q 0
        have f1 := free3 S8.out.q 1
        have f2 := free3 S8.out.q 2
        cases b8
        · clear hbb hb8
          go_wp2
          refine bodyPost_ret (v := .tuple #[.agg #[.int .i64 W, .int .i64 T, .slice a n c], .slice la m lcap]) (by simp [results, Try.results94, go_sem, d0, d1, d2]) rfl ?_
          exact S8.out.done lr HM.out h36 hs (by omega)
        · have hm0 : m = 0 := by
            by_cases h : m = 0
            · exact h
            · exact absurd ⟨rfl, by omega⟩ hb8
          clear hbb hb8
          subst hm0
          go_wp2
          refine bodyPost_ret (v := .tuple #[.agg #[.int .i64 W, .int .i64 T, .slice a n c], .slice la 0 lcap]) (by simp [results, Try.results94, go_sem, d0, d1, d2]) rfl ?_
          exact S8.out.done lr HM.out h36 hs (by omega)
end Go.Proofs.Ytknigcjpgkolgaa

namespace Go.Proofs.Ytknigcjpgkolgaa
open Go.RowKit
set_option linter.unusedVariables false
set_option maxRecDepth 100000
set_option linter.unusedSimpArgs false

theorem sameInts_same (a b : Option Addr) (n cap cap' : Nat) (xs : List Int) (w : World) (hn : n = xs.length) (hn' : n ≤ 1048576) (ha : IntsAt w a xs) (hb : IntsAt w b xs) :
    Calls Try.prog 16 #[.slice a n cap, .slice b n cap'] w fun e w' => e = .returned (.bool true) ∧ Below w.heap.size w w' := by
  have HN := Lib.hid hn; clear hn
  have HA := Lib.hid ha; clear ha
  have HB := Lib.hid hb; clear hb
  go_enter Try.func16, Try.ntmps16
  go_wp2
  go_loopw [5] (fun i wr => ∃ k : Nat, k ≤ n ∧ i = .int .i64 k ∧ ∃ q, wr = w.drewN q) (fun i _ => n - (intOf i).toNat)
  case atStart => exact ⟨0, Nat.zero_le _, rfl, 0, rfl⟩
  case round =>
    obtain ⟨k, hk, rfl, q, rfl⟩ := hrel
    by_cases hlt : k < n
    · obtain ⟨b1, o1, rfl, hc1⟩ := HA.out k (by rw [← HN.out]; exact hlt)
      obtain ⟨b2, o2, rfl, hc2⟩ := HB.out k (by rw [← HN.out]; exact hlt)
      have e1 : (k : Int) < n := by omega
      have e0 : (0 : Int) ≤ k := by omega
      go_wp2
      go_big_quiet (fail)
      go_wp2
      go_roundw
      case rel => exact ⟨k + 1, by omega, by go_num, _, rfl⟩
      case measure => simp [intOf]; omega
    · go_wp2
      go_ret
      exact ⟨rfl, drewN_below _ _⟩
end Go.Proofs.Ytknigcjpgkolgaa

namespace Go.Proofs.Ytknigcjpgkolgaa
open Go.RowKit
set_option linter.unusedVariables false
set_option maxRecDepth 100000
set_option linter.unusedSimpArgs false

end Go.Proofs.Ytknigcjpgkolgaa

namespace Go.Proofs.Ytknigcjpgkolgaa
open Go.RowKit Go.Shelf
set_option linter.unusedVariables false
set_option maxRecDepth 100000
set_option linter.unusedSimpArgs false
attribute [local go_sem] Oper.semAt_some

end Go.Proofs.Ytknigcjpgkolgaa

namespace Go.Proofs.Ytknigcjpgkolgaa
open Go.RowKit Go.Shelf
set_option linter.unusedVariables false
set_option maxRecDepth 100000
set_option linter.unusedSimpArgs false

/-- The caller's invariant bears what the statement and the iterator do: lo is where the iterator's blocks begin, B where the statement's begin. -/
def CallInv (B lo : Nat) (I : Nat → List (List Int) → World → Prop) : Prop :=
  ∀ hi pre A D row, I hi pre A → A.grownBy D row → (∀ r, row = some r → (lo ≤ r ∧ r < hi) ∨ (B ≤ r ∧ ∃ o : Obj, A.heap[r]? = some o ∧ o.isCells = false)) → I hi pre D
theorem CallInv.put {B lo : Nat} {I : Nat → List (List Int) → World → Prop} (h : CallInv B lo I) {hi : Nat} {pre : List (List Int)} {A : World} {l : Nat} {o : Obj} (o' : Obj) (hi' : I hi pre A) (hB : B ≤ l) (hl : A.heap[l]? = some o) (ho : o.isCells = false) : I hi pre (A.putObj l o') :=
  h hi pre A _ (some l) hi' (grownBy_putObj' A l o') (fun r e => by cases e; exact Or.inr ⟨hB, o, hl, ho⟩)

end Go.Proofs.Ytknigcjpgkolgaa

namespace Go.Proofs.Ytknigcjpgkolgaa
open Go.RowKit Go.Shelf
set_option linter.unusedVariables false
set_option maxRecDepth 100000
set_option linter.unusedSimpArgs false
attribute [local go_sem] Oper.semAt_some

end Go.Proofs.Ytknigcjpgkolgaa
