/- Contracts of spec.Complete and spec.TilingFirst. -/
import Derived.Test.YtknigcjpgkolgaaKAllP
namespace Go.Proofs.Ytknigcjpgkolgaa
open Go.RowKit
set_option linter.unusedVariables false
set_option maxRecDepth 100000
set_option linter.unusedSimpArgs false

theorem below3 (w : World) (o1 o2 o3 : Obj) : Below w.heap.size w (((w.alloc o1).alloc o2).alloc o3) := (below2 w o1 o2).alloc (by simp <;> omega) o3
end Go.Proofs.Ytknigcjpgkolgaa

namespace Go.Proofs.Ytknigcjpgkolgaa
open Go.RowKit
set_option linter.unusedVariables false
set_option maxRecDepth 100000
set_option linter.unusedSimpArgs false

end Go.Proofs.Ytknigcjpgkolgaa

namespace Go.Proofs.Ytknigcjpgkolgaa
open Go.RowKit
set_option linter.unusedVariables false
set_option maxRecDepth 100000
set_option linter.unusedSimpArgs false

end Go.Proofs.Ytknigcjpgkolgaa

namespace Go.Proofs.Ytknigcjpgkolgaa
open Go.RowKit
set_option linter.unusedVariables false
set_option maxRecDepth 100000
set_option linter.unusedSimpArgs false

end Go.Proofs.Ytknigcjpgkolgaa

namespace Go.Proofs.Ytknigcjpgkolgaa
open Go.RowKit
set_option linter.unusedVariables false
set_option maxRecDepth 100000
set_option linter.unusedSimpArgs false

end Go.Proofs.Ytknigcjpgkolgaa

namespace Go.Proofs.Ytknigcjpgkolgaa
open Go.RowKit
set_option linter.unusedVariables false
set_option maxRecDepth 100000

theorem heap_new3 (w : World) (o1 o2 o3 : Obj) : (((w.alloc o1).alloc o2).alloc o3).heap[w.heap.size + 2]? = some o3 := by simpa using heap_new ((w.alloc o1).alloc o2) o3
end Go.Proofs.Ytknigcjpgkolgaa

namespace Go.Proofs.Ytknigcjpgkolgaa
open Go.RowKit
set_option linter.unusedVariables false
set_option maxRecDepth 100000
set_option linter.unusedSimpArgs false

theorem layF_len (W T : Int) (xs : List Bool) (L : List Int) (k way : Int) : (layF W T xs L k way).1.length ≤ L.length := by
  unfold layF; split
  · rw [laidL_len]; exact Nat.le_refl _
  · simp
/-- Whether there is a domino to be lifted. -/
def canLift (L : List Int) (k : Int) : Bool := decide (0 ≤ k ∧ k < L.length) && (L.getD k.toNat 0 != 0)
def liftL (W T : Int) (L : List Int) (k : Int) : List Int :=
  if canLift L k then (L.set (stepI W T k (L.getD k.toNat 0)).toNat 0).set k.toNat 0 else L
theorem keep_store {w : World} {b g on kn : Nat} {x0 x1 x2 x3 : Option Value} {u : Value} (hg : g ≠ b) (hne : on ≠ kn) (h0 : w.cell? ⟨b, 0, none⟩ = x0) (h1 : w.cell? ⟨b, 1, none⟩ = x1) (h2 : w.cell? ⟨b, 2, none⟩ = x2) (h3 : w.cell? ⟨g, kn, none⟩ = x3) :
    (w.setCell ⟨g, on, none⟩ u).cell? ⟨b, 0, none⟩ = x0 ∧ (w.setCell ⟨g, on, none⟩ u).cell? ⟨b, 1, none⟩ = x1 ∧ (w.setCell ⟨g, on, none⟩ u).cell? ⟨b, 2, none⟩ = x2 ∧ (w.setCell ⟨g, on, none⟩ u).cell? ⟨g, kn, none⟩ = x3 := by
  have e1 : ∀ i : Nat, (⟨g, on, none⟩ : Addr) ≠ ⟨b, i, none⟩ := fun i e => by simp only [Addr.mk.injEq] at e; exact hg e.1
  have e2 : (⟨g, on, none⟩ : Addr) ≠ ⟨g, kn, none⟩ := fun e => by simp only [Addr.mk.injEq] at e; exact hne e.2.1
  exact ⟨(World.cell?_setCell_other _ _ _ _ (e1 0)).trans h0, (World.cell?_setCell_other _ _ _ _ (e1 1)).trans h1, (World.cell?_setCell_other _ _ _ _ (e1 2)).trans h2, (World.cell?_setCell_other _ _ _ _ e2).trans h3⟩
end Go.Proofs.Ytknigcjpgkolgaa

namespace Go.Proofs.Ytknigcjpgkolgaa
open Go.RowKit
set_option linter.unusedVariables false
set_option maxRecDepth 100000
set_option linter.unusedSimpArgs false

theorem canLift_parts {L : List Int} {k : Int} (h : canLift L k = true) : ∃ kn : Nat, k = kn ∧ kn < L.length ∧ L.getD kn 0 ≠ 0 := by
  unfold canLift at h
  simp only [Bool.and_eq_true, decide_eq_true_eq, bne_iff_ne] at h
  obtain ⟨kn, rfl⟩ := Int.eq_ofNat_of_zero_le h.1.1
  exact ⟨kn, rfl, by omega, by simpa using h.2⟩
theorem canLift_of {L : List Int} {kn : Nat} (h : kn < L.length) (h0 : L.getD kn 0 ≠ 0) : canLift L kn = true := by
  unfold canLift
  simp only [Bool.and_eq_true, decide_eq_true_eq, bne_iff_ne]
  exact ⟨by omega, by simpa using h0⟩
theorem liftL_at {W T : Int} {L : List Int} {kn o : Nat} (h : canLift L kn = true) (hs : stepI W T kn (L.getD kn 0) = o) : liftL W T L kn = (L.set o 0).set kn 0 := by
  unfold liftL
  rw [if_pos h]
  simp only [Int.toNat_natCast]
  rw [hs]; simp
theorem lift_laid {W T : Int} {xs : List Bool} {L : List Int} {k way : Int} (h : lok W T xs L = true) (hc : canLay W T xs L k way = true) : canLift (laidL W T xs L k way) k = true ∧ liftL W T (laidL W T xs L k way) k = L := by
  obtain ⟨hr, hlen, _⟩ := lok_rv h
  obtain ⟨kn, o, rfl, hk, ho, hne, hs, hf, hfo, w1, w4, hb, e⟩ := canLay_at hr hlen hc
  rw [e]
  have hgd : ∀ j : Nat, ((L.set kn way).set o (backI way)).getD j 0 = if j = o then backI way else if j = kn then way else L.getD j 0 := fun j => getD_set2 (by omega) (by omega)
  have hkk : ((L.set kn way).set o (backI way)).getD kn 0 = way := by rw [hgd, if_neg (fun e => hne e.symm), if_pos rfl]
  have hcl : canLift ((L.set kn way).set o (backI way)) kn = true := canLift_of (by simp; omega) (by rw [hkk]; omega)
  refine ⟨hcl, ?_⟩
  rw [liftL_at (W := W) (T := T) hcl (by rw [hkk]; exact hs)]
  refine ext_getD (by simp) fun j hj => ?_
  rw [getD_set2 (by simp; omega) (by simp; omega), hgd]
  by_cases e1 : j = kn
  · rw [if_pos e1, e1]; exact (free_zero hf).2.symm
  · rw [if_neg e1]
    by_cases e2 : j = o
    · rw [if_pos e2, e2]; exact (free_zero hfo).2.symm
    · rw [if_neg e2, if_neg e2, if_neg e1]
end Go.Proofs.Ytknigcjpgkolgaa

namespace Go.Proofs.Ytknigcjpgkolgaa
open Go.RowKit
set_option linter.unusedVariables false
set_option maxRecDepth 100000
set_option linter.unusedSimpArgs false

set_option maxHeartbeats 2000000 in
theorem liftUp_yes (W T : Int) (a : Option Addr) (n cap : Nat) (g lcap B : Nat) (L : List Int) (kn on : Nat) (w : World) (hn' : n ≤ 1048576) (hm : n = L.length) (hW0 : 1 ≤ W) (hW1 : W ≤ 6) (hT0 : 1 ≤ T) (hT1 : T ≤ 6) (hWT : (n : Int) = W * T) (hk : kn < n) (hon : on < n) (hne : on ≠ kn) (hz : L.getD kn 0 ≠ 0) (hst : cellB W T n kn (L.getD kn 0) = on) (ho : OwnsI w B (.slice (some ⟨g, 0, none⟩) n lcap) L) :
    Calls Try.prog 135 #[.agg #[.int .i64 W, .int .i64 T, .slice a n cap], .slice (some ⟨g, 0, none⟩) n lcap, .int .i64 kn] w fun e w' => e = .returned (.bool true) ∧ OwnsI w' B (.slice (some ⟨g, 0, none⟩) n lcap) ((L.set on 0).set kn 0) ∧ w.grownBy w' (some g) := by
  have HM := Lib.hid hm; clear hm
  have HO := Lib.hid ho; clear ho
  have HWT := Lib.hid hWT; clear hWT
  obtain ⟨v, hv⟩ : ∃ v, v = L.getD kn 0 := ⟨_, rfl⟩
  rw [← hv] at hz hst
  have HST := Lib.hid hst; clear hst
  have z2 : (v == 0) = false := by simpa using hz
  obtain ⟨wA, hwA⟩ : ∃ wA, wA = w.alloc (.cells #[.int .i64 W, .int .i64 T, .slice a n cap] 25) := ⟨_, rfl⟩
  have pA : wA.heap[w.heap.size]? = some (.cells #[.int .i64 W, .int .i64 T, .slice a n cap] 25 (0, 0)) := by rw [hwA]; exact heap_new _ _
  have bA : Below w.heap.size w wA := by rw [hwA]; exact below1 _ _
  have OA := HO.out.below bA
  have cv := OA.cell (k := kn) (by rw [← HM.out]; exact hk)
  have cw := HO.out.cell (k := kn) (by rw [← HM.out]; exact hk)
  rw [← hv] at cv cw
  have HV := Lib.hid hv; clear hv
  have HOA := Lib.hid OA; clear OA
  obtain ⟨d0, d1, d2⟩ := cells3 pA
  have lA := heap_lt pA
  have e1 : (kn : Int) < n := by omega
  have e2 : (on : Int) < n := by omega
  have hgl := HO.out.lt.2
  go_enter Try.func135, Try.ntmps135
  go_wp2_with fail
  rw [← hwA]
  clear hwA cw
  have PA : wA.drew.heap[w.heap.size]? = some _ := pA
  go_region_held3 (fun w' => w'.cell? ⟨w.heap.size, 0, none⟩ = some (.int .i64 W) ∧ w'.cell? ⟨w.heap.size, 1, none⟩ = some (.int .i64 T) ∧ w'.cell? ⟨w.heap.size, 2, none⟩ = some (.slice a n cap) ∧ w'.cell? ⟨g, kn, none⟩ = some (.int .i64 v))
    (first | go_keep | exact keep_store (by omega) hne c60 c61 c62 k6)
    (first
      | (go_at_call 124; refine (cellBeside_is _ _ _ _ _ _ _ _ hW0 hW1 hT0 hT1 HWT.out HST.out).mono ?_; rintro e w6 ⟨rfl, hb6⟩; have p6 := heap_later PA hb6; obtain ⟨c60, c61, c62⟩ := cells3 p6; have k6 := cell_later hb6 (show (World.drew wA).cell? _ = some _ from cv); have O6 := (show OwnsI wA.drew _ _ _ from HOA.out).below hb6; have x6 := O6.cell (k := on) (by rw [← HM.out]; exact hon); have f6 := O6.free on; have f7 := O6.free kn))
  have s1 := OwnsI.set O6 on 0
  have s2 := OwnsI.set s1.1 kn 0
  have y1 := s1.1.cell (k := kn) (by rw [List.length_set, ← HM.out]; exact hk)
  have y2 := s1.1.free kn
  have HS := Lib.hid s2.1
  have HG := Lib.hid (grown_seq s1.2 s2.2)
  have HB := Lib.hid (below_seq bA (below_seq (drew_below _) hb6))
  clear s1 s2 O6
  go_wp2
  go_ret
  exact ⟨rfl, HS.out, grown_seq (grown_of_below HB.out _) HG.out⟩

end Go.Proofs.Ytknigcjpgkolgaa

namespace Go.Proofs.Ytknigcjpgkolgaa
open Go.RowKit
set_option linter.unusedVariables false
set_option maxRecDepth 100000
set_option linter.unusedSimpArgs false

theorem lift_on {W T : Int} {xs : List Bool} {L : List Int} {n kn : Nat} (h : lok W T xs L = true) (hW : 1 ≤ W) (hn : n = xs.length) (hWT : (n : Int) = W * T) (hk : kn < n) (hz : L.getD kn 0 ≠ 0) :
    ∃ on : Nat, on < n ∧ on ≠ kn ∧ stepI W T kn (L.getD kn 0) = on ∧ cellB W T n kn (L.getD kn 0) = on := by
  have hb := lok_both h (k := kn) (by rw [lok_len' h, ← hn]; exact hk) hz
  simp only [bothB, Bool.and_eq_true, decide_eq_true_eq] at hb
  have h0 := hb.1.1.1
  have hs := step_bd (W := W) (T := T) (k := kn) (way := L.getD kn 0) hW (by omega) (by rw [← hWT]; omega)
  have hne := step_ne hW h0 (by omega : (0 : Int) ≤ kn)
  refine ⟨(stepI W T kn (L.getD kn 0)).toNat, by omega, by omega, by omega, ?_⟩
  unfold cellB
  rw [if_pos ⟨by omega, by omega⟩]
  omega

end Go.Proofs.Ytknigcjpgkolgaa

namespace Go.Proofs.Ytknigcjpgkolgaa
open Go.RowKit
set_option linter.unusedVariables false
set_option maxRecDepth 100000
set_option linter.unusedSimpArgs false

end Go.Proofs.Ytknigcjpgkolgaa

namespace Go.Proofs.Ytknigcjpgkolgaa
open Go.RowKit
set_option linter.unusedVariables false
set_option maxRecDepth 100000
set_option linter.unusedSimpArgs false

/-- The first completion, and whether there is one; f is more than there are free cells. -/
def compL (W T : Int) (xs : List Bool) : Nat → List Int → List Int × Bool
  | 0, _ => ([], false)
  | f + 1, L =>
    if firstI xs L 0 xs.length < 0 then (L, true)
    else if ((layF W T xs L (firstI xs L 0 xs.length) 1).2 && (compL W T xs f (layF W T xs L (firstI xs L 0 xs.length) 1).1).2) = true then compL W T xs f (layF W T xs L (firstI xs L 0 xs.length) 1).1
    else if ((layF W T xs L (firstI xs L 0 xs.length) 2).2 && (compL W T xs f (layF W T xs L (firstI xs L 0 xs.length) 2).1).2) = true then compL W T xs f (layF W T xs L (firstI xs L 0 xs.length) 2).1
    else ([], false)
theorem compL_succ {W T : Int} {xs : List Bool} {f : Nat} {L : List Int} {c : Int} (h : firstI xs L 0 xs.length = c) (h0 : ¬ c < 0) : compL W T xs (f + 1) L =
    if ((layF W T xs L c 1).2 && (compL W T xs f (layF W T xs L c 1).1).2) = true then compL W T xs f (layF W T xs L c 1).1
      else if ((layF W T xs L c 2).2 && (compL W T xs f (layF W T xs L c 2).1).2) = true then compL W T xs f (layF W T xs L c 2).1 else ([], false) := by
  subst h
  have e : compL W T xs (f + 1) L = if firstI xs L 0 xs.length < 0 then (L, true)
    else if ((layF W T xs L (firstI xs L 0 xs.length) 1).2 && (compL W T xs f (layF W T xs L (firstI xs L 0 xs.length) 1).1).2) = true then compL W T xs f (layF W T xs L (firstI xs L 0 xs.length) 1).1
    else if ((layF W T xs L (firstI xs L 0 xs.length) 2).2 && (compL W T xs f (layF W T xs L (firstI xs L 0 xs.length) 2).1).2) = true then compL W T xs f (layF W T xs L (firstI xs L 0 xs.length) 2).1
    else ([], false) := rfl
  rw [e, if_neg h0]
theorem compL_len (W T : Int) (xs : List Bool) : ∀ f L, (compL W T xs f L).1.length ≤ L.length
  | 0, L => by simp [compL]
  | f + 1, L => by
    unfold compL
    split
    · exact Nat.le_refl _
    · split
      · exact Nat.le_trans (compL_len W T xs f _) (layF_len _ _ _ _ _ _)
      · split
        · exact Nat.le_trans (compL_len W T xs f _) (layF_len _ _ _ _ _ _)
        · simp
end Go.Proofs.Ytknigcjpgkolgaa

namespace Go.Proofs.Ytknigcjpgkolgaa
open Go.RowKit
set_option linter.unusedVariables false
set_option maxRecDepth 100000
set_option linter.unusedSimpArgs false

def compF (W T : Int) (xs : List Bool) (L : List Int) : List Int × Bool := if lok W T xs L then compL W T xs (xs.length + 1) L else ([], false)
theorem compF_len (W T : Int) (xs : List Bool) (L : List Int) : (compF W T xs L).1.length ≤ L.length := by
  unfold compF; split
  · exact compL_len _ _ _ _ _
  · simp

def firstF (W T : Int) (xs : List Bool) : List Int × Bool := compF W T xs (bareL W T xs)
theorem firstF_len (W T : Int) (xs : List Bool) : (firstF W T xs).1.length ≤ xs.length := by
  refine Nat.le_trans (compF_len _ _ _ _) ?_
  unfold bareL; split <;> simp

end Go.Proofs.Ytknigcjpgkolgaa
