/- Plain facts on laying and lifting one domino. Merged of: LayM, Lok, Lay, LayOne, LayOneS. -/
import Derived.Test.YthjocjiiihebbaaLaid
import Derived.Test.YthjocjiiihebbaaCloneI
namespace Go.Proofs.Ythjocjiiihebbaa
open Go.RowKit
set_option linter.unusedVariables false
set_option maxRecDepth 100000
set_option linter.unusedSimpArgs false

theorem step_ne {W T k way : Int} (hW : 1 ≤ W) (h : 0 ≤ stepI W T k way) (hk : 0 ≤ k) : stepI W T k way ≠ k := by
  unfold stepI at h ⊢
  split
  · omega
  · split
    · omega
    · split
      · omega
      · split <;> omega

/-- Whether a domino can be laid from a cell in a direction. -/
def canLay (W T : Int) (xs : List Bool) (L : List Int) (k way : Int) : Bool :=
  decide (0 ≤ cellB W T xs.length k way) && freeB xs L k.toNat && freeB xs L (cellB W T xs.length k way).toNat
/-- The list with it. -/
def laidL (W T : Int) (xs : List Bool) (L : List Int) (k way : Int) : List Int :=
  if canLay W T xs L k way then (L.set k.toNat way).set (cellB W T xs.length k way).toNat (backI way) else L
def layF (W T : Int) (xs : List Bool) (L : List Int) (k way : Int) : List Int × Bool :=
  if lok W T xs L then (laidL W T xs L k way, canLay W T xs L k way) else ([], false)
theorem laidL_len (W T : Int) (xs : List Bool) (L : List Int) (k way : Int) : (laidL W T xs L k way).length = L.length := by
  unfold laidL; split <;> simp
theorem layF_len (W T : Int) (xs : List Bool) (L : List Int) (k way : Int) : (layF W T xs L k way).1.length ≤ L.length := by
  unfold layF; split
  · rw [laidL_len]; exact Nat.le_refl _
  · simp
theorem cellB_bd {W T : Int} {n : Nat} {k way : Int} (hW : 1 ≤ W) (hn : (n : Int) = W * T) (h : 0 ≤ cellB W T n k way) :
    0 ≤ k ∧ k < n ∧ cellB W T n k way < n ∧ cellB W T n k way ≠ k ∧ okOf way = true := by
  unfold cellB at h ⊢
  split at h
  · rename_i hk
    have hb := step_bd (W := W) (T := T) (k := k) (way := way) hW hk.1 (by rw [← hn]; exact hk.2)
    rw [if_pos hk]
    refine ⟨hk.1, hk.2, ?_, step_ne hW h hk.1, stepI_edge (W := W) (T := T) (k := k) (by omega)⟩
    rcases hb with hb | hb <;> omega
  · omega
theorem canLay_neg {W T : Int} {xs : List Bool} {L : List Int} {k way : Int} (h : cellB W T xs.length k way < 0) : canLay W T xs L k way = false := by
  unfold canLay; rw [show decide (0 ≤ cellB W T xs.length k way) = false by simpa using h]; rfl
theorem canLay_f1 {W T : Int} {xs : List Bool} {L : List Int} {k way : Int} (h : freeB xs L k.toNat = false) : canLay W T xs L k way = false := by
  unfold canLay; rw [h]; simp
theorem canLay_f2 {W T : Int} {xs : List Bool} {L : List Int} {k way : Int} (h : freeB xs L (cellB W T xs.length k way).toNat = false) : canLay W T xs L k way = false := by
  unfold canLay; rw [h]; simp
theorem canLay_yes {W T : Int} {xs : List Bool} {L : List Int} {k way : Int} (h0 : 0 ≤ cellB W T xs.length k way) (h1 : freeB xs L k.toNat = true) (h2 : freeB xs L (cellB W T xs.length k way).toNat = true) : canLay W T xs L k way = true := by
  unfold canLay; rw [h1, h2]; simpa using h0

/-- Whether there is a domino to be lifted. -/
def canLift (L : List Int) (k : Int) : Bool := decide (0 ≤ k ∧ k < L.length) && (L.getD k.toNat 0 != 0)
def liftL (W T : Int) (L : List Int) (k : Int) : List Int :=
  if canLift L k then (L.set (stepI W T k (L.getD k.toNat 0)).toNat 0).set k.toNat 0 else L
def liftF (W T : Int) (xs : List Bool) (L : List Int) (k : Int) : List Int × Bool :=
  if lok W T xs L then (liftL W T L k, canLift L k) else ([], false)
theorem liftL_len (W T : Int) (L : List Int) (k : Int) : (liftL W T L k).length = L.length := by
  unfold liftL; split <;> simp
theorem liftF_len (W T : Int) (xs : List Bool) (L : List Int) (k : Int) : (liftF W T xs L k).1.length ≤ L.length := by
  unfold liftF; split
  · rw [liftL_len]; exact Nat.le_refl _
  · simp

theorem grown_of_below {w w' : World} (h : Below w.heap.size w w') (row : Option Nat) : w.grownBy w' row :=
  ⟨h.os, h.tape, h.output, h.size, fun k hk _ => h.block k hk⟩
theorem grown_seq {a b c : World} {row : Option Nat} (h : a.grownBy b row) (k : b.grownBy c row) : a.grownBy c row :=
  ⟨k.os.trans h.os, k.tape.trans h.tape, k.output.trans h.output, Nat.le_trans h.size k.size, fun i hi hr => (k.block i (Nat.lt_of_lt_of_le hi h.size) hr).trans (h.block i hi hr)⟩
theorem OwnsI.set {w : World} {B g n cap : Nat} {L : List Int} (h : OwnsI w B (.slice (some ⟨g, 0, none⟩) n cap) L) (k : Nat) (v : Int) :
    OwnsI (w.setCell ⟨g, k, none⟩ (.int .i64 v)) B (.slice (some ⟨g, 0, none⟩) n cap) (L.set k v) ∧ w.grownBy (w.setCell ⟨g, k, none⟩ (.int .i64 v)) (some g) := by
  have hl : n = L.length := by
    rcases h.2 with ⟨h1, h2⟩ | ⟨g', cap', cur, hv, _⟩
    · simp at h1
    · simp only [Value.slice.injEq] at hv; exact hv.2.1
  subst hl
  have := World.ownsRow.stored h k (.int .i64 v)
  rw [← List.map_set] at this
  exact ⟨OwnsI.ofRow this.1 rfl (by simp), this.2⟩
theorem OwnsI.cell {w : World} {B g n cap : Nat} {L : List Int} (h : OwnsI w B (.slice (some ⟨g, 0, none⟩) n cap) L) {k : Nat} (hk : k < L.length) : w.cell? ⟨g, k, none⟩ = some (.int .i64 (L.getD k 0)) := by
  have := IntsAt.cellAt (OwnsI.at h) hk
  rw [Nat.zero_add] at this; exact this
theorem OwnsI.free {w : World} {B g n cap : Nat} {L : List Int} (h : OwnsI w B (.slice (some ⟨g, 0, none⟩) n cap) L) (k : Nat) : w.frozen? ⟨g, k, none⟩ = false := by
  rcases h.2 with ⟨h1, h2⟩ | ⟨g', cap', cur, hv, hg, hh, _⟩
  · simp at h1
  · simp only [Value.slice.injEq, Option.some.injEq, Addr.mk.injEq] at hv
    obtain ⟨⟨rfl, _⟩, _⟩ := hv
    exact free3 hh k
theorem OwnsI.lt {w : World} {B g n cap : Nat} {L : List Int} (h : OwnsI w B (.slice (some ⟨g, 0, none⟩) n cap) L) : B ≤ g ∧ g < w.heap.size := World.ownsRow.lt h g rfl
theorem keep_store {w : World} {b g on kn : Nat} {x0 x1 x2 x3 : Option Value} {u : Value} (hg : g ≠ b) (hne : on ≠ kn) (h0 : w.cell? ⟨b, 0, none⟩ = x0) (h1 : w.cell? ⟨b, 1, none⟩ = x1) (h2 : w.cell? ⟨b, 2, none⟩ = x2) (h3 : w.cell? ⟨g, kn, none⟩ = x3) :
    (w.setCell ⟨g, on, none⟩ u).cell? ⟨b, 0, none⟩ = x0 ∧ (w.setCell ⟨g, on, none⟩ u).cell? ⟨b, 1, none⟩ = x1 ∧ (w.setCell ⟨g, on, none⟩ u).cell? ⟨b, 2, none⟩ = x2 ∧ (w.setCell ⟨g, on, none⟩ u).cell? ⟨g, kn, none⟩ = x3 := by
  have e1 : ∀ i : Nat, (⟨g, on, none⟩ : Addr) ≠ ⟨b, i, none⟩ := fun i e => by simp only [Addr.mk.injEq] at e; exact hg e.1
  have e2 : (⟨g, on, none⟩ : Addr) ≠ ⟨g, kn, none⟩ := fun e => by simp only [Addr.mk.injEq] at e; exact hne e.2.1
  exact ⟨(World.cell?_setCell_other _ _ _ _ (e1 0)).trans h0, (World.cell?_setCell_other _ _ _ _ (e1 1)).trans h1, (World.cell?_setCell_other _ _ _ _ (e1 2)).trans h2, (World.cell?_setCell_other _ _ _ _ e2).trans h3⟩
end Go.Proofs.Ythjocjiiihebbaa

namespace Go.Proofs.Ythjocjiiihebbaa
open Go.RowKit
set_option linter.unusedVariables false
set_option maxRecDepth 100000
set_option linter.unusedSimpArgs false

theorem rk_back {W T k way : Int} (hW : 1 ≤ W) (hW6 : W ≤ 6) (hk : 0 ≤ k) (hk1 : k < W * T) (hway : 0 ≤ way ∧ way ≤ 5) (h : 0 ≤ stepI W T k way) : stepI W T (stepI W T k way) (backI way) = k := by
  have hok := stepI_edge (W := W) (T := T) (k := k) (way := way) (by omega)
  have hb := step_bd (W := W) (T := T) (k := k) (way := way) hW hk hk1
  simp only [okOf, decide_eq_true_eq] at hok
  have hw : way = 1 ∨ way = 2 ∨ way = 3 ∨ way = 4 := by omega
  have hWs : W = 1 ∨ W = 2 ∨ W = 3 ∨ W = 4 ∨ W = 5 ∨ W = 6 := by omega
  rcases hWs with rfl | rfl | rfl | rfl | rfl | rfl <;> rcases hw with rfl | rfl | rfl | rfl
  all_goals (simp only [stepI, backI] at h hb ⊢)
  all_goals (try simp at h hb ⊢)
  all_goals (split at h <;> first | omega | (simp_all; done) | (simp_all <;> omega))

theorem getD_set1 {M : List Int} {c j : Nat} {v : Int} : (M.set c v).getD j 0 = if j = c ∧ c < M.length then v else M.getD j 0 := by
  simp only [List.getD_eq_getElem?_getD, List.getElem?_set]
  by_cases h : c = j
  · subst h
    by_cases h2 : c < M.length
    · simp [h2]
    · simp [h2]
  · simp [h, Ne.symm h]
theorem getD_set2 {M : List Int} {c o j : Nat} {v u : Int} (hc : c < M.length) (ho : o < M.length) : ((M.set c v).set o u).getD j 0 = if j = o then u else if j = c then v else M.getD j 0 := by
  rw [getD_set1, getD_set1]
  have h2 : o < (M.set c v).length := by simpa using ho
  by_cases e1 : j = o
  · rw [if_pos ⟨e1, h2⟩, if_pos e1]
  · rw [if_neg (fun q => e1 q.1), if_neg e1]
    by_cases e2 : j = c
    · rw [if_pos ⟨e2, hc⟩, if_pos e2]
    · rw [if_neg (fun q => e2 q.1), if_neg e2]
theorem back_back {way : Int} (h : 1 ≤ way ∧ way ≤ 4) : backI (backI way) = way := by unfold backI; omega
theorem back_nz {way : Int} (h : 0 ≤ way) : backI way ≠ 0 := by unfold backI; omega

theorem lok_lay {W T : Int} {xs : List Bool} {M : List Int} {c o : Nat} {way : Int} (h : lok W T xs M = true) (hc : c < xs.length) (ho : o < xs.length) (hne : o ≠ c) (hfc : freeB xs M c = true) (hfo : freeB xs M o = true) (hw : 1 ≤ way ∧ way ≤ 4)
    (hs : stepI W T c way = o) (hb : stepI W T o (backI way) = c) : lok W T xs ((M.set c way).set o (backI way)) = true := by
  obtain ⟨hr, hlen, hg⟩ := lok_rv h
  have hgd : ∀ j : Nat, ((M.set c way).set o (backI way)).getD j 0 = if j = o then backI way else if j = c then way else M.getD j 0 := fun j => getD_set2 (by omega) (by omega)
  obtain ⟨M', hM⟩ : ∃ M', M' = (M.set c way).set o (backI way) := ⟨_, rfl⟩
  rw [← hM] at hgd ⊢
  have hlM : M'.length = xs.length := by rw [hM]; simp [-List.getD_eq_getElem?_getD, hlen]
  clear hM
  unfold freeB at hfc hfo
  rw [Bool.and_eq_true, beq_iff_eq] at hfc hfo
  unfold lok goodN
  rw [hr, hlM]
  simp only [BEq.rfl, Bool.true_and, List.all_eq_true]
  intro j hj
  have hjn := List.mem_range.1 hj
  unfold goodB bothB
  rw [hgd j]
  by_cases e1 : j = o
  · subst e1
    rw [if_pos rfl, hb]
    have e2 : M'.getD c 0 = way := by rw [hgd c, if_neg (fun e => hne e.symm), if_pos rfl]
    simp only [Int.toNat_natCast]
    rw [e2, hfc.1, hfo.1, back_back hw]
    simp [-List.getD_eq_getElem?_getD]
  · rw [if_neg e1]
    by_cases e2 : j = c
    · subst e2
      rw [if_pos rfl, hs]
      have e3 : M'.getD o 0 = backI way := by rw [hgd o, if_pos rfl]
      simp only [Int.toNat_natCast]
      rw [e3, hfc.1, hfo.1]
      simp [-List.getD_eq_getElem?_getD]
    · rw [if_neg e2]
      have hgj := hg j (by omega)
      unfold goodB at hgj
      rw [Bool.or_eq_true] at hgj
      rcases hgj with hz | hbj
      · rw [hz]; rfl
      · have hbj' := hbj
        unfold bothB at hbj
        simp only [Bool.and_eq_true, decide_eq_true_eq, beq_iff_eq] at hbj
        obtain ⟨⟨⟨h0, hxj⟩, hxp⟩, hbk⟩ := hbj
        by_cases hz : M.getD j 0 = 0
        · rw [hz]; rfl
        · have hway := lok_way h (k := j) (by omega)
          have hnz := back_nz hway.1
          have p1 : (stepI W T j (M.getD j 0)).toNat ≠ o := fun e => by rw [e, hfo.2] at hbk; exact hnz hbk.symm
          have p2 : (stepI W T j (M.getD j 0)).toNat ≠ c := fun e => by rw [e, hfc.2] at hbk; exact hnz hbk.symm
          rw [hgd _, if_neg p1, if_neg p2, hbk, hxj, hxp]
          simp [-List.getD_eq_getElem?_getD, h0]

/-- What the domino on a cell tells. -/
theorem lok_at {W T : Int} {xs : List Bool} {L : List Int} (h : lok W T xs L = true) {k : Nat} (hk : k < xs.length) (h0 : L.getD k 0 ≠ 0) :
    ∃ o : Nat, stepI W T k (L.getD k 0) = o ∧ o < xs.length ∧ o ≠ k ∧ xs.getD k false = true ∧ xs.getD o false = true ∧ L.getD o 0 = backI (L.getD k 0) ∧ stepI W T o (backI (L.getD k 0)) = k ∧ 1 ≤ L.getD k 0 ∧ L.getD k 0 ≤ 4 := by
  obtain ⟨hr, hlen, _⟩ := lok_rv h
  obtain ⟨v1, v2, v3, v4, v5, _⟩ := rv_true hr
  have hb := lok_both h (k := k) (by omega) h0
  have hway := lok_way h (k := k) (by omega)
  unfold bothB at hb
  simp only [Bool.and_eq_true, decide_eq_true_eq, beq_iff_eq] at hb
  obtain ⟨⟨⟨s0, hx⟩, hxo⟩, hbk⟩ := hb
  have hbd := step_bd (W := W) (T := T) (k := k) (way := L.getD k 0) v1 (by omega) (by rw [← v5]; omega)
  have hne := step_ne (W := W) (T := T) (k := (k : Int)) (way := L.getD k 0) v1 s0 (by omega)
  have hrb := rk_back (W := W) (T := T) (k := (k : Int)) (way := L.getD k 0) v1 v2 (by omega) (by rw [← v5]; omega) (by omega) s0
  obtain ⟨o, ho⟩ := Int.eq_ofNat_of_zero_le s0
  rw [ho] at hxo hbk hbd hne hrb
  simp only [Int.toNat_natCast] at hxo hbk
  refine ⟨o, ho, ?_, ?_, hx, hxo, hbk, hrb, by omega, by omega⟩
  · rw [← v5] at hbd; omega
  · intro e; apply hne; rw [e]
theorem lok_of {W T : Int} {xs : List Bool} {L : List Int} (hr : rv W T xs = true) (hl : L.length = xs.length) (h : ∀ k, k < xs.length → L.getD k 0 ≠ 0 → ∃ o : Nat, stepI W T k (L.getD k 0) = o ∧ xs.getD k false = true ∧ xs.getD o false = true ∧ L.getD o 0 = backI (L.getD k 0)) : lok W T xs L = true := by
  unfold lok goodN
  rw [hr, hl]
  simp only [BEq.rfl, Bool.true_and, List.all_eq_true]
  intro k hk
  have hk' := List.mem_range.1 hk
  unfold goodB bothB
  by_cases h0 : L.getD k 0 = 0
  · rw [h0]; rfl
  · obtain ⟨o, h1, h2, h3, h4⟩ := h k hk' h0
    rw [h1]
    simp only [Int.toNat_natCast]
    rw [h2, h3, h4]
    simp [-List.getD_eq_getElem?_getD]
theorem lok_bare {W T : Int} {xs : List Bool} (hr : rv W T xs = true) : lok W T xs (List.replicate xs.length 0) = true := by
  refine lok_of hr (by simp) fun k hk h0 => absurd ?_ h0
  simp [List.getD, hk]
theorem lok_bareL (W T : Int) (xs : List Bool) : lok W T xs (bareL W T xs) = rv W T xs := by
  unfold bareL
  cases h : rv W T xs
  · unfold lok; rw [h]; rfl
  · rw [if_pos rfl]; exact lok_bare h
theorem ext_getD {L M : List Int} (hl : L.length = M.length) (h : ∀ k, k < L.length → L.getD k 0 = M.getD k 0) : L = M := by
  apply List.ext_getElem hl
  intro k a b
  have := h k a
  simpa [a, b] using this
theorem canLift_parts {L : List Int} {k : Int} (h : canLift L k = true) : ∃ kn : Nat, k = kn ∧ kn < L.length ∧ L.getD kn 0 ≠ 0 := by
  unfold canLift at h
  simp only [Bool.and_eq_true, decide_eq_true_eq, bne_iff_ne] at h
  obtain ⟨kn, rfl⟩ := Int.eq_ofNat_of_zero_le h.1.1
  exact ⟨kn, rfl, by omega, by simpa using h.2⟩
theorem canLift_of {L : List Int} {kn : Nat} (h : kn < L.length) (h0 : L.getD kn 0 ≠ 0) : canLift L kn = true := by
  unfold canLift
  simp only [Bool.and_eq_true, decide_eq_true_eq, bne_iff_ne]
  exact ⟨by omega, by simpa using h0⟩
theorem liftL_at {W T : Int} {L : List Int} {kn o : Nat} (h : canLift L kn = true) (hs : stepI W T kn (L.getD kn 0) = o) : liftL W T L kn = (L.set o 0).set kn 0 := by
  unfold liftL
  rw [if_pos h]
  simp only [Int.toNat_natCast]
  rw [hs]; simp
theorem lok_lift {W T : Int} {xs : List Bool} {L : List Int} (h : lok W T xs L = true) (k : Int) : lok W T xs (liftL W T L k) = true := by
  cases hc : canLift L k
  · unfold liftL; rw [hc]; exact h
  obtain ⟨kn, rfl, hk, h0⟩ := canLift_parts hc
  obtain ⟨hr, hlen, _⟩ := lok_rv h
  obtain ⟨o, hs, ho, hne, hx, hxo, hbk, hsb, hv1, hv4⟩ := lok_at h (k := kn) (by omega) h0
  rw [liftL_at hc hs]
  have hgd : ∀ j : Nat, ((L.set o 0).set kn 0).getD j 0 = if j = kn then 0 else if j = o then 0 else L.getD j 0 := fun j => getD_set2 (by omega) (by omega)
  refine lok_of hr (by simp [hlen]) fun j hj hj0 => ?_
  rw [hgd j] at hj0 ⊢
  by_cases e1 : j = kn
  · rw [if_pos e1] at hj0; exact absurd rfl hj0
  rw [if_neg e1] at hj0 ⊢
  by_cases e2 : j = o
  · rw [if_pos e2] at hj0; exact absurd rfl hj0
  rw [if_neg e2] at hj0 ⊢
  obtain ⟨p, ps, po, pne, px, pxo, pbk, psb, pv1, pv4⟩ := lok_at h hj hj0
  have q1 : p ≠ kn := by
    intro e; subst e
    rw [pbk] at hs
    rw [psb] at hs
    exact e2 (by omega)
  have q2 : p ≠ o := by
    intro e; subst e
    have : backI (L.getD j 0) = backI (L.getD kn 0) := by rw [← pbk, ← hbk]
    rw [this] at psb
    rw [hsb] at psb
    exact e1 (by omega)
  exact ⟨p, ps, px, pxo, by rw [hgd p, if_neg q1, if_neg q2]; exact pbk⟩
/-- What a domino that can be laid tells. -/
theorem canLay_at {W T : Int} {xs : List Bool} {L : List Int} {k way : Int} (hr : rv W T xs = true) (hl : L.length = xs.length) (h : canLay W T xs L k way = true) :
    ∃ kn o : Nat, k = kn ∧ kn < xs.length ∧ o < xs.length ∧ o ≠ kn ∧ stepI W T kn way = o ∧ freeB xs L kn = true ∧ freeB xs L o = true ∧ 1 ≤ way ∧ way ≤ 4 ∧ stepI W T o (backI way) = kn ∧ laidL W T xs L k way = (L.set kn way).set o (backI way) := by
  obtain ⟨v1, v2, v3, v4, v5, _⟩ := rv_true hr
  have hc := h
  unfold canLay at h
  simp only [Bool.and_eq_true, decide_eq_true_eq] at h
  obtain ⟨⟨h0, h1⟩, h2⟩ := h
  obtain ⟨k0, k1, o1, ok, hway⟩ := cellB_bd (W := W) (T := T) (n := xs.length) v1 v5 h0
  obtain ⟨kn, rfl⟩ := Int.eq_ofNat_of_zero_le k0
  obtain ⟨o, ho⟩ := Int.eq_ofNat_of_zero_le h0
  have hcs : cellB W T xs.length kn way = stepI W T kn way := by unfold cellB; rw [if_pos ⟨k0, k1⟩]
  have hst : stepI W T kn way = o := by rw [← hcs]; exact ho
  have hrb := rk_back (W := W) (T := T) (k := (kn : Int)) (way := way) v1 v2 (by omega) (by rw [← v5]; omega) (by simp only [okOf, decide_eq_true_eq] at hway; omega) (by rw [hst]; omega)
  rw [hst] at hrb
  rw [ho] at h2 o1 ok
  simp only [Int.toNat_natCast] at h1 h2
  simp only [okOf, decide_eq_true_eq] at hway
  refine ⟨kn, o, rfl, by omega, by omega, fun e => ok (by rw [e]), hst, h1, h2, by omega, by omega, hrb, ?_⟩
  unfold laidL
  rw [if_pos hc, ho]
  simp
theorem lok_laid {W T : Int} {xs : List Bool} {L : List Int} {k way : Int} (h : lok W T xs L = true) (hc : canLay W T xs L k way = true) : lok W T xs (laidL W T xs L k way) = true := by
  obtain ⟨hr, hlen, _⟩ := lok_rv h
  obtain ⟨kn, o, rfl, hk, ho, hne, hs, hf, hfo, w1, w4, hb, e⟩ := canLay_at hr hlen hc
  rw [e]
  exact lok_lay h hk ho hne hf hfo ⟨w1, w4⟩ hs hb
theorem free_zero {xs : List Bool} {L : List Int} {k : Nat} (h : freeB xs L k = true) : xs.getD k false = true ∧ L.getD k 0 = 0 := by
  unfold freeB at h; rw [Bool.and_eq_true, beq_iff_eq] at h; exact h
theorem lift_laid {W T : Int} {xs : List Bool} {L : List Int} {k way : Int} (h : lok W T xs L = true) (hc : canLay W T xs L k way = true) : canLift (laidL W T xs L k way) k = true ∧ liftL W T (laidL W T xs L k way) k = L := by
  obtain ⟨hr, hlen, _⟩ := lok_rv h
  obtain ⟨kn, o, rfl, hk, ho, hne, hs, hf, hfo, w1, w4, hb, e⟩ := canLay_at hr hlen hc
  rw [e]
  have hgd : ∀ j : Nat, ((L.set kn way).set o (backI way)).getD j 0 = if j = o then backI way else if j = kn then way else L.getD j 0 := fun j => getD_set2 (by omega) (by omega)
  have hkk : ((L.set kn way).set o (backI way)).getD kn 0 = way := by rw [hgd, if_neg (fun e => hne e.symm), if_pos rfl]
  have hcl : canLift ((L.set kn way).set o (backI way)) kn = true := canLift_of (by simp; omega) (by rw [hkk]; omega)
  refine ⟨hcl, ?_⟩
  rw [liftL_at (W := W) (T := T) hcl (by rw [hkk]; exact hs)]
  refine ext_getD (by simp) fun j hj => ?_
  rw [getD_set2 (by simp; omega) (by simp; omega), hgd]
  by_cases e1 : j = kn
  · rw [if_pos e1, e1]; exact (free_zero hf).2.symm
  · rw [if_neg e1]
    by_cases e2 : j = o
    · rw [if_pos e2, e2]; exact (free_zero hfo).2.symm
    · rw [if_neg e2, if_neg e2, if_neg e1]
theorem laid_lift {W T : Int} {xs : List Bool} {L : List Int} {kn : Nat} (h : lok W T xs L = true) (hc : canLift L kn = true) : canLay W T xs (liftL W T L kn) kn (L.getD kn 0) = true ∧ laidL W T xs (liftL W T L kn) kn (L.getD kn 0) = L := by
  obtain ⟨hr, hlen, _⟩ := lok_rv h
  obtain ⟨kn', e', hk, h0⟩ := canLift_parts hc
  obtain rfl : kn = kn' := by omega
  obtain ⟨o, hs, ho, hne, hx, hxo, hbk, hsb, hv1, hv4⟩ := lok_at h (k := kn) (by omega) h0
  rw [liftL_at hc hs]
  have hgd : ∀ j : Nat, ((L.set o 0).set kn 0).getD j 0 = if j = kn then 0 else if j = o then 0 else L.getD j 0 := fun j => getD_set2 (by omega) (by omega)
  have hcs : cellB W T xs.length kn (L.getD kn 0) = o := by unfold cellB; rw [if_pos ⟨by omega, by omega⟩]; exact hs
  have hcan : canLay W T xs ((L.set o 0).set kn 0) kn (L.getD kn 0) = true := by
    refine canLay_yes (by rw [hcs]; omega) ?_ ?_
    · simp only [Int.toNat_natCast]
      unfold freeB; rw [hgd, if_pos rfl, hx]; rfl
    · rw [hcs]; simp only [Int.toNat_natCast]
      unfold freeB; rw [hgd, if_neg hne, if_pos rfl, hxo]; rfl
  refine ⟨hcan, ?_⟩
  unfold laidL
  rw [if_pos hcan, hcs]
  simp only [Int.toNat_natCast]
  refine ext_getD (by simp) fun j hj => ?_
  rw [getD_set2 (by simp; omega) (by simp; omega), hgd]
  by_cases e2 : j = o
  · rw [if_pos e2, e2]; exact hbk.symm
  · rw [if_neg e2]
    by_cases e1 : j = kn
    · rw [if_pos e1, e1]
    · rw [if_neg e1, if_neg e1, if_neg e2]
end Go.Proofs.Ythjocjiiihebbaa

namespace Go.Proofs.Ythjocjiiihebbaa
open Go.RowKit
set_option linter.unusedVariables false
set_option maxRecDepth 100000
set_option linter.unusedSimpArgs false

end Go.Proofs.Ythjocjiiihebbaa

namespace Go.Proofs.Ythjocjiiihebbaa
open Go.RowKit
set_option linter.unusedVariables false
set_option maxRecDepth 100000
set_option linter.unusedSimpArgs false

theorem clone_own (la : Option Addr) (m lcap : Nat) (L : List Int) (w : World) (hm : m = L.length) (h0 : 0 < m) (hm' : m ≤ 1048576) (hl : IntsAt w la L) :
    Calls Try.prog 67 #[.slice la m lcap] w fun e w' => ∃ g cap, e = .returned (.slice (some ⟨g, 0, none⟩) m cap) ∧ OwnsI w' w.heap.size (.slice (some ⟨g, 0, none⟩) m cap) L ∧ Below w.heap.size w w' := by
  refine (clone_pos la m lcap L w hm h0 hm' hl).mono fun e w' ⟨a, cap, h1, h2, h3⟩ => ?_
  rcases h2.forms with ⟨_, h5⟩ | ⟨g, cap', h4, _, _⟩
  · rw [h5] at hm; simp at hm; omega
  · simp only [Value.slice.injEq] at h4
    obtain ⟨rfl, _, rfl⟩ := h4
    exact ⟨g, cap, h1, h2, h3⟩

theorem ret_slT {a : Option Addr} {n n' cap : Nat} {v : Value} (h : n = n') : Ending.returned (.tuple #[.slice a n cap, v]) = .returned (.tuple #[.slice a n' cap, v]) := by rw [h]
theorem rv_pos {W T : Int} {n : Nat} (h1 : 1 ≤ W) (h2 : 1 ≤ T) (h : (n : Int) = W * T) : 0 < n := by
  have := Int.mul_pos (show 0 < W by omega) (show 0 < T by omega)
  omega

theorem lift_on {W T : Int} {xs : List Bool} {L : List Int} {n kn : Nat} (h : lok W T xs L = true) (hW : 1 ≤ W) (hn : n = xs.length) (hWT : (n : Int) = W * T) (hk : kn < n) (hz : L.getD kn 0 ≠ 0) :
    ∃ on : Nat, on < n ∧ on ≠ kn ∧ stepI W T kn (L.getD kn 0) = on ∧ cellB W T n kn (L.getD kn 0) = on := by
  have hb := lok_both h (k := kn) (by rw [lok_len' h, ← hn]; exact hk) hz
  simp only [bothB, Bool.and_eq_true, decide_eq_true_eq] at hb
  have h0 := hb.1.1.1
  have hs := step_bd (W := W) (T := T) (k := kn) (way := L.getD kn 0) hW (by omega) (by rw [← hWT]; omega)
  have hne := step_ne hW h0 (by omega : (0 : Int) ≤ kn)
  refine ⟨(stepI W T kn (L.getD kn 0)).toNat, by omega, by omega, by omega, ?_⟩
  unfold cellB
  rw [if_pos ⟨by omega, by omega⟩]
  omega

end Go.Proofs.Ythjocjiiihebbaa

namespace Go.Proofs.Ythjocjiiihebbaa
open Go.RowKit
set_option linter.unusedVariables false
set_option maxRecDepth 100000
set_option linter.unusedSimpArgs false

theorem ret_slB {a : Option Addr} {n n' cap : Nat} {b b' : Bool} (h : n = n') (hb : b = b') : Ending.returned (.tuple #[.slice a n cap, .bool b]) = .returned (.tuple #[.slice a n' cap, .bool b']) := by rw [h, hb]
theorem sStepTo_is (W T : Int) (k way : Int) (a : Option Addr) (n cap : Nat) (xs : List Bool) (w : World) {o : Int} (hn : n = xs.length) (hn' : n ≤ 1048576) (ha : BoolsAt w a xs) (h : rv W T xs = true) (ho : cellB W T n k way = o) :
    Calls Try.prog 123 #[.agg #[.int .i64 W, .int .i64 T, .slice a n cap], .int .i64 k, .int .i64 way] w fun e w' => e = .returned (.int .i64 o) ∧ Below w.heap.size w w' := by
  have e : stepTo W T xs k way = o := by unfold stepTo; rw [if_pos h, ← hn, ho]
  rw [← e]; exact sStepTo_any W T k way a n cap xs w hn hn' ha

/-- What a call of append returned is a list of the call's own. -/
theorem own_of_row {w : World} {B n : Nat} {v : Value} {L : List Int} {cs : List Value} (h : w.ownsRow B 3 1 v n cs) (hc : cs = L.map (Value.int .i64)) (hn : L.length = n) (h0 : 0 < n) :
    ∃ g cap, v = .slice (some ⟨g, 0, none⟩) n cap ∧ OwnsI w B (.slice (some ⟨g, 0, none⟩) n cap) L := by
  obtain ⟨g, cap, rfl⟩ := form_pos h h0
  exact ⟨g, cap, rfl, OwnsI.ofRow h hc hn⟩

set_option maxHeartbeats 4000000 in
theorem sLayOne_ret (W T : Int) (a : Option Addr) (n cap : Nat) (xs : List Bool) (la : Option Addr) (m lcap : Nat) (L : List Int) (k way : Int) (w : World) (hn : n = xs.length) (hn' : n ≤ 1048576) (hm : m = L.length) (hm' : m ≤ 1048576) (ha : BoolsAt w a xs) (hl : IntsAt w la L) :
    Calls Try.prog 112 #[.agg #[.int .i64 W, .int .i64 T, .slice a n cap], .slice la m lcap, .int .i64 k, .int .i64 way] w (RetLT w (layF W T xs L k way).1.length (layF W T xs L k way).1 (layF W T xs L k way).2) := by
  have HN := Lib.hid hn; clear hn
  have HM := Lib.hid hm; clear hm
  have HA := Lib.hid ha; clear ha
  have HL := Lib.hid hl; clear hl
  cases h : lok W T xs L
  · have e : layF W T xs L k way = ([], false) := by unfold layF; rw [h]; rfl
    rw [e]
    have H := Lib.hid h; clear h e
    go_enter Try.func112, Try.ntmps112
    go_wp2_with fail
    refine (sLaidOk_any _ _ _ _ _ xs _ _ _ L _ HN.out hn' HM.out hm' (HA.out.one _) (HL.out.one _)).mono ?_; rintro e w1 ⟨rfl, hb1⟩
    have b1 := below_seq (below1 w _) hb1
    rw [H.out]
    go_wp2
    go_ret2
    exact ⟨some ⟨w1.heap.size, 0, none⟩, 0, rfl, World.ownsRow_made w1 #[] 0 b1.size (Nat.zero_le _) rfl, below_seq b1 (below1 _ _)⟩
  · obtain ⟨h1, h2, h3⟩ := lok_rv h
    have hle : m = n := by rw [HM.out, HN.out]; exact h2
    subst hle
    obtain ⟨v1, v2, v3, v4, v5, _⟩ := rv_true h1
    have HV : Hid ((m : Int) = W * T) := by show (m : Int) = W * T; rw [HN.out]; exact v5
    have hpos := rv_pos v1 v3 HV.out
    have e : layF W T xs L k way = (laidL W T xs L k way, canLay W T xs L k way) := by unfold layF; rw [h]; rfl
    rw [e]
    have HE : Hid ((laidL W T xs L k way).length = m) := by show _ = m; rw [laidL_len, HM.out]
    clear h2 h3 v5 e
    have HR := Lib.hid h1; clear h1
    have H := Lib.hid h; clear h
    obtain ⟨i0, hi, hz0, hz1, hz2⟩ := info_parts infoInt
    obtain ⟨lb, lo, rfl, -⟩ := HL.out 0 (by rw [← HM.out]; exact hpos)
    obtain ⟨o, hco⟩ : ∃ o, cellB W T m k way = o := ⟨_, rfl⟩
    have bd := cellB_bd (n := m) (k := k) (way := way) v1 HV.out
    rw [hco] at bd
    have HCO := Lib.hid hco; clear hco
    go_enter Try.func112, Try.ntmps112
    go_wp2_with fail
    refine (sLaidOk_any _ _ _ _ _ xs _ _ _ L _ HN.out hn' HM.out hm' (HA.out.one _) (HL.out.one _)).mono ?_; rintro e w1 ⟨rfl, hb1⟩
    have p1 := heap_later (heap_new w _) hb1
    have b1 := below_seq (below1 w _) hb1
    have z1 := b1.size
    rw [H.out]
    clear hb1
    have HL1 := Lib.hid ((HL.out.below b1).one (.cells #[] 3 (0, 0)))
    have p1' := heap_later p1 (below1 w1 (.cells #[] 3 (0, 0)))
    obtain ⟨c0, c1, c2⟩ := cells3 p1'
    go_wp2_with (at_builtin; refine wpList_append_own _ rfl _ _ 32 rfl w1.heap.size 3 i0 (.int .i64 0) 1 8 Try.underlying32 hi hz0 hz1 hz2 rfl (by decide) _ _ _ rfl (World.ownsRow_made w1 #[] 0 (Nat.le_refl _) (Nat.zero_le _) rfl) ⟨lb, lo, none⟩ m lcap (L.map (Value.int .i64)) rfl (by rw [List.length_map, ← HM.out]; omega) (ints_news HL1.out) (ints_one L) (by unfold maxLen; omega) (by omega) (by simp) ?_; intro v' w2 hown hgrow hnil; clear hnil; rw [Nat.zero_add, List.nil_append] at hown; obtain ⟨g, gc, rfl, ho2⟩ := own_of_row (L := L) hown rfl HM.out.symm hpos; clear hown; have hgw : w.heap.size < g := Nat.lt_of_lt_of_le (heap_lt p1) ho2.lt.1; have hg2 : (w1.alloc (.cells #[] 3 (0, 0))).grownBy w2 (some w1.heap.size) := hgrow; clear hgrow; have b2 := below_grown (below_seq b1 (below1 _ _)) hg2 (Nat.le_refl _) (fun k e => by cases e; exact z1); have p2 := heap_grown p1' hg2 (by simp; have := heap_lt p1; omega); clear c0 c1 c2; obtain ⟨c0, c1, c2⟩ := cells3 p2; have HB2 := Lib.hid b2; clear hg2)
    have O2 := Lib.hid (ho2.lower z1); clear ho2
    refine (sStepTo_is _ _ _ _ _ _ _ xs _ HN.out hn' (HA.out.below HB2.out) HR.out HCO.out).mono ?_; rintro e w3 ⟨rfl, hb3⟩
    have p3 := heap_later p2 hb3
    clear c0 c1 c2
    obtain ⟨c0, c1, c2⟩ := cells3 p3
    have b3 := Lib.hid (below_seq HB2.out hb3)
    have O3 := Lib.hid (O2.out.below hb3)
    have A3 := Lib.hid (HA.out.below b3.out)
    have I3 := Lib.hid (HL.out.below b3.out)
    clear O2 hb3 p2 p1 p1' HL1 b2 b1
    by_cases h0 : o < 0
    · have HC : Hid (canLay W T xs L k way = false) := canLay_neg (by rw [← HN.out, HCO.out]; exact h0)
      have HLL : Hid (laidL W T xs L k way = L) := by show _ = _; unfold laidL; rw [HC.out]; rfl
      have h0d : decide (o < 0) = true := by simpa using h0
      clear bd
      go_wp2
      go_ret2
      exact ⟨some ⟨g, 0, none⟩, gc, ret_slB HE.out.symm HC.out.symm, by rw [HE.out, HLL.out]; exact O3.out, b3.out⟩
    · obtain ⟨k0, k1, o1, ok, hway⟩ := bd (by omega)
      clear bd
      obtain ⟨kn, rfl⟩ : ∃ kn : Nat, k = kn := ⟨k.toNat, by omega⟩
      obtain ⟨on, rfl⟩ : ∃ on : Nat, o = on := ⟨o.toNat, by omega⟩
      have hk : kn < m := by omega
      have hon : on < m := by omega
      have hw : 0 ≤ way ∧ way ≤ 1000 := by simp only [okOf, decide_eq_true_eq] at hway; omega
      obtain ⟨hw0, hw1⟩ := hw
      have hne : ¬ kn = on := by omega
      have h0d : decide ((on : Int) < 0) = false := by simp
      have e1 : (kn : Int) < m := by omega
      have e2 : (on : Int) < m := by omega
      clear hway ok k0 k1 o1 h0
      obtain ⟨xk, hxk⟩ : ∃ x, x = xs.getD kn false := ⟨_, rfl⟩
      obtain ⟨xo, hxo⟩ : ∃ x, x = xs.getD on false := ⟨_, rfl⟩
      obtain ⟨lk, hlk⟩ : ∃ x, x = L.getD kn 0 := ⟨_, rfl⟩
      obtain ⟨lq, hlq⟩ : ∃ x, x = L.getD on 0 := ⟨_, rfl⟩
      obtain ⟨xb, xf, rfl, -⟩ := A3.out kn (by rw [← HN.out]; exact hk)
      have qk := A3.out.cellAt (i := kn) (by rw [← HN.out]; exact hk)
      have qo := A3.out.cellAt (i := on) (by rw [← HN.out]; exact hon)
      have rk := I3.out.cellAt (i := kn) (by rw [← HM.out]; exact hk)
      have ro := I3.out.cellAt (i := on) (by rw [← HM.out]; exact hon)
      rw [← hxk] at qk; rw [← hxo] at qo; rw [← hlk] at rk; rw [← hlq] at ro
      have HFK : Hid (freeB xs L kn = (xk && (lk == 0))) := by show _ = _; rw [hxk, hlk]; rfl
      have HFO : Hid (freeB xs L on = (xo && (lq == 0))) := by show _ = _; rw [hxo, hlq]; rfl
      clear hxk hxo hlk hlq
      have HCL : Hid (canLay W T xs L kn way = (freeB xs L kn && freeB xs L on)) := by
        show _ = _; unfold canLay; rw [← HN.out, HCO.out]; simp
      by_cases hall : (xk = true ∧ xo = true) ∧ lk = 0 ∧ lq = 0
      · obtain ⟨⟨rfl, rfl⟩, rfl, rfl⟩ := hall
        have HC : Hid (canLay W T xs L kn way = true) := by show _ = _; rw [HCL.out, HFK.out, HFO.out]; rfl
        have HLL : Hid (laidL W T xs L kn way = (L.set kn way).set on (backI way)) := by
          show _ = _; unfold laidL; rw [HC.out, ← HN.out, HCO.out]; simp
        have s1 := OwnsI.set O3.out kn way
        have s2 := OwnsI.set s1.1 on (backI way)
        have hx1 := O3.out.cell (k := kn) (by rw [← HM.out]; exact hk)
        have hx2 := O3.out.cell (k := on) (by rw [← HM.out]; exact hon)
        have hz1 := O3.out.free kn
        have hz2 := O3.out.free on
        have HS := Lib.hid s2.1
        have HG := Lib.hid (grown_seq s1.2 s2.2)
        clear s1 s2
        have y1 := hx1
        go_wp2_with fail
        refine (l2Back_any _ _ hw0 hw1).mono ?_; rintro e w4 ⟨rfl, rfl⟩
        go_wp2
        go_ret2
        exact ⟨some ⟨g, 0, none⟩, gc, ret_slB HE.out.symm HC.out.symm, by rw [HE.out, HLL.out]; exact HS.out, below_grown b3.out HG.out (Nat.le_refl _) (fun k e => by cases e; exact O3.out.lt.1)⟩
      · have HC : Hid (canLay W T xs L kn way = false) := by
          show _ = _; rw [HCL.out, HFK.out, HFO.out]
          cases xk <;> cases xo <;> simp at hall ⊢
          exact hall
        have HLL : Hid (laidL W T xs L kn way = L) := by show _ = _; unfold laidL; rw [HC.out]; rfl
        cases xk
        · clear hall
          go_wp2
          go_ret2
          exact ⟨some ⟨g, 0, none⟩, gc, ret_slB HE.out.symm HC.out.symm, by rw [HE.out, HLL.out]; exact O3.out, b3.out⟩
        · cases xo
          · clear hall
            go_wp2
            go_ret2
            exact ⟨some ⟨g, 0, none⟩, gc, ret_slB HE.out.symm HC.out.symm, by rw [HE.out, HLL.out]; exact O3.out, b3.out⟩
          · by_cases hlk : lk = 0
            · have hlq : lq ≠ 0 := fun e => hall ⟨⟨rfl, rfl⟩, hlk, e⟩
              subst hlk
              clear hall
              have t1 : (lq != 0) = true := by simpa using hlq
              have t2 : (lq == 0) = false := by simpa using hlq
              go_wp2
              go_ret2
              exact ⟨some ⟨g, 0, none⟩, gc, ret_slB HE.out.symm HC.out.symm, by rw [HE.out, HLL.out]; exact O3.out, b3.out⟩
            · clear hall
              have t1 : (lk != 0) = true := by simpa using hlk
              have t2 : (lk == 0) = false := by simpa using hlk
              go_wp2
              go_ret2
              exact ⟨some ⟨g, 0, none⟩, gc, ret_slB HE.out.symm HC.out.symm, by rw [HE.out, HLL.out]; exact O3.out, b3.out⟩

set_option maxHeartbeats 4000000 in
theorem sLiftOne_ret (W T : Int) (a : Option Addr) (n cap : Nat) (xs : List Bool) (la : Option Addr) (m lcap : Nat) (L : List Int) (k : Int) (w : World) (hn : n = xs.length) (hn' : n ≤ 1048576) (hm : m = L.length) (hm' : m ≤ 1048576) (ha : BoolsAt w a xs) (hl : IntsAt w la L) :
    Calls Try.prog 114 #[.agg #[.int .i64 W, .int .i64 T, .slice a n cap], .slice la m lcap, .int .i64 k] w (RetLT w (liftF W T xs L k).1.length (liftF W T xs L k).1 (liftF W T xs L k).2) := by
  have HN := Lib.hid hn; clear hn
  have HM := Lib.hid hm; clear hm
  have HA := Lib.hid ha; clear ha
  have HL := Lib.hid hl; clear hl
  cases h : lok W T xs L
  · have e : liftF W T xs L k = ([], false) := by unfold liftF; rw [h]; rfl
    rw [e]
    have H := Lib.hid h; clear h e
    go_enter Try.func114, Try.ntmps114
    go_wp2_with fail
    refine (sLaidOk_any _ _ _ _ _ xs _ _ _ L _ HN.out hn' HM.out hm' (HA.out.one _) (HL.out.one _)).mono ?_; rintro e w1 ⟨rfl, hb1⟩
    have b1 := below_seq (below1 w _) hb1
    rw [H.out]
    go_wp2
    go_ret2
    exact ⟨some ⟨w1.heap.size, 0, none⟩, 0, rfl, World.ownsRow_made w1 #[] 0 b1.size (Nat.zero_le _) rfl, below_seq b1 (below1 _ _)⟩
  · obtain ⟨h1, h2, h3⟩ := lok_rv h
    have hle : m = n := by rw [HM.out, HN.out]; exact h2
    subst hle
    obtain ⟨v1, v2, v3, v4, v5, _⟩ := rv_true h1
    have HV : Hid ((m : Int) = W * T) := by show (m : Int) = W * T; rw [HN.out]; exact v5
    have hpos := rv_pos v1 v3 HV.out
    have e : liftF W T xs L k = (liftL W T L k, canLift L k) := by unfold liftF; rw [h]; rfl
    rw [e]
    have HE : Hid ((liftL W T L k).length = m) := by show _ = m; rw [liftL_len, HM.out]
    clear h2 h3 v5 e
    have HR := Lib.hid h1; clear h1
    have H := Lib.hid h; clear h
    obtain ⟨i0, hi, hz0, hz1, hz2⟩ := info_parts infoInt
    obtain ⟨lb, lo, rfl, hlc⟩ := HL.out 0 (by rw [← HM.out]; exact hpos)
    have HLB : Hid (lb < w.heap.size) := World.block_lt_of_cell? w _ hlc
    clear hlc
    go_enter Try.func114, Try.ntmps114
    go_wp2_with fail
    refine (sLaidOk_any _ _ _ _ _ xs _ _ _ L _ HN.out hn' HM.out hm' (HA.out.one _) (HL.out.one _)).mono ?_; rintro e w1 ⟨rfl, hb1⟩
    have p1 := heap_later (heap_new w _) hb1
    have b1 := below_seq (below1 w _) hb1
    have z1 := b1.size
    rw [H.out]
    clear hb1
    have HL1 := Lib.hid ((HL.out.below b1).one (.cells #[] 3 (0, 0)))
    have p1' := heap_later p1 (below1 w1 (.cells #[] 3 (0, 0)))
    obtain ⟨c0, c1, c2⟩ := cells3 p1'
    go_wp2_with (at_builtin; refine wpList_append_own _ rfl _ _ 32 rfl w1.heap.size 3 i0 (.int .i64 0) 1 8 Try.underlying32 hi hz0 hz1 hz2 rfl (by decide) _ _ _ rfl (World.ownsRow_made w1 #[] 0 (Nat.le_refl _) (Nat.zero_le _) rfl) ⟨lb, lo, none⟩ m lcap (L.map (Value.int .i64)) rfl (by rw [List.length_map, ← HM.out]; omega) (ints_news HL1.out) (ints_one L) (by unfold maxLen; omega) (by omega) (by simp) ?_; intro v' w2 hown hgrow hnil; clear hnil; rw [Nat.zero_add, List.nil_append] at hown; obtain ⟨g, gc, rfl, ho2⟩ := own_of_row (L := L) hown rfl HM.out.symm hpos; clear hown; have hgw : w.heap.size < g := Nat.lt_of_lt_of_le (heap_lt p1) ho2.lt.1; have hg2 : (w1.alloc (.cells #[] 3 (0, 0))).grownBy w2 (some w1.heap.size) := hgrow; clear hgrow; have b2 := below_grown (below_seq b1 (below1 _ _)) hg2 (Nat.le_refl _) (fun k e => by cases e; exact z1); have p2 := heap_grown p1' hg2 (by simp; have := heap_lt p1; omega); clear c0 c1 c2; obtain ⟨c0, c1, c2⟩ := cells3 p2; have HB2 := Lib.hid b2; clear hg2)
    have O2 := Lib.hid (ho2.lower z1); clear ho2
    have O3 := O2
    have b3 := HB2
    have A3 := Lib.hid (HA.out.below b3.out)
    have I3 := Lib.hid (HL.out.below b3.out)
    clear O2 p1 p1' HL1 b2 b1
    cases hk : inB k 0 ((m : Int) - 1)
    · have HC : Hid (canLift L k = false) := by
        show _ = _; unfold canLift; rw [show decide (0 ≤ k ∧ k < (L.length : Int)) = false by rw [← HM.out]; simp only [inB, decide_eq_false_iff_not] at hk; simp; omega]; rfl
      have HLL : Hid (liftL W T L k = L) := by show _ = _; unfold liftL; rw [HC.out]; rfl
      refine (l1In_any _ _ _ _).mono ?_; rintro e w6 ⟨rfl, rfl⟩; rw [hk]
      clear hk
      go_wp2
      go_ret2
      exact ⟨some ⟨g, 0, none⟩, gc, ret_slB HE.out.symm HC.out.symm, by rw [HE.out, HLL.out]; exact O3.out, b3.out⟩
    · have hk2 : 0 ≤ k ∧ k < m := by simp only [inB, decide_eq_true_eq] at hk; omega
      obtain ⟨k0, k1⟩ := hk2
      refine (l1In_any _ _ _ _).mono ?_; rintro e w6 ⟨rfl, rfl⟩; rw [hk]
      clear hk
      obtain ⟨kn, rfl⟩ : ∃ kn : Nat, k = kn := ⟨k.toNat, by omega⟩
      have hk : kn < m := by omega
      obtain ⟨lk, hlk⟩ : ∃ x, x = L.getD kn 0 := ⟨_, rfl⟩
      have rk := I3.out.cellAt (i := kn) (by rw [← HM.out]; exact hk)
      rw [← hlk] at rk
      have HCL : Hid (canLift L kn = (lk != 0)) := by
        show _ = _; unfold canLift; rw [show decide (0 ≤ (kn : Int) ∧ (kn : Int) < (L.length : Int)) = true by rw [← HM.out]; simp; omega, hlk]; simp
      by_cases hz : lk = 0
      · subst hz
        have HC : Hid (canLift L kn = false) := HCL.out
        have HLL : Hid (liftL W T L kn = L) := by show _ = _; unfold liftL; rw [HC.out]; rfl
        clear hlk
        go_wp2
        go_ret2
        exact ⟨some ⟨g, 0, none⟩, gc, ret_slB HE.out.symm HC.out.symm, by rw [HE.out, HLL.out]; exact O3.out, b3.out⟩
      · have HC : Hid (canLift L kn = true) := HCL.out.trans (by simpa using hz)
        obtain ⟨on, o1, o2, o3, o4⟩ := lift_on H.out v1 HN.out HV.out hk (by rw [← hlk]; exact hz)
        have HLL : Hid (liftL W T L kn = (L.set on 0).set kn 0) := by show _ = _; unfold liftL; rw [HC.out, if_pos rfl, Int.toNat_natCast, o3, Int.toNat_natCast]
        rw [← hlk] at o3
        have HO3 := Lib.hid o3; clear o3 o4
        have z2 : (lk == 0) = false := by simpa using hz
        have e1 : (kn : Int) < m := by omega
        have e2 : (on : Int) < m := by omega
        have hlb := HLB.out
        have hg1 : ¬ g = w.heap.size := by omega
        have hg2 : ¬ g = lb := by omega
        have hg3 : ¬ w.heap.size = g := by omega
        have hg4 : ¬ lb = g := by omega
        clear hlk
        go_wp2
        have P2 : w2.drew.heap[w.heap.size]? = some _ := p2
        go_region_held3 (fun w' => w'.cell? ⟨w.heap.size, 0, none⟩ = some (.int .i64 W) ∧ w'.cell? ⟨w.heap.size, 1, none⟩ = some (.int .i64 T) ∧ w'.cell? ⟨w.heap.size, 2, none⟩ = some (.slice a m cap) ∧ w'.cell? ⟨lb, lo + kn, none⟩ = some (.int .i64 lk))
          (go_keep)
          (first
            | (go_at_call 54; refine (l2Step_is _ _ _ _ _ _ _ _ v1 v2 v3 v4 k0 (by rw [← HV.out]; exact k1) HO3.out).mono ?_; rintro e w6 ⟨rfl, hb6⟩; have p6 := heap_later P2 hb6; obtain ⟨c60, c61, c62⟩ := cells3 p6; have k6 := cell_later hb6 (show (World.drew w2).cell? _ = some _ from rk); have O6 := (show OwnsI w2.drew _ _ _ from O3.out).below hb6; have x6 := O6.cell (k := on) (by rw [← HM.out]; exact o1); have f6 := O6.free on; have f7 := O6.free kn))
        have s1 := OwnsI.set O6 on 0
        have s2 := OwnsI.set s1.1 kn 0
        have y1 := s1.1.cell (k := kn) (by rw [List.length_set, ← HM.out]; exact hk)
        have y2 := s1.1.free kn
        have HS := Lib.hid s2.1
        have HG := Lib.hid (grown_seq s1.2 s2.2)
        have HB := Lib.hid (below_seq b3.out (below_seq (drew_below _) hb6))
        have HGL : Hid (w.heap.size ≤ g) := O6.lt.1
        clear s1 s2 O6
        go_wp2
        go_ret2
        exact ⟨some ⟨g, 0, none⟩, gc, ret_slB HE.out.symm HC.out.symm, by rw [HE.out, HLL.out]; exact HS.out, below_grown HB.out HG.out (Nat.le_refl _) (fun k e => by cases e; exact HGL.out)⟩

end Go.Proofs.Ythjocjiiihebbaa
