/- Plain facts: what the spreading of heights keeps from side to side. Merged of: HtsP, HtsQ. -/
import Derived.Test.YtknigcjpgkolgaaKEdge
namespace Go.Proofs.Ytknigcjpgkolgaa
open Go.RowKit
set_option linter.unusedVariables false
set_option maxRecDepth 100000
set_option linter.unusedSimpArgs false

end Go.Proofs.Ytknigcjpgkolgaa

namespace Go.Proofs.Ytknigcjpgkolgaa
open Go.RowKit
set_option linter.unusedVariables false
set_option maxRecDepth 100000
set_option linter.unusedSimpArgs false

/-- Heights within bounds that are told by the sides along which they grow by as much as they may. -/
structure GT (W T : Int) (xs : List Bool) (N fk : Nat) (lo hi : Nat × Bool → Int) (G : List Int) : Prop where
  fst : frstK W T xs N = fk
  len : G.length = N
  off : ∀ k, k < N → hAt W T xs k = false → G.getD k 0 = 99
  bd : ∀ k, k < N → hAt W T xs k = true → -60 ≤ G.getD k 0 ∧ G.getD k 0 ≤ 60
  first : G.getD fk 0 = 0
  side : ∀ k nth, k < N → sUsed W T xs k nth = true → lo (k, nth) ≤ G.getD (sTo W k nth).toNat 0 - G.getD k 0 ∧ G.getD (sTo W k nth).toNat 0 - G.getD k 0 ≤ hi (k, nth)
  small : ∀ s, -3 ≤ lo s ∧ lo s ≤ 3 ∧ -3 ≤ hi s ∧ hi s ≤ 3
  tight : ∀ E : Nat → Prop, E fk → (∀ k nth, k < N → sUsed W T xs k nth = true → (E k → G.getD (sTo W k nth).toNat 0 = G.getD k 0 + hi (k, nth) → E (sTo W k nth).toNat) ∧ (E (sTo W k nth).toNat → G.getD k 0 = G.getD (sTo W k nth).toNat 0 - lo (k, nth) → E k)) → ∀ k, k < N → hAt W T xs k = true → E k
def exN (W T : Int) (xs : List Bool) (N : Nat) (G C : List Int) : Nat := (List.range N).countP fun k => hAt W T xs k && (C.getD k 0 == G.getD k 0)
def allE (W T : Int) (xs : List Bool) (N : Nat) (G C : List Int) : Prop := ∀ k, k < N → hAt W T xs k = true → C.getD k 0 = G.getD k 0
theorem GPass.step {W T : Int} {xs : List Bool} {N fk k kt : Nat} {nth : Bool} {lo hi : Nat × Bool → Int} {G C0 C : List Int} {P : List (Nat × Bool)} (hW : 1 ≤ W) (hg : GT W T xs N fk lo hi G) (h : GPass W T xs N fk lo hi G C0 P C) (hk : k < N) (hkt : kt < N) (hu : sUsed W T xs k nth = true) (ht : sTo W k nth = kt) (hne : k ≠ kt)
    {x1 y1 : Int} (hy : y1 = if C.getD k 0 + hi (k, nth) < C.getD kt 0 then C.getD k 0 + hi (k, nth) else C.getD kt 0) (hx : x1 = if y1 - lo (k, nth) < C.getD k 0 then y1 - lo (k, nth) else C.getD k 0) :
    GPass W T xs N fk lo hi G C0 (P ++ [(k, nth)]) ((C.set kt y1).set k x1) := by
  have hak : hAt W T xs k = true := (hAt_iff hW).2 (Or.inl ⟨nth, hu⟩)
  have hakt : hAt W T xs kt = true := (hAt_iff hW).2 (Or.inr ⟨k, nth, hu, ht⟩)
  have hsd := hg.side k nth hk hu
  rw [ht, Int.toNat_natCast] at hsd
  have ax := h.inv.on k hk hak
  have ay := h.inv.on kt hkt hakt
  have lx := h.le k hk
  have ly := h.le kt hkt
  have get : ∀ j, j < N → ((C.set kt y1).set k x1).getD j 0 = if j = k then x1 else if j = kt then y1 else C.getD j 0 := by
    intro j hj
    rw [getD_set2 (by rw [h.inv.len]; exact hkt) (by rw [h.inv.len]; exact hk)]
  have y1a : y1 ≤ C.getD kt 0 ∧ y1 ≤ C.getD k 0 + hi (k, nth) ∧ G.getD kt 0 ≤ y1 := by rw [hy]; split <;> omega
  have x1a : x1 ≤ C.getD k 0 ∧ x1 ≤ y1 - lo (k, nth) ∧ G.getD k 0 ≤ x1 := by rw [hx]; split <;> omega
  have mono : ∀ j, j < N → ((C.set kt y1).set k x1).getD j 0 ≤ C.getD j 0 := by
    intro j hj
    rw [get j hj]
    by_cases e : j = k
    · subst e; rw [if_pos rfl]; omega
    · rw [if_neg e]
      by_cases e2 : j = kt
      · subst e2; rw [if_pos rfl]; omega
      · rw [if_neg e2]; omega
  have low : ∀ j, j < N → hAt W T xs j = true → G.getD j 0 ≤ ((C.set kt y1).set k x1).getD j 0 := by
    intro j hj ha
    rw [get j hj]
    by_cases e : j = k
    · subst e; rw [if_pos rfl]; omega
    · rw [if_neg e]
      by_cases e2 : j = kt
      · subst e2; rw [if_pos rfl]; omega
      · rw [if_neg e2]; exact (h.inv.on j hj ha).1
  obtain ⟨hfN, hfa⟩ := first_hAt hW hg.fst
  refine ⟨⟨by rw [List.length_set, List.length_set]; exact h.inv.len, ?_, ?_, ?_⟩, fun j hj => Int.le_trans (mono j hj) (h.le j hj), ?_⟩
  · intro j hj ha
    rw [get j hj, if_neg (by rintro rfl; rw [hak] at ha; cases ha), if_neg (by rintro rfl; rw [hakt] at ha; cases ha)]
    exact h.inv.off j hj ha
  · intro j hj ha
    exact ⟨low j hj ha, Int.le_trans (mono j hj) (h.inv.on j hj ha).2⟩
  · have a := low fk hfN hfa
    have b := mono fk hfN
    rw [h.inv.first] at b
    rw [hg.first] at a
    omega
  · intro s hs
    rw [List.mem_append, List.mem_singleton] at hs
    rcases hs with hs | rfl
    · obtain ⟨d1, d2⟩ := h.done s hs
      refine ⟨fun e1 e2 => ?_, fun e1 e2 => ?_⟩
      · have d := d1 e1 e2
        by_cases hb : (sTo W s.1 s.2).toNat < N
        · have m := mono _ hb
          cases ha : hAt W T xs (sTo W s.1 s.2).toNat
          · rw [get _ hb, if_neg (by intro e; rw [e, hak] at ha; cases ha), if_neg (by intro e; rw [e, hakt] at ha; cases ha)]; exact d
          · have l := low _ hb ha; omega
        · have hl : ¬ (sTo W s.1 s.2).toNat < C.length := by rw [h.inv.len]; exact hb
          rw [← d]
          simp [List.getD, List.getElem?_eq_none (show ((C.set kt y1).set k x1).length ≤ (sTo W s.1 s.2).toNat by simp; omega), List.getElem?_eq_none (show C.length ≤ (sTo W s.1 s.2).toNat by omega)]
      · have d := d2 e1 e2
        by_cases hb : s.1 < N
        · have m := mono _ hb
          cases ha : hAt W T xs s.1
          · rw [get _ hb, if_neg (by intro e; rw [e, hak] at ha; cases ha), if_neg (by intro e; rw [e, hakt] at ha; cases ha)]; exact d
          · have l := low _ hb ha; omega
        · rw [← d]
          have hl := h.inv.len
          simp [List.getD, List.getElem?_eq_none (show ((C.set kt y1).set k x1).length ≤ s.1 by simp; omega), List.getElem?_eq_none (show C.length ≤ s.1 by omega)]
    · simp only
      rw [ht, Int.toNat_natCast]
      refine ⟨fun e1 e2 => ?_, fun e1 e2 => ?_⟩
      · rw [get kt hkt, if_neg (fun e => hne e.symm), if_pos rfl]; omega
      · rw [get k hk, if_pos rfl]; omega
theorem GPass.all {W T : Int} {xs : List Bool} {N fk : Nat} {lo hi : Nat × Bool → Int} {G C0 C : List Int} (hW : 1 ≤ W) (hN : (W + 1) * (T + 1) = (N : Int)) (hg : GT W T xs N fk lo hi G) (h0 : GInv W T xs N fk G C0) (h : GPass W T xs N fk lo hi G C0 (sidesK W T xs N) C) : allE W T xs N G C0 ∨ exN W T xs N G C0 < exN W T xs N G C := by
  by_cases hall : allE W T xs N G C0
  · exact Or.inl hall
  right
  have sub : ∀ k ∈ List.range N, (hAt W T xs k && (C0.getD k 0 == G.getD k 0)) = true → (hAt W T xs k && (C.getD k 0 == G.getD k 0)) = true := by
    intro k hk e
    have hkN := List.mem_range.1 hk
    simp only [Bool.and_eq_true, beq_iff_eq] at e ⊢
    refine ⟨e.1, ?_⟩
    have a := h.le k hkN
    have b := (h.inv.on k hkN e.1).1
    omega
  have : ∃ k, k < N ∧ hAt W T xs k = true ∧ C.getD k 0 = G.getD k 0 ∧ C0.getD k 0 ≠ G.getD k 0 := by
    apply Classical.byContradiction; intro hx
    have hno : ∀ k, k < N → hAt W T xs k = true → C.getD k 0 = G.getD k 0 → C0.getD k 0 = G.getD k 0 := fun k h1 h2 h3 => Classical.byContradiction fun h4 => hx ⟨k, h1, h2, h3, h4⟩
    refine hall (hg.tight (fun k => C0.getD k 0 = G.getD k 0) (by rw [h0.first, hg.first]) fun k nth hk hu => ?_)
    obtain ⟨t0, t1, t2⟩ := sTo_lt hW hu
    have hkt : (sTo W k nth).toNat < N := by omega
    have hak : hAt W T xs k = true := (hAt_iff hW).2 (Or.inl ⟨nth, hu⟩)
    have hakt : hAt W T xs (sTo W k nth).toNat = true := (hAt_iff hW).2 (Or.inr ⟨k, nth, hu, by omega⟩)
    obtain ⟨d1, d2⟩ := h.done (k, nth) (sidesK_mem.2 ⟨hk, hu⟩)
    exact ⟨fun e1 e2 => hno _ hkt hakt (d1 e1 e2), fun e1 e2 => hno _ hk hak (d2 e1 e2)⟩
  obtain ⟨k, hk, ha, e1, e2⟩ := this
  exact countP_lt (List.range N) _ _ sub k (List.mem_range.2 hk) (by rw [ha]; simpa using e2) (by rw [ha]; simpa using e1)
theorem allE_le {W T : Int} {xs : List Bool} {N fk : Nat} {lo hi : Nat × Bool → Int} {G C0 C : List Int} {P : List (Nat × Bool)} (h : GPass W T xs N fk lo hi G C0 P C) (h0 : allE W T xs N G C0) : allE W T xs N G C := by
  intro k hk ha
  have a := h.le k hk
  have b := (h.inv.on k hk ha).1
  have c := h0 k hk ha
  omega
theorem allE_eq {W T : Int} {xs : List Bool} {N fk : Nat} {lo hi : Nat × Bool → Int} {G C : List Int} (hg : GT W T xs N fk lo hi G) (h : GInv W T xs N fk G C) (h0 : allE W T xs N G C) : C = G := by
  refine ext_getD (by rw [h.len, hg.len]) fun k hk => ?_
  rw [h.len] at hk
  cases ha : hAt W T xs k
  · rw [h.off k hk ha, hg.off k hk ha]
  · exact h0 k hk ha
theorem exN_le (W T : Int) (xs : List Bool) (N : Nat) (G C : List Int) : exN W T xs N G C ≤ N := by
  have := List.countP_le_length (p := fun k => hAt W T xs k && (C.getD k 0 == G.getD k 0)) (l := List.range N)
  rwa [List.length_range] at this
theorem GInv.start {W T : Int} {xs : List Bool} {N fk : Nat} {lo hi : Nat × Bool → Int} {G : List Int} (hW : 1 ≤ W) (hg : GT W T xs N fk lo hi G) : GInv W T xs N fk G ((List.replicate N (99 : Int)).set fk 0) ∧ 1 ≤ exN W T xs N G ((List.replicate N (99 : Int)).set fk 0) := by
  obtain ⟨hfN, hfa⟩ := first_hAt hW hg.fst
  have get : ∀ j, j < N → ((List.replicate N (99 : Int)).set fk 0).getD j 0 = if j = fk then 0 else 99 := by
    intro j hj
    rw [getD_set1]
    by_cases e : j = fk
    · subst e; rw [if_pos ⟨rfl, by simpa using hfN⟩, if_pos rfl]
    · rw [if_neg (fun h => e h.1), if_neg e]; simp [hj]
  refine ⟨⟨by simp, ?_, ?_, ?_⟩, ?_⟩
  · intro k hk ha
    rw [get k hk, if_neg (by rintro rfl; rw [hfa] at ha; cases ha)]
  · intro k hk ha
    rw [get k hk]
    by_cases e : k = fk
    · subst e; rw [if_pos rfl, hg.first]; omega
    · rw [if_neg e]; have := hg.bd k hk ha; omega
  · rw [get fk hfN, if_pos rfl]
  · have : 0 < exN W T xs N G ((List.replicate N (99 : Int)).set fk 0) := by
      unfold exN
      rw [List.countP_pos_iff]
      exact ⟨fk, List.mem_range.2 hfN, by rw [hfa, get fk hfN, if_pos rfl, hg.first]; rfl⟩
    omega
/-- The heights of a tiling are told by any of their sides. -/
theorem gt_hts {W T : Int} {xs : List Bool} {L H : List Int} {N fk : Nat} (hs : simpleB W T xs = true) (hN : (W + 1) * (T + 1) = (N : Int)) (hf : frstK W T xs N = fk) (hH : HtsOf W T xs L H N) : GT W T xs N fk (fun s => rT W T xs L s.1 s.2) (fun s => rT W T xs L s.1 s.2) H := by
  obtain ⟨v1, v2, v3, v4, v5, v6⟩ := rv_true (simpleB_rv hs)
  have hr : ∀ s : Nat × Bool, -3 ≤ rT W T xs L s.1 s.2 ∧ rT W T xs L s.1 s.2 ≤ 3 := by
    intro s; unfold rT sRise; split <;> split <;> decide
  refine ⟨hf, hH.len, hH.off, fun k hk ha => by have := hH.bd k hk ha; omega, hH.first fk hf, fun k nth hk hu => by have := hH.side k nth hk hu; simp only; omega, fun s => ⟨(hr s).1, (hr s).2, (hr s).1, (hr s).2⟩, fun E h0 hst k hk ha => ?_⟩
  refine corners_all hs hf E h0 (fun j nth hu => ?_) k ha
  obtain ⟨t0, t1, t2⟩ := sTo_lt v1 hu
  have hj : j < N := by omega
  have sd := hH.side j nth hj hu
  obtain ⟨a, b⟩ := hst j nth hj hu
  simp only at a b
  exact ⟨fun e => a e (by omega), fun e => b e (by omega)⟩
end Go.Proofs.Ytknigcjpgkolgaa
