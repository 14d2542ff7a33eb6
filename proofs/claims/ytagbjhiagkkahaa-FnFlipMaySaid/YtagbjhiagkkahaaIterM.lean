/- All tilings with the dominoes of a list: what the iterator over them yields, and what lies in the heap for it. -/
import Derived.Test.YtagbjhiagkkahaaComp
import Derived.Test.YtagbjhiagkkahaaLayOne
import Derived.Test.YtagbjhiagkkahaaCloneI
import Derived.Lib.Hide
namespace Go.Proofs.Ytagbjhiagkkahaa
open Go.RowKit
set_option linter.unusedVariables false
set_option maxRecDepth 100000
set_option linter.unusedSimpArgs false

/-- All tilings with the dominoes of a list, in order; f is more than there are free cells. -/
def allL (W T : Int) (xs : List Bool) : Nat → List Int → List (List Int)
  | 0, _ => []
  | f + 1, L =>
    if firstI xs L 0 xs.length < 0 then [L]
    else (if canLay W T xs L (firstI xs L 0 xs.length) 1 = true then allL W T xs f (laidL W T xs L (firstI xs L 0 xs.length) 1) else []) ++
      (if canLay W T xs L (firstI xs L 0 xs.length) 2 = true then allL W T xs f (laidL W T xs L (firstI xs L 0 xs.length) 2) else [])
theorem allL_done {W T : Int} {xs : List Bool} {f : Nat} {L : List Int} {c : Int} (h : firstI xs L 0 xs.length = c) (h0 : c < 0) : allL W T xs (f + 1) L = [L] := by
  subst h
  have e : allL W T xs (f + 1) L = if firstI xs L 0 xs.length < 0 then [L]
    else (if canLay W T xs L (firstI xs L 0 xs.length) 1 = true then allL W T xs f (laidL W T xs L (firstI xs L 0 xs.length) 1) else []) ++
      (if canLay W T xs L (firstI xs L 0 xs.length) 2 = true then allL W T xs f (laidL W T xs L (firstI xs L 0 xs.length) 2) else []) := rfl
  rw [e, if_pos h0]
theorem allL_succ {W T : Int} {xs : List Bool} {f : Nat} {L : List Int} {c : Int} (h : firstI xs L 0 xs.length = c) (h0 : ¬ c < 0) : allL W T xs (f + 1) L =
    (if canLay W T xs L c 1 = true then allL W T xs f (laidL W T xs L c 1) else []) ++ (if canLay W T xs L c 2 = true then allL W T xs f (laidL W T xs L c 2) else []) := by
  subst h
  have e : allL W T xs (f + 1) L = if firstI xs L 0 xs.length < 0 then [L]
    else (if canLay W T xs L (firstI xs L 0 xs.length) 1 = true then allL W T xs f (laidL W T xs L (firstI xs L 0 xs.length) 1) else []) ++
      (if canLay W T xs L (firstI xs L 0 xs.length) 2 = true then allL W T xs f (laidL W T xs L (firstI xs L 0 xs.length) 2) else []) := rfl
  rw [e, if_neg h0]
theorem layF_of {W T : Int} {xs : List Bool} {L : List Int} {k way : Int} (hl : lok W T xs L = true) : layF W T xs L k way = (laidL W T xs L k way, canLay W T xs L k way) := by
  unfold layF; rw [if_pos hl]
theorem free_drop' {W T : Int} {xs : List Bool} {L : List Int} {k way : Int} (hw : way = 1 ∨ way = 2) (hl : lok W T xs L = true) (hc : canLay W T xs L k way = true) : freeN xs (laidL W T xs L k way) < freeN xs L := by
  have := free_drop (W := W) (T := T) (xs := xs) (L := L) (k := k) hw (by rw [layF_of hl]; exact hc)
  rwa [layF_of hl] at this
theorem NoFree.laid {W T : Int} {xs : List Bool} {L : List Int} {c : Nat} {way : Int} (hl : lok W T xs L = true) (hw : way = 1 ∨ way = 2) (h : NoFree xs L 0 c) (hc : canLay W T xs L c way = true) : NoFree xs (laidL W T xs L c way) 0 (c + 1) := by
  obtain ⟨hr, hlen, _⟩ := lok_rv hl
  obtain ⟨v1, v2, v3, v4, v5, _⟩ := rv_true hr
  have hc0 := hc
  unfold canLay at hc
  simp only [Bool.and_eq_true, decide_eq_true_eq] at hc
  obtain ⟨⟨h0, h1⟩, h2⟩ := hc
  obtain ⟨k0, k1, o1, ok, hway⟩ := cellB_bd (W := W) (T := T) (n := xs.length) v1 v5 h0
  obtain ⟨on, ho⟩ := Int.eq_ofNat_of_zero_le h0
  rw [ho] at h2 o1 ok
  simp only [Int.toNat_natCast] at h1 h2
  have hb : backI way ≠ 0 := by unfold backI; omega
  have hw0 : way ≠ 0 := by omega
  intro j _ hj
  unfold laidL
  rw [if_pos hc0, ho]
  simp only [Int.toNat_natCast]
  unfold freeB
  rw [getD_set1, getD_set1]
  by_cases e1 : j = on ∧ on < (L.set c way).length
  · rw [if_pos e1]; simp [hb]
  · rw [if_neg e1]
    by_cases e2 : j = c ∧ c < L.length
    · rw [if_pos e2]; simp [hw0]
    · rw [if_neg e2]
      have hjc : j < c := by
        rcases Nat.lt_or_ge j c with h' | h'
        · exact h'
        · exact absurd ⟨by omega, by omega⟩ e2
      exact h j (Nat.zero_le _) hjc

/-- The blocks of S lie as they lay. -/
structure ItKeeps (S : Nat → Prop) (A B : World) : Prop where
  size : A.heap.size ≤ B.heap.size
  same : ∀ k, S k → k < A.heap.size → B.heap[k]? = A.heap[k]?
theorem ItKeeps.refl (S : Nat → Prop) (A : World) : ItKeeps S A A := ⟨Nat.le_refl _, fun _ _ _ => rfl⟩
theorem ItKeeps.trans {S : Nat → Prop} {A B C : World} (h : ItKeeps S A B) (k : ItKeeps S B C) : ItKeeps S A C :=
  ⟨Nat.le_trans h.size k.size, fun i hi hl => (k.same i hi (Nat.lt_of_lt_of_le hl h.size)).trans (h.same i hi hl)⟩
theorem ItKeeps.of_below {S : Nat → Prop} {A B : World} (h : Below A.heap.size A B) : ItKeeps S A B := ⟨h.size, fun k _ hk => h.block k hk⟩
theorem ItKeeps.heap {S : Nat → Prop} {A B : World} (h : ItKeeps S A B) {b : Nat} {o : Obj} (hb : S b) (hh : A.heap[b]? = some o) : B.heap[b]? = some o := (h.same b hb (heap_lt hh)).trans hh
theorem ItKeeps.bools {S : Nat → Prop} {A B : World} (h : ItKeeps S A B) {a : Option Addr} {xs : List Bool} (hS : ∀ b off, a = some ⟨b, off, none⟩ → S b) (hx : BoolsAt A a xs) : BoolsAt B a xs := by
  intro i hi
  obtain ⟨b, off, rfl, hc⟩ := hx i hi
  refine ⟨b, off, rfl, ?_⟩
  have hlt := World.block_lt_of_cell? A _ hc
  exact (World.cell?_of_block (w := A) (w' := B) (a := ⟨b, off + i, none⟩) (h.same b (hS b off rfl) hlt)).trans hc
theorem ItKeeps.ints {S : Nat → Prop} {A B : World} (h : ItKeeps S A B) {g n cap b : Nat} {L : List Int} (hS : S g) (ho : OwnsI A b (.slice (some ⟨g, 0, none⟩) n cap) L) : OwnsI B b (.slice (some ⟨g, 0, none⟩) n cap) L := by
  refine ⟨ho.1, ?_⟩
  rcases ho.2 with hn | ⟨g', cap', cur, hv, hb, hh, r⟩
  · exact .inl hn
  · have e : g' = g := by simp only [Value.slice.injEq, Option.some.injEq, Addr.mk.injEq] at hv; exact hv.1.1.symm
    exact .inr ⟨g', cap', cur, hv, hb, by rw [h.same g' (by rw [e]; exact hS) (heap_lt hh)]; exact hh, r⟩

/-- The blocks that lie for the iterator are among those of S. -/
structure ItS (S : Nat → Prop) (rb wx yb fb wb : Nat) (a : Option Addr) : Prop where
  reg : S rb
  bools : ∀ b off, a = some ⟨b, off, none⟩ → S b
  work : S wx
  yld : S yb
  fn : S fb
  list : S wb
theorem heap_otherT {w w' : World} {b g : Nat} {cs ds : Array Value} {t u : TypeId} {fr : Nat × Nat} (h : w.heap[b]? = some (.cells cs t (0, 0))) (h2 : w.heap[g]? = some (.cells ds u fr)) (hne : t ≠ u) (hg : w.grownBy w' (some g)) : w'.heap[b]? = some (.cells cs t (0, 0)) := by
  refine (hg.block b (heap_lt h) ?_).trans h
  intro e; cases e
  rw [h] at h2; cases h2; exact hne rfl
theorem OwnsI.block {w : World} {B g n cap : Nat} {L : List Int} (h : OwnsI w B (.slice (some ⟨g, 0, none⟩) n cap) L) : ∃ cs, w.heap[g]? = some (.cells cs 3 (0, 0)) := by
  rcases h.2 with ⟨hn, _⟩ | ⟨g', cap', cur, hv, hb, hh, r⟩
  · cases hn
  · have e : g = g' := by simp only [Value.slice.injEq, Option.some.injEq, Addr.mk.injEq] at hv; exact hv.1.1
    exact ⟨cur, by rw [e]; exact hh⟩
theorem cell1 {w : World} {b : Nat} {v : Value} {t : TypeId} (h : w.heap[b]? = some (.cells #[v] t (0, 0))) : w.cell? ⟨b, 0, none⟩ = some v := by simp [World.cell?, h]

end Go.Proofs.Ytagbjhiagkkahaa
