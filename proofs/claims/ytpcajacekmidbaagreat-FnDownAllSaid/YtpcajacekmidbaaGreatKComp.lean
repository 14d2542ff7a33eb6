/- Contract of spec.l2Complete: a list is completed, the east first. -/
import Derived.Test.YtpcajacekmidbaaGreatKLayOne
import Derived.Laws.CopyOwn
namespace Go.Proofs.YtpcajacekmidbaaGreat
open Go.RowKit
set_option linter.unusedVariables false
set_option maxRecDepth 100000
set_option linter.unusedSimpArgs false

def cellsOf (N : Nat) (f : Nat → Bool) : Array Value := ((tab N f).map Value.bool).toArray
theorem RowB.block {w : World} {B g N : Nat} {f : Nat → Bool} (h : RowB w B g N N f) : w.heap[g]? = some (.cells (cellsOf N f) 4 (0, 0)) := by
 rcases h.2 with ⟨h', _⟩ | ⟨g', cap', cur, h', _, hg, _, _, hs, ht⟩
 · simp at h'
 · simp only [Value.slice.injEq, Option.some.injEq, Addr.mk.injEq, and_true, true_and] at h'
   obtain ⟨rfl, rfl⟩ := h'
   rw [hg]
   have e : cur = cellsOf N f := by
    apply Array.toList_inj.1
    rw [List.take_of_length_le (by simp [hs])] at ht
    rw [ht]; simp [cellsOf]
   rw [e]
theorem bools_one (xs : List Bool) : ∀ v ∈ xs.map Value.bool, v.oneCell' = true := by
 intro v hv
 simp only [List.mem_map] at hv
 obtain ⟨b, _, rfl⟩ := hv
 rfl

theorem src_cells {w : World} {b off : Nat} {xs : List Bool} (h : ∀ i, i < xs.length → w.cell? ⟨b, off + i, none⟩ = some (.bool (xs.getD i false))) :
 ∀ j v, (xs.map Value.bool)[j]? = some v → w.cell? ((⟨b, off, none⟩ : Addr).add j) = some v := by
 intro j v hv
 have hj : j < xs.length := by
  rcases Nat.lt_or_ge j xs.length with h' | h'
  · exact h'
  · rw [List.getElem?_eq_none (by simpa using h')] at hv; cases hv
 have e : (⟨b, off, none⟩ : Addr).add j = ⟨b, off + j, none⟩ := by unfold Addr.add; split <;> simp_all
 rw [e, h j hj]
 simp [hj] at hv
 simp [hj, hv]

theorem BoolsAt.addr {w : World} {a : Option Addr} {xs : List Bool} (h : BoolsAt w a xs) (hp : 0 < xs.length) : ∃ b off, a = some ⟨b, off, none⟩ ∧ ∀ i, i < xs.length → w.cell? ⟨b, off + i, none⟩ = some (.bool (xs.getD i false)) := by
 obtain ⟨b, off, rfl, _⟩ := h 0 hp
 refine ⟨b, off, rfl, fun i hi => ?_⟩
 obtain ⟨b', off', he, hc⟩ := h i hi
 simp only [Option.some.injEq, Addr.mk.injEq, and_true] at he
 obtain ⟨rfl, rfl⟩ := he
 exact hc

end Go.Proofs.YtpcajacekmidbaaGreat

namespace Go.Proofs.YtpcajacekmidbaaGreat
open Go.RowKit
set_option linter.unusedVariables false
set_option maxRecDepth 100000
set_option linter.unusedSimpArgs false

end Go.Proofs.YtpcajacekmidbaaGreat

namespace Go.Proofs.YtpcajacekmidbaaGreat
open Go.RowKit
set_option linter.unusedVariables false
set_option maxRecDepth 100000
set_option linter.unusedSimpArgs false

theorem OwnsB.setNe {w : World} {B g n cap : Nat} {xs : List Bool} (h : OwnsB w B (.slice (some ⟨g, 0, none⟩) n cap) xs) {p : Addr} (hp : p.block ≠ g) (x : Value) : OwnsB (w.setCell p x) B (.slice (some ⟨g, 0, none⟩) n cap) xs := by
 rcases h.2 with ⟨h1, _⟩ | ⟨g', cap', cur, h1, hB, hc, r⟩
 · simp at h1
 · have hg : g = g' := by injection h1 with e; injection e with e; injection e
   exact ⟨h.1, Or.inr ⟨g', cap', cur, h1, hB, heap_set_other hc (fun e => hp (by rw [← e, hg])) _, r⟩⟩
theorem OwnsB.set3Ne {w : World} {B g n cap : Nat} {xs : List Bool} (h : OwnsB w B (.slice (some ⟨g, 0, none⟩) n cap) xs) {b : Nat} (hb : b ≠ g) (x y z : Value) : OwnsB (((w.setCell ⟨b, 0, none⟩ x).setCell ⟨b, 1, none⟩ y).setCell ⟨b, 2, none⟩ z) B (.slice (some ⟨g, 0, none⟩) n cap) xs :=
 ((h.setNe (p := ⟨b, 0, none⟩) hb x).setNe (p := ⟨b, 1, none⟩) hb y).setNe (p := ⟨b, 2, none⟩) hb z

theorem ne_own {x y : Nat} (h : x ≠ y) : (some x : Option Nat) ≠ some y := fun e => h (Option.some.inj e)

theorem emptyRow (w : World) {B : Nat} (hB : B ≤ w.heap.size) : (w.alloc (.cells #[] 4)).ownsRow B 4 1 (.slice (some ⟨w.heap.size, 0, none⟩) 0 0) 0 [] :=
 World.ownsRow_made w #[] 0 hB (Nat.zero_le _) rfl

theorem emptyRowAt (w : World) {B k : Nat} (hk : w.heap.size = k) (hB : B ≤ w.heap.size) : (w.alloc (.cells #[] 4)).ownsRow B 4 1 (.slice (some ⟨k, 0, none⟩) 0 0) 0 [] := by subst hk; exact emptyRow w hB

end Go.Proofs.YtpcajacekmidbaaGreat

namespace Go.Proofs.YtpcajacekmidbaaGreat
open Go.RowKit
set_option linter.unusedVariables false
set_option maxRecDepth 100000
set_option linter.unusedSimpArgs false

def freeN (xs : List Bool) (L : List Int) : Nat := (List.range xs.length).countP (freeB xs L)
theorem freeN_le (xs : List Bool) (L : List Int) : freeN xs L ≤ xs.length := by
 have := List.countP_le_length (p := freeB xs L) (l := List.range xs.length)
 rwa [List.length_range] at this
theorem layF_yes {W T : Int} {xs : List Bool} {L : List Int} {k way : Int} (h : (layF W T xs L k way).2 = true) : lok W T xs L = true ∧ canLay W T xs L k way = true ∧ (layF W T xs L k way).1 = laidL W T xs L k way := by
 unfold layF at h ⊢
 by_cases hl : lok W T xs L = true
 · rw [if_pos hl] at h ⊢; exact ⟨hl, h, rfl⟩
 · rw [if_neg hl] at h; cases h
theorem free_drop {W T : Int} {xs : List Bool} {L : List Int} {k way : Int} (hw : way = 1 ∨ way = 2) (h : (layF W T xs L k way).2 = true) : freeN xs (layF W T xs L k way).1 < freeN xs L := by
 obtain ⟨hl, hc, e⟩ := layF_yes h
 rw [e]
 obtain ⟨hr, hlen, _⟩ := lok_rv hl
 obtain ⟨v1, v2, v3, v4, v5, _⟩ := rv_true hr
 have hc0 := hc
 unfold canLay at hc
 simp only [Bool.and_eq_true, decide_eq_true_eq] at hc
 obtain ⟨⟨h0, h1⟩, h2⟩ := hc
 obtain ⟨k0, k1, o1, ok, hway⟩ := cellB_bd (W := W) (T := T) (n := xs.length) v1 v5 h0
 obtain ⟨kn, rfl⟩ := Int.eq_ofNat_of_zero_le k0
 obtain ⟨on, ho⟩ := Int.eq_ofNat_of_zero_le h0
 rw [ho] at h2 o1 ok
 simp only [Int.toNat_natCast] at h1 h2
 unfold laidL
 rw [if_pos hc0, ho]
 simp only [Int.toNat_natCast]
 have hb : backI way ≠ 0 := by unfold backI; omega
 have hw0 : way ≠ 0 := by omega
 unfold freeN
 refine countP_lt _ _ _ (fun j _ hj => ?_) kn (List.mem_range.2 (by omega)) ?_ h1
 · unfold freeB at hj ⊢
   rw [getD_set1, getD_set1] at hj
   simp only [Bool.and_eq_true, beq_iff_eq] at hj ⊢
   refine ⟨hj.1, ?_⟩
   have h3 := hj.2
   split at h3
   · exact absurd h3 hb
   · split at h3
     · exact absurd h3 hw0
     · exact h3
 · unfold freeB
   rw [getD_set1, getD_set1]
   have hne : ¬ kn = on := by intro e; apply ok; rw [e]
   rw [if_neg (fun q => hne q.1), if_pos ⟨rfl, by omega⟩]
   simp [hw0]
end Go.Proofs.YtpcajacekmidbaaGreat
