/- slices.Sort and slices.Compact at lists of integers that the call owns. No statement is proved here. -/
import Derived.Test.YthjocjiiihebbaaOnce
import Derived.Shelf.Sort.Plain
import Derived.Shelf.Slices.In.SortNone
import Derived.Shelf.Slices.CompactI
import Derived.Sort.OwnSortedInts
import Derived.Lib.OwnBridge
namespace Go.Proofs.Ythjocjiiihebbaa
open Go.RowKit
set_option linter.unusedVariables false
set_option maxRecDepth 100000
set_option linter.unusedSimpArgs false

def lays189_ren : Go.Shelf.Ren := ⟨fun | 189 => 60 | 125 => 83 | 257 => 82 | 128 => 101 | 129 => 102 | 294 => 92 | 295 => 93 | 296 => 94 | 297 => 95 | 298 => 96 | 299 => 97 | 216 => 98 | 300 => 99 | 301 => 100 | 328 => 116 | 329 => 117 | 330 => 118 | 331 => 119 | 332 => 120 | 215 => 121 | 343 => 125 | n => n, fun | 28 => 32 | 3 => 3 | 46 => 88 | 0 => 0 | 51 => 106 | 53 => 108 | 4 => 4 | 183 => 99 | 182 => 98 | 131 => 103 | 5 => 5 | 9 => 9 | 218 => 119 | 222 => 123 | 228 => 126 | 229 => 25 | n => n, fun | n => n⟩
theorem lays189 : Go.Proofs.Lays.n189 Try.prog lays189_ren where
  mixed := by kernel_rfl
  f125 := Try.func83.trans (congrArg some (by kernel_rfl))
  f128 := Try.func101.trans (congrArg some (by kernel_rfl))
  f129 := Try.func102.trans (congrArg some (by kernel_rfl))
  f189 := Try.func60.trans (congrArg some (by kernel_rfl))
  f215 := Try.func121.trans (congrArg some (by kernel_rfl))
  f216 := Try.func98.trans (congrArg some (by kernel_rfl))
  f257 := Try.func82.trans (congrArg some (by kernel_rfl))
  f294 := Try.func92.trans (congrArg some (by kernel_rfl))
  f295 := Try.func93.trans (congrArg some (by kernel_rfl))
  f296 := Try.func94.trans (congrArg some (by kernel_rfl))
  f297 := Try.func95.trans (congrArg some (by kernel_rfl))
  f298 := Try.func96.trans (congrArg some (by kernel_rfl))
  f299 := Try.func97.trans (congrArg some (by kernel_rfl))
  f300 := Try.func99.trans (congrArg some (by kernel_rfl))
  f301 := Try.func100.trans (congrArg some (by kernel_rfl))
  f328 := Try.func116.trans (congrArg some (by kernel_rfl))
  f329 := Try.func117.trans (congrArg some (by kernel_rfl))
  f330 := Try.func118.trans (congrArg some (by kernel_rfl))
  f331 := Try.func119.trans (congrArg some (by kernel_rfl))
  f332 := Try.func120.trans (congrArg some (by kernel_rfl))
  f343 := Try.func125.trans (congrArg some (by kernel_rfl))
  t0 := Try.underlying0
  a0 := Try.isAgg0
  z0 := Try.sizeOf0
  v0 := Try.zeroValue0
  t3 := Try.underlying3
  a3 := Try.isAgg3
  z3 := Try.sizeOf3
  v3 := Try.zeroValue3
  t4 := Try.underlying4
  a4 := Try.isAgg4
  z4 := Try.sizeOf4
  v4 := Try.zeroValue4
  t5 := Try.underlying5
  a5 := Try.isAgg5
  z5 := Try.sizeOf5
  v5 := Try.zeroValue5
  t9 := Try.underlying9
  a9 := Try.isAgg9
  z9 := Try.sizeOf9
  v9 := Try.zeroValue9
  t28 := Try.underlying32
  a28 := Try.isAgg32
  z28 := Try.sizeOf32
  v28 := Try.zeroValue32
  t46 := Try.underlying88
  a46 := Try.isAgg88
  z46 := Try.sizeOf88
  v46 := Try.zeroValue88
  t51 := Try.underlying106
  a51 := Try.isAgg106
  z51 := Try.sizeOf106
  v51 := Try.zeroValue106
  t53 := Try.underlying108
  a53 := Try.isAgg108
  z53 := Try.sizeOf108
  v53 := Try.zeroValue108
  t131 := Try.underlying103
  a131 := Try.isAgg103
  z131 := Try.sizeOf103
  v131 := Try.zeroValue103
  t182 := Try.underlying98
  a182 := Try.isAgg98
  z182 := Try.sizeOf98
  v182 := Try.zeroValue98
  t183 := Try.underlying99
  a183 := Try.isAgg99
  z183 := Try.sizeOf99
  v183 := Try.zeroValue99
  t218 := Try.underlying119
  a218 := Try.isAgg119
  z218 := Try.sizeOf119
  v218 := Try.zeroValue119
  t222 := Try.underlying123
  a222 := Try.isAgg123
  z222 := Try.sizeOf123
  v222 := Try.zeroValue123
  t228 := Try.underlying126
  a228 := Try.isAgg126
  z228 := Try.sizeOf126
  v228 := Try.zeroValue126
  t229 := Try.underlying25
  a229 := Try.isAgg25
  z229 := Try.sizeOf25
  v229 := Try.zeroValue25

def lays20_ren : Go.Shelf.Ren := ⟨fun | 20 => 61 | n => n, fun | 22 => 32 | 3 => 3 | 4 => 4 | 0 => 0 | n => n, fun | n => n⟩
theorem lays20 : Go.Proofs.Lays2.n20 Try.prog lays20_ren where
  mixed := by kernel_rfl
  f20 := Try.func61.trans (congrArg some (by kernel_rfl))
  t0 := Try.underlying0
  a0 := Try.isAgg0
  z0 := Try.sizeOf0
  v0 := Try.zeroValue0
  t3 := Try.underlying3
  a3 := Try.isAgg3
  z3 := Try.sizeOf3
  v3 := Try.zeroValue3
  t4 := Try.underlying4
  a4 := Try.isAgg4
  z4 := Try.sizeOf4
  v4 := Try.zeroValue4
  t22 := Try.underlying32
  a22 := Try.isAgg32
  z22 := Try.sizeOf32
  v22 := Try.zeroValue32
  i3 := by kernel_rfl

theorem OwnsI.holds {w : World} {B g cap : Nat} {L : List Int} (h : OwnsI w B (.slice (some ⟨g, 0, none⟩) L.length cap) L) : B ≤ g ∧ g < w.heap.size ∧ L.length ≤ cap ∧ Go.Sort.Holds (Value.int .i64) w g 0 L.toArray := by
  have h' : w.ownsRow B 3 1 (.slice (some ⟨g, 0, none⟩) L.length cap) L.length (L.map (Value.int .i64)) := h
  obtain ⟨g', cap', e, h1, h2, h3, _, _, h4⟩ := Go.Lib.holds_of_ownsRow h' (by simp)
  simp only [Value.slice.injEq, Option.some.injEq, Addr.mk.injEq] at e
  obtain ⟨⟨rfl, _⟩, _, rfl⟩ := e
  exact ⟨h1, h2, h3, h4⟩
theorem sort_own (g cap B : Nat) (L : List Int) (w : World) (hl : L.length ≤ 1048576) (h : OwnsI w B (.slice (some ⟨g, 0, none⟩) L.length cap) L) :
    Calls Try.prog 60 #[.slice (some ⟨g, 0, none⟩) L.length cap] w fun e w' => e = .returned (.tuple #[]) ∧ OwnsI w' B (.slice (some ⟨g, 0, none⟩) L.length cap) (L.mergeSort fun x y => decide (x ≤ y)) ∧ w.grownBy w' (some g) := by
  obtain ⟨h1, h2, h3, h4⟩ := OwnsI.holds h
  refine (Any.slices_Sort_int lays189 g 0 cap L w h4 h2 (by omega)).mono ?_
  rintro e w' ⟨rfl, n, os, rfl⟩
  have hlm : (L.mergeSort fun x y => decide (x ≤ y)).length = L.length := List.length_mergeSort L
  rcases h.2 with ⟨e, _⟩ | ⟨g', cap', cur, e, hb, hg, q1, q2, q3, q4⟩
  · cases e
  · simp only [Value.slice.injEq, Option.some.injEq, Addr.mk.injEq] at e
    obtain ⟨⟨rfl, _⟩, _, rfl⟩ := e
    exact ⟨rfl, OwnsI.ofRow (ownsRow_sortedI hlm hb hg q1 q2 q3) rfl hlm, grownBy_sortedI _⟩
theorem grown_putRow {w : World} {g q : Nat} {d : Array Int} : w.grownBy (Go.Sort.putRow (Value.int .i64) (Go.Sort.ahead w q) g 0 d) (some g) := by
  refine ⟨rfl, rfl, rfl, by simp [Go.Sort.putRow, Go.Sort.mapBlock, Go.Sort.ahead], fun k hk hne => ?_⟩
  have : g ≠ k := fun e => hne (by rw [e])
  simp [Go.Sort.putRow, Go.Sort.mapBlock, Go.Sort.ahead, Array.getElem?_modify, this]
theorem compact_own (g cap B : Nat) (L : List Int) (w : World) (hl : L.length ≤ 1048576) (h : OwnsI w B (.slice (some ⟨g, 0, none⟩) L.length cap) L) :
    Calls Try.prog 61 #[.slice (some ⟨g, 0, none⟩) L.length cap] w fun e w' => e = .returned (.slice (some ⟨g, 0, none⟩) (Go.Lib.compact L).length cap) ∧ w.grownBy w' (some g) := by
  obtain ⟨h1, h2, h3, h4⟩ := OwnsI.holds h
  refine (Any.slices_Compact_int lays20 g 0 cap L w h4 (by omega) h3).mono ?_
  rintro e w' ⟨rfl, q, rfl⟩
  exact ⟨rfl, grown_putRow⟩

theorem compact_len {L : List Int} : (Go.Lib.compact L).length = L.length ↔ ∀ j, j < L.length → Go.Lib.keeps L.toArray j = true := by
  unfold Go.Lib.compact Go.Lib.compactUpTo
  rw [List.length_map]
  constructor
  · intro h j hj
    have h2 : (List.range L.length).filter (Go.Lib.keeps L.toArray) = List.range L.length := by
      have hs := List.filter_sublist (p := Go.Lib.keeps L.toArray) (l := List.range L.length)
      exact hs.eq_of_length (by rw [h, List.length_range])
    have := List.mem_range.2 hj
    rw [← h2, List.mem_filter] at this
    exact this.2
  · intro h
    rw [List.filter_eq_self.2 (fun j hj => h j (List.mem_range.1 hj)), List.length_range]
theorem sorted_once {L : List Int} (hs : L.Pairwise (· ≤ ·)) : (∀ j, j < L.length → Go.Lib.keeps L.toArray j = true) ↔ L.Nodup := by
  have hg : ∀ (i : Nat) (hi : i < L.length), L.toArray[i]! = L[i] := fun i hi => by simp [hi]
  constructor
  · intro h
    unfold List.Nodup
    rw [List.pairwise_iff_getElem]
    intro i j hi hj hij
    have hk := h j hj
    unfold Go.Lib.keeps at hk
    rw [decide_eq_true_eq, hg j hj, hg (j - 1) (by omega)] at hk
    have h1 : L[i] ≤ L[j - 1] := by
      by_cases e : i = j - 1
      · subst e; exact Int.le_refl _
      · exact (List.pairwise_iff_getElem.1 hs) i (j - 1) hi (by omega) (by omega)
    have h2 : L[j - 1] ≤ L[j] := (List.pairwise_iff_getElem.1 hs) (j - 1) j (by omega) hj (by omega)
    rcases hk with hk | hk
    · omega
    · omega
  · intro h j hj
    unfold Go.Lib.keeps
    rw [decide_eq_true_eq]
    by_cases h0 : j = 0
    · exact Or.inl h0
    · right
      rw [hg j hj, hg (j - 1) (by omega)]
      have := (List.pairwise_iff_getElem.1 (show L.Pairwise (· ≠ ·) from h)) (j - 1) j (by omega) hj (by omega)
      exact fun e => this e.symm
/-- Sorted and without repetitions a list is as long exactly if no number comes twice. -/
theorem sort_compact (L : List Int) : ((Go.Lib.compact (L.mergeSort fun x y => decide (x ≤ y))).length == L.length) = onceB L := by
  have hp := List.mergeSort_perm L (fun x y => decide (x ≤ y))
  have hs : (L.mergeSort fun x y => decide (x ≤ y)).Pairwise (· ≤ ·) := by
    have := List.pairwise_mergeSort (le := fun x y : Int => decide (x ≤ y)) (by intro a b c h1 h2; simp at h1 h2 ⊢; omega) (by intro a b; simp; omega) L
    exact this.imp (fun h => by simpa using h)
  unfold onceB
  apply Bool.eq_iff_iff.2
  rw [beq_iff_eq, decide_eq_true_eq, ← hp.nodup_iff, ← sorted_once hs, ← compact_len, List.length_mergeSort]

end Go.Proofs.Ythjocjiiihebbaa
