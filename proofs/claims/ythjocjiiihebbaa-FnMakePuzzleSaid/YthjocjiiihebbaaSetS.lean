/- Contracts of impl.copyField and impl.sameField. Merged of: Copy, Set, SetS. -/
import Derived.Test.YthjocjiiihebbaaTurn
import Derived.Laws.CopyOwn
import Derived.Deep.AppendLies
import Derived.Test.YthjocjiiihebbaaTill
namespace Go.Proofs.Ythjocjiiihebbaa
open Go.RowKit
set_option linter.unusedVariables false
set_option maxRecDepth 100000
set_option linter.unusedSimpArgs false

def cellsOf (N : Nat) (f : Nat → Bool) : Array Value := ((tab N f).map Value.bool).toArray
theorem RowB.block {w : World} {B g N : Nat} {f : Nat → Bool} (h : RowB w B g N N f) : w.heap[g]? = some (.cells (cellsOf N f) 4 (0, 0)) := by
  rcases h.2 with ⟨h', _⟩ | ⟨g', cap', cur, h', _, hg, _, _, hs, ht⟩
  · simp at h'
  · simp only [Value.slice.injEq, Option.some.injEq, Addr.mk.injEq, and_true, true_and] at h'
    obtain ⟨rfl, rfl⟩ := h'
    rw [hg]
    have e : cur = cellsOf N f := by
      apply Array.toList_inj.1
      rw [List.take_of_length_le (by simp [hs])] at ht
      rw [ht]; simp [cellsOf]
    rw [e]
theorem RowB.mk' {w : World} {B g N : Nat} {f : Nat → Bool} (hB : B ≤ g) (hN : N ≤ maxLen) (h : w.heap[g]? = some (.cells (cellsOf N f) 4 (0, 0))) : RowB w B g N N f :=
  ⟨by simp [tab_len], Or.inr ⟨g, N, _, rfl, hB, h, Nat.le_refl _, hN, by simp [cellsOf, tab_len], by simp [cellsOf, List.take_of_length_le, tab_len]⟩⟩

theorem sizeBool : (Try.prog.info? 4).map (·.size) = some 1 := by kernel_rfl

theorem bools_one (xs : List Bool) : ∀ v ∈ xs.map Value.bool, v.oneCell' = true := by
  intro v hv
  simp only [List.mem_map] at hv
  obtain ⟨b, _, rfl⟩ := hv
  rfl

theorem src_cells {w : World} {b off : Nat} {xs : List Bool} (h : ∀ i, i < xs.length → w.cell? ⟨b, off + i, none⟩ = some (.bool (xs.getD i false))) :
    ∀ j v, (xs.map Value.bool)[j]? = some v → w.cell? ((⟨b, off, none⟩ : Addr).add j) = some v := by
  intro j v hv
  have hj : j < xs.length := by
    rcases Nat.lt_or_ge j xs.length with h' | h'
    · exact h'
    · rw [List.getElem?_eq_none (by simpa using h')] at hv; cases hv
  have e : (⟨b, off, none⟩ : Addr).add j = ⟨b, off + j, none⟩ := by unfold Addr.add; split <;> simp_all
  rw [e, h j hj]
  simp [hj] at hv
  simp [hj, hv]

theorem BoolsAt.addr {w : World} {a : Option Addr} {xs : List Bool} (h : BoolsAt w a xs) (hp : 0 < xs.length) : ∃ b off, a = some ⟨b, off, none⟩ ∧ ∀ i, i < xs.length → w.cell? ⟨b, off + i, none⟩ = some (.bool (xs.getD i false)) := by
  obtain ⟨b, off, rfl, _⟩ := h 0 hp
  refine ⟨b, off, rfl, fun i hi => ?_⟩
  obtain ⟨b', off', he, hc⟩ := h i hi
  simp only [Option.some.injEq, Addr.mk.injEq, and_true] at he
  obtain ⟨rfl, rfl⟩ := he
  exact hc

/-- What a copy of n truths into a row of n leaves: a world of which these facts are known. -/
structure Copied (g n : Nat) (xs : List Bool) (w w' : World) : Prop where
  at_g : w'.heap[g]? = some (.cells (cellsOf n (fun i => xs.getD i false)) 4 (0, 0))
  other : ∀ k o, k ≠ g → w.heap[k]? = some o → w'.heap[k]? = some o
  below : ∀ B w0, B ≤ g → Below B w0 w → Below B w0 w'

theorem wpList_copy_bools {P : Program} {w : World} {ops : Array Oper} {rest : List Oper} {o : Oper} {a : Act} {Q : Exit → Act → World → Prop} (hgd : o.guard = none) (d s : Operand) (dT sT : TypeId)
    (ho : o.op = .call { callee := .builtin .copy, args := #[d, s], argTypes := #[dT, sT] }) (elem : TypeId) (hu : P.underlying dT = some (.slice elem)) (hsz : (P.info? elem).map (·.size) = some 1)
    (g n cap : Nat) (ad : Addr) (xs : List Bool) (hn : n = xs.length) (hd : a.eval d = .slice (some ⟨g, 0, none⟩) n n) (hs : a.eval s = .slice (some ad) n cap) (f : Nat → Bool)
    (hg : w.heap[g]? = some (.cells (cellsOf n f) 4 (0, 0))) (hsrc : ∀ j v, (xs.map Value.bool)[j]? = some v → w.cell? (ad.add j) = some v)
    (h : ∀ w', Copied g n xs w w' → wpList P ops Q rest (a.put o.dst (goInt (xs.map Value.bool).length)) w') : wpList P ops Q (o :: rest) a w := by
  refine wpList_copy_own hgd d s dT sT ho elem hu hsz g 0 n n ad n cap hd hs (cellsOf n f) 4 hg (xs.map Value.bool) (by rw [List.length_map, ← hn]; simp) hsrc (by rw [List.length_map, ← hn]; simp [cellsOf, tab_len]) (bools_one xs) (h _ ?_)
  have ea : ((cellsOf n f).toList.take 0 ++ ((xs.map Value.bool) ++ (cellsOf n f).toList.drop (0 + (xs.map Value.bool).length))).toArray = cellsOf n (fun i => xs.getD i false) := by
    have e1 : (cellsOf n f).toList.drop (0 + (xs.map Value.bool).length) = [] := by
      apply List.drop_eq_nil_of_le; simp [cellsOf, tab_len, ← hn]
    rw [e1]
    unfold cellsOf
    rw [hn, tab_of]; simp
  rw [ea]
  exact ⟨setRow_heap w g _ (cellsOf n (fun i => xs.getD i false)) _ (0, 0) hg, fun k o hk ho => by rw [setRow_other _ g k _ hk]; exact ho, fun B w0 hB hb => below_setRow hb hB _⟩

end Go.Proofs.Ythjocjiiihebbaa

namespace Go.Proofs.Ythjocjiiihebbaa
open Go.RowKit
set_option linter.unusedVariables false
set_option maxRecDepth 100000
set_option linter.unusedSimpArgs false

def setB (xs : List Bool) (c : Nat) (has : Bool) : List Bool := tab xs.length fun i => if i = c then has else xs.getD i false
def setIn (W T : Int) (xs : List Bool) (cell : Int) : Bool := rv W T xs && decide (0 ≤ cell ∧ cell < xs.length)

end Go.Proofs.Ythjocjiiihebbaa

namespace Go.Proofs.Ythjocjiiihebbaa
open Go.RowKit
set_option linter.unusedVariables false
set_option maxRecDepth 100000
set_option linter.unusedSimpArgs false

theorem OwnsB.setNe {w : World} {B g n cap : Nat} {xs : List Bool} (h : OwnsB w B (.slice (some ⟨g, 0, none⟩) n cap) xs) {p : Addr} (hp : p.block ≠ g) (x : Value) : OwnsB (w.setCell p x) B (.slice (some ⟨g, 0, none⟩) n cap) xs := by
  rcases h.2 with ⟨h1, _⟩ | ⟨g', cap', cur, h1, hB, hc, r⟩
  · simp at h1
  · have hg : g = g' := by injection h1 with e; injection e with e; injection e
    exact ⟨h.1, Or.inr ⟨g', cap', cur, h1, hB, heap_set_other hc (fun e => hp (by rw [← e, hg])) _, r⟩⟩
theorem OwnsB.set3Ne {w : World} {B g n cap : Nat} {xs : List Bool} (h : OwnsB w B (.slice (some ⟨g, 0, none⟩) n cap) xs) {b : Nat} (hb : b ≠ g) (x y z : Value) : OwnsB (((w.setCell ⟨b, 0, none⟩ x).setCell ⟨b, 1, none⟩ y).setCell ⟨b, 2, none⟩ z) B (.slice (some ⟨g, 0, none⟩) n cap) xs :=
  ((h.setNe (p := ⟨b, 0, none⟩) hb x).setNe (p := ⟨b, 1, none⟩) hb y).setNe (p := ⟨b, 2, none⟩) hb z

theorem ne_own {x y : Nat} (h : x ≠ y) : (some x : Option Nat) ≠ some y := fun e => h (Option.some.inj e)

theorem emptyRow (w : World) {B : Nat} (hB : B ≤ w.heap.size) : (w.alloc (.cells #[] 4)).ownsRow B 4 1 (.slice (some ⟨w.heap.size, 0, none⟩) 0 0) 0 [] :=
  World.ownsRow_made w #[] 0 hB (Nat.zero_le _) rfl

theorem emptyRowAt (w : World) {B k : Nat} (hk : w.heap.size = k) (hB : B ≤ w.heap.size) : (w.alloc (.cells #[] 4)).ownsRow B 4 1 (.slice (some ⟨k, 0, none⟩) 0 0) 0 [] := by subst hk; exact emptyRow w hB

end Go.Proofs.Ythjocjiiihebbaa
