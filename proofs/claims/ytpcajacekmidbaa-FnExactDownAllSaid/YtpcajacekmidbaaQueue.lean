/- A list of integers that is read from its front and appended to: a slice with an offset. -/
import Derived.Test.YtpcajacekmidbaaInts
import Derived.ArgAppend
import Derived.Deep.LoopGhost
namespace Go.Proofs.Ytpcajacekmidbaa
open Go.RowKit
set_option linter.unusedVariables false
set_option maxRecDepth 100000
set_option linter.unusedSimpArgs false

theorem grown_setQ (w : World) (g i : Nat) (v : Value) : w.grownBy (w.setCell ⟨g, i, none⟩ v) (some g) := by
  refine ⟨rfl, rfl, rfl, by simp, fun k _ hk => ?_⟩
  exact Below.heap_setCell w ⟨g, i, none⟩ v k (fun e => hk (by simp at e; rw [e]))
/-- The value is a slice into block g, with the numbers zs. -/
def QAt (w : World) (g : Nat) (v : Value) (zs : List Int) : Prop :=
  ∃ (off cap : Nat) (cs : Array Value), v = .slice (some ⟨g, off, none⟩) zs.length cap ∧ w.heap[g]? = some (.cells cs 3 (0, 0)) ∧ zs.length ≤ cap ∧ off + cap ≤ cs.size ∧ cap ≤ maxLen ∧ ∀ j, j < zs.length → cs[off + j]? = some (.int .i64 (zs.getD j 0))
theorem QAt.lt {w : World} {g : Nat} {v : Value} {zs : List Int} (h : QAt w g v zs) : g < w.heap.size := by
  obtain ⟨_, _, _, _, h2, _⟩ := h; exact heap_lt h2
theorem QAt.kept {w w' : World} {g : Nat} {v : Value} {zs : List Int} (h : QAt w g v zs) (hk : ∀ o, w.heap[g]? = some o → w'.heap[g]? = some o) : QAt w' g v zs := by
  obtain ⟨off, cap, cs, h1, h2, h3⟩ := h; exact ⟨off, cap, cs, h1, hk _ h2, h3⟩
theorem QAt.below {w w' : World} {g : Nat} {v : Value} {zs : List Int} (h : QAt w g v zs) (hb : Below w.heap.size w w') : QAt w' g v zs := h.kept fun _ ho => heap_later ho hb
theorem QAt.grown {w w' : World} {g : Nat} {v : Value} {zs : List Int} {row : Option Nat} (h : QAt w g v zs) (hg : w.grownBy w' row) (hr : row ≠ some g) : QAt w' g v zs := h.kept fun _ ho => heap_grown ho hg hr
theorem QAt.one (w : World) (x : Int) : QAt (w.alloc (.cells #[.int .i64 x] 3 (0, 0))) w.heap.size (.slice (some ⟨w.heap.size, 0, none⟩) 1 1) [x] :=
  ⟨0, 1, #[.int .i64 x], rfl, heap_new _ _, Nat.le_refl _, by simp, by decide, fun j hj => by simp at hj; subst hj; rfl⟩
theorem QAt.head {w : World} {g : Nat} {v : Value} {z : Int} {zs : List Int} (h : QAt w g v (z :: zs)) : ∃ off cap, v = .slice (some ⟨g, off, none⟩) (zs.length + 1) (cap + 1) ∧ w.cell? ⟨g, off, none⟩ = some (.int .i64 z) ∧ cap ≤ maxLen ∧ zs.length ≤ cap ∧
    QAt w g (.slice (some ⟨g, off + 1, none⟩) zs.length cap) zs ∧ (zs = [] → QAt w g (.slice (some ⟨g, off, none⟩) 0 0) []) := by
  obtain ⟨off, cap, cs, h1, h2, h3, h4, h5, h6⟩ := h
  simp only [List.length_cons] at h1 h3
  obtain ⟨cap, rfl⟩ : ∃ c, cap = c + 1 := ⟨cap - 1, by omega⟩
  refine ⟨off, cap, h1, ?_, by omega, by omega, ⟨off + 1, cap, cs, rfl, h2, by omega, by omega, by omega, fun j hj => ?_⟩, fun _ => ⟨off, 0, cs, rfl, h2, Nat.le_refl _, by omega, by decide, fun j hj => by simp at hj⟩⟩
  · have := h6 0 (by simp)
    simp only [Nat.add_zero] at this
    simp [World.cell?, h2, this]
  · have := h6 (j + 1) (by simp; omega)
    rw [show off + 1 + j = off + (j + 1) by omega, this]
    rfl
theorem QAt.ofOwn {w : World} {B g cap : Nat} {L : List Int} (h : w.ownsRow B 3 1 (.slice (some ⟨g, 0, none⟩) L.length cap) L.length (L.map (Value.int .i64))) : QAt w g (.slice (some ⟨g, 0, none⟩) L.length cap) L := by
  rcases h.2 with ⟨h1, _⟩ | ⟨g', cap', cs, hv, hg, hh, hn, hm, hs, ht⟩
  · simp at h1
  · simp only [Value.slice.injEq, Option.some.injEq, Addr.mk.injEq] at hv
    obtain ⟨⟨rfl, _⟩, _, rfl⟩ := hv
    refine ⟨0, cap, cs, rfl, hh, hn, by omega, hm, fun j hj => ?_⟩
    have hj' : j < cs.size := by omega
    have e : cs.toList[j]? = (L.map (Value.int .i64))[j]? := by
      rw [← ht, List.getElem?_take_of_lt (by simpa using hj)]
    rw [Nat.zero_add, ← Array.getElem?_toList, e]
    simp [hj]

set_option maxHeartbeats 1000000 in
/-- A number is appended. -/
theorem wpList_push (w : World) {ops : Array Oper} {rest : List Oper} {o : Oper} {a : Act} {Q : Exit → Act → World → Prop} (hgd : o.guard = none) (s x : Operand)
    (ho : o.op = .call { callee := .builtin .append, args := #[s, x], argTypes := #[26, 26] })
    {g : Nat} {v : Value} {zs : List Int} (hs : a.eval s = v) (hq : QAt w g v zs) (ad : Addr) (c : Nat) (z : Int) (hx : a.eval x = .slice (some ad) 1 c) (hc : ∀ j u, [Value.int .i64 z][j]? = some u → w.cell? (ad.add j) = some u) (hlen : zs.length ≤ 1000000)
    (hK : ∀ g' v' w', QAt w' g' v' (zs ++ [z]) → w.grownBy w' (some g) → (g' = g ∨ w.heap.size ≤ g') → wpList Try.prog ops Q rest (a.put o.dst v') w') : wpList Try.prog ops Q (o :: rest) a w := by
  obtain ⟨i0, hi, hz0, hz1, hz2⟩ := info_parts infoInt
  obtain ⟨off, cap, cs, rfl, h2, h3, h4, h5, h6⟩ := hq
  refine wpList_append_arg w hgd s x 26 ho 3 i0 (.int .i64 0) 1 8 Try.underlying26 hi hz0 hz1 hz2 rfl (by decide) g off zs.length cap (zs.map (Value.int .i64)) hs (by simp) (fun j u hj => ?_) ad 1 c [.int .i64 z] hx rfl hc (one_int z) (fun hr j hj => ?_) (by unfold maxLen; omega) (by omega) (fun hr => ?_) (fun hr v' w' hown hgrow => ?_)
  · have hjl : j < zs.length := by
      have := (List.getElem?_eq_some_iff.1 hj).1; simpa using this
    have := h6 j hjl
    have e : u = .int .i64 (zs.getD j 0) := by
      have e2 : (zs.map (Value.int .i64))[j]? = some (.int .i64 (zs.getD j 0)) := by simp [hjl]
      rw [e2] at hj; exact (Option.some.inj hj).symm
    rw [e]
    simp [World.cell?, h2, this]
  · simp at hj
    subst hj
    have hsz : off + zs.length < cs.size := by omega
    constructor
    · simp [World.cell?, h2, hsz]
    · simp [World.frozen?, h2]
  · have e : w.setCells g (off + zs.length * 1) [.int .i64 z] = w.setCell ⟨g, off + zs.length, none⟩ (.int .i64 z) := by simp [World.setCells]
    rw [e]
    refine hK g _ _ ⟨off, cap, cs.setIfInBounds (off + zs.length) (.int .i64 z), by simp, block_setCell h2 _, by simp; omega, by simpa using h4, h5, fun j hj => ?_⟩ (grown_setQ _ _ _ _) (Or.inl rfl)
    by_cases ej : j < zs.length
    · rw [Array.getElem?_setIfInBounds_ne (by omega), h6 j ej]
      simp [List.getD, List.getElem?_append_left ej]
    · have : j = zs.length := by simp at hj; omega
      subst this
      rw [Array.getElem?_setIfInBounds_self_of_lt (by omega)]
      simp [List.getD]
  · have hl : (zs ++ [z]).length = zs.length + 1 := by simp
    have hm : (zs ++ [z]).map (Value.int .i64) = zs.map (Value.int .i64) ++ [.int .i64 z] := by simp
    rw [← hl, ← hm] at hown
    have hown0 := hown
    rcases hown.2 with ⟨_, h0⟩ | ⟨g', cap', cur, hv, hg, _⟩
    · simp at h0
    · subst hv
      exact hK g' _ _ (QAt.ofOwn hown0) ⟨hgrow.os, hgrow.tape, hgrow.output, hgrow.size, fun k hk _ => hgrow.block k hk (by simp)⟩ (Or.inr hg)
end Go.Proofs.Ytpcajacekmidbaa
