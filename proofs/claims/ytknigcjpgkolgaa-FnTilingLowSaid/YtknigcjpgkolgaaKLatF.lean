/- Plain facts: where there is a tiling, the first one is one; the heights of two tilings differ by multiples of 4. -/
import Derived.Test.YtknigcjpgkolgaaKLatMv1
import Derived.Test.YtknigcjpgkolgaaKLatT
import Derived.RangeFuncKeeps
import Derived.RangeFuncBound
import Derived.RangeFuncLeaves
import Derived.Shelf.Abstract
import Derived.Shelf.RegionOpen
import Derived.OwnWalkIn
import Derived.TacticsInMore
import Derived.LoopNIn
import Derived.LoopIn
import Derived.RangeFuncFrom
import Derived.RangeFuncBox
import Derived.Laws.EntriesVeiled
namespace Go.Proofs.Ytknigcjpgkolgaa
open Go.RowKit
set_option linter.unusedVariables false
set_option maxRecDepth 100000
set_option linter.unusedSimpArgs false

theorem hok_nil (W T : Int) (xs : List Bool) : hokB W T xs [] = false := by
  cases h : hokB W T xs []
  · rfl
  · obtain ⟨h1, h2⟩ := hokB_len h
    obtain ⟨v1, v2, v3, v4, v5, v6⟩ := rv_true h2
    have hcb := corn_bd v1 v2 v3 v4
    simp only [List.length_nil] at h1
    omega

end Go.Proofs.Ytknigcjpgkolgaa

namespace Go.Proofs.Ytknigcjpgkolgaa
open Go.RowKit
set_option linter.unusedVariables false
set_option maxRecDepth 100000
set_option linter.unusedSimpArgs false

/-- The heights of a tiling are right. -/
theorem hts_hok {W T : Int} {xs : List Bool} {L H : List Int} {N fk : Nat} (hs : simpleB W T xs = true) (hN : (W + 1) * (T + 1) = (N : Int)) (hf : frstK W T xs N = fk) (h : HtsOf W T xs L H N) : HokP W T xs H N fk := by
  refine ⟨hs, hN, hf, h.len, h.off, fun k hk ha => by have := h.bd k hk ha; omega, fun k nth hk hu => ?_, h.first fk hf⟩
  rw [h.side k nth hk hu]
  refine may_of ?_
  unfold rT
  cases hb : sBoth W T xs k nth
  · left; simp
  · by_cases e : (true && (L.getD (sCell W k nth).toNat 0 == sWay nth)) = true
    · rw [if_pos e]; right; exact ⟨rfl, rfl⟩
    · rw [if_neg e]; left; rfl
theorem rs_inj (d a b : Bool) (h : rsB d a = rsB d b) : a = b := by cases d <;> cases a <;> cases b <;> first | rfl | (exfalso; revert h; decide)
/-- Tilings with the same heights are the same. -/
theorem hts_inj {W T : Int} {xs : List Bool} {L L' H : List Int} {N : Nat} (hN : (W + 1) * (T + 1) = (N : Int)) (ht : tok W T xs L = true) (ht' : tok W T xs L' = true) (h : HtsOf W T xs L H N) (h' : HtsOf W T xs L' H N) : L = L' := by
  have hl := tok_lok1 ht
  have hl' := tok_lok1 ht'
  obtain ⟨hrv, len, _⟩ := lok_rv hl
  obtain ⟨_, len', _⟩ := lok_rv hl'
  obtain ⟨v1, v2, v3, v4, v5, v6⟩ := rv_true hrv
  refine ext_getD (by rw [len, len']) fun c hc => ?_
  rw [len] at hc
  obtain ⟨ea, c0, c1, c2, c3⟩ := at_cell (W := W) (T := T) v1 v5 hc
  cases hx : xs.getD c false
  · have z : ∀ M : List Int, lok W T xs M = true → M.getD c 0 = 0 := by
      intro M hM
      by_cases e : M.getD c 0 = 0
      · exact e
      · obtain ⟨o, _, _, _, hxc, _⟩ := lok_at hM hc e
        rw [hx] at hxc; cases hxc
    rw [z L hl, z L' hl']
  · rw [hx] at ea
    have ce := Int.emod_add_mul_ediv (c : Int) W
    have hv : ∀ M : List Int, lv W T xs M ((c : Int) % W) ((c : Int) / W) = M.getD c 0 := by
      intro M
      unfold lv
      rw [ea, if_pos rfl]
      congr 1
      rw [Int.mul_comm]; omega
    obtain ⟨f1, f2, f3⟩ := lv_four ht ea
    obtain ⟨g1, g2, g3⟩ := lv_four ht' ea
    obtain ⟨⟨s1, s2⟩, ⟨b1, b2⟩, ⟨w1, w2⟩, ⟨d1, d2⟩⟩ := cell_sides v1 ea
    have lt : ∀ {k : Nat} {nth : Bool}, sUsed W T xs k nth = true → k < N := fun hh => by obtain ⟨t0, t1, t2⟩ := sTo_lt v1 hh; omega
    have same : ∀ k nth, sUsed W T xs k nth = true → (lv W T xs L (sLx W k nth) (ky W k) == sWay nth) = (lv W T xs L' (sLx W k nth) (ky W k) == sWay nth) := by
      intro k nth hu
      have a := h.side k nth (lt hu) hu
      have b := h'.side k nth (lt hu) hu
      rw [rT_eq hl] at a
      rw [rT_eq hl'] at b
      exact rs_inj _ _ _ (a.symm.trans b)
    obtain ⟨p1, p2, p3⟩ := cI_xy (W := W) (x := (c : Int) % W) (y := (c : Int) / W) c0 (by omega) c2
    obtain ⟨q1, q2, q3⟩ := cI_xy (W := W) (x := (c : Int) % W) (y := (c : Int) / W + 1) c0 (by omega) (by omega)
    obtain ⟨r1, r2, r3⟩ := cI_xy (W := W) (x := (c : Int) % W + 1) (y := (c : Int) / W) (by omega) (by omega) c2
    have t4 := same _ _ s1
    have t2 := same _ _ b1
    have t1 := same _ _ d1
    have el : ∀ k, sLx W k false = kx W k := fun k => rfl
    have er : ∀ k, sLx W k true = kx W k - 1 := fun k => rfl
    have wf : sWay false = 4 := rfl
    have wt : sWay true = 1 := rfl
    rw [el, p2, p3, wf] at t4
    rw [el, q2, q3, wf, f1, g1] at t2
    rw [er, r2, r3, Int.add_sub_cancel, wt] at t1
    rw [hv L] at f3 t4 t2 t1
    rw [hv L'] at g3 t4 t2 t1
    generalize L.getD c 0 = u at *
    generalize L'.getD c 0 = v at *
    have hu : u = 1 ∨ u = 2 ∨ u = 3 ∨ u = 4 := by omega
    have hv' : v = 1 ∨ v = 2 ∨ v = 3 ∨ v = 4 := by omega
    clear hv
    rcases hu with rfl | rfl | rfl | rfl <;> rcases hv' with rfl | rfl | rfl | rfl <;> first | rfl | (exfalso; revert t4; decide) | (exfalso; revert t2; decide) | (exfalso; revert t1; decide)

/-- The heights of a tiling, as the program's heights: they tell the tiling. -/
theorem tby_of {W T : Int} {xs : List Bool} {L H : List Int} (hs : simpleB W T xs = true) (ht : tok W T xs L = true) (h : HtsR W T xs L H) : hokB W T xs H = true ∧ tbyF W T xs H = (L, true) := by
  obtain ⟨N, fk, hN, hf⟩ := hokP_size hs
  rcases h with ⟨_, h⟩ | ⟨h, _⟩
  · have eN : ((W + 1) * (T + 1)).toNat = N := by omega
    rw [eN] at h
    have hp := hts_hok hs hN hf h
    have hk := hok_of hp
    refine ⟨hk, ?_⟩
    unfold tbyF
    rw [if_pos hk, eN, hts_inj hN (tby_tok hp) ht (tby_hts hp) h]
  · rw [hs, ht] at h; cases h
end Go.Proofs.Ytknigcjpgkolgaa

namespace Go.Proofs.Ytknigcjpgkolgaa
open Go.RowKit
set_option linter.unusedVariables false
set_option maxRecDepth 100000
set_option linter.unusedSimpArgs false

/-- The blocks of S lie as they lay. -/
structure ItKeeps (S : Nat → Prop) (A B : World) : Prop where
  size : A.heap.size ≤ B.heap.size
  same : ∀ k, S k → k < A.heap.size → B.heap[k]? = A.heap[k]?
theorem ItKeeps.refl (S : Nat → Prop) (A : World) : ItKeeps S A A := ⟨Nat.le_refl _, fun _ _ _ => rfl⟩
theorem ItKeeps.trans {S : Nat → Prop} {A B C : World} (h : ItKeeps S A B) (k : ItKeeps S B C) : ItKeeps S A C :=
  ⟨Nat.le_trans h.size k.size, fun i hi hl => (k.same i hi (Nat.lt_of_lt_of_le hl h.size)).trans (h.same i hi hl)⟩
theorem ItKeeps.heap {S : Nat → Prop} {A B : World} (h : ItKeeps S A B) {b : Nat} {o : Obj} (hb : S b) (hh : A.heap[b]? = some o) : B.heap[b]? = some o := (h.same b hb (heap_lt hh)).trans hh
theorem ItKeeps.bools {S : Nat → Prop} {A B : World} (h : ItKeeps S A B) {a : Option Addr} {xs : List Bool} (hS : ∀ b off, a = some ⟨b, off, none⟩ → S b) (hx : BoolsAt A a xs) : BoolsAt B a xs := by
  intro i hi
  obtain ⟨b, off, rfl, hc⟩ := hx i hi
  refine ⟨b, off, rfl, ?_⟩
  have hlt := World.block_lt_of_cell? A _ hc
  exact (World.cell?_of_block (w := A) (w' := B) (a := ⟨b, off + i, none⟩) (h.same b (hS b off rfl) hlt)).trans hc
/-- What lies in the heap for the iterator: the region, the list in work, the box for yield, the box for the function that calls itself. -/
structure ItAt (w : World) (l rb wx yb fb wb lcap B : Nat) (W T : Int) (a : Option Addr) (n c : Nat) (xs : List Bool) (L : List Int) : Prop where
  reg : w.heap[rb]? = some (.cells #[.int .i64 W, .int .i64 T, .slice a n c] 25 (0, 0))
  bools : BoolsAt w a xs
  work : w.heap[wx]? = some (.cells #[.slice (some ⟨wb, 0, none⟩) n lcap] 26 (0, 0))
  yld : w.heap[yb]? = some (.cells #[.func (.yield l) #[] #[]] 112 (0, 0))
  fn : w.heap[fb]? = some (.cells #[.func (.func 150) #[] #[.pointer (some ⟨rb, 0, none⟩), .pointer (some ⟨wx, 0, none⟩), .pointer (some ⟨yb, 0, none⟩), .pointer (some ⟨fb, 0, none⟩)]] 86 (0, 0))
  list : OwnsI w B (.slice (some ⟨wb, 0, none⟩) n lcap) L

theorem ItAt.below {A D : World} {l rb wx yb fb wb lcap B : Nat} {W T : Int} {a : Option Addr} {n c : Nat} {xs : List Bool} {L : List Int} (h : ItAt A l rb wx yb fb wb lcap B W T a n c xs L) (k : Below A.heap.size A D) : ItAt D l rb wx yb fb wb lcap B W T a n c xs L :=
  ⟨heap_later h.reg k, h.bools.below k, heap_later h.work k, heap_later h.yld k, heap_later h.fn k, h.list.below k⟩
theorem OwnsI.block {w : World} {B g n cap : Nat} {L : List Int} (h : OwnsI w B (.slice (some ⟨g, 0, none⟩) n cap) L) : ∃ cs, w.heap[g]? = some (.cells cs 3 (0, 0)) := by
  rcases h.2 with ⟨hn, _⟩ | ⟨g', cap', cur, hv, hb, hh, r⟩
  · cases hn
  · have e : g = g' := by simp only [Value.slice.injEq, Option.some.injEq, Addr.mk.injEq] at hv; exact hv.1.1
    exact ⟨cur, by rw [e]; exact hh⟩
end Go.Proofs.Ytknigcjpgkolgaa

namespace Go.Proofs.Ytknigcjpgkolgaa
open Go.RowKit Go.Shelf
set_option linter.unusedVariables false
set_option maxRecDepth 100000
set_option linter.unusedSimpArgs false
attribute [local go_sem] Oper.semAt_some

end Go.Proofs.Ytknigcjpgkolgaa

namespace Go.Proofs.Ytknigcjpgkolgaa
open Go.RowKit Go.Shelf
set_option linter.unusedVariables false
set_option maxRecDepth 100000
set_option linter.unusedSimpArgs false

end Go.Proofs.Ytknigcjpgkolgaa

namespace Go.Proofs.Ytknigcjpgkolgaa
open Go.RowKit Go.Shelf
set_option linter.unusedVariables false
set_option maxRecDepth 100000
set_option linter.unusedSimpArgs false
attribute [local go_sem] Oper.semAt_some

end Go.Proofs.Ytknigcjpgkolgaa

namespace Go.Proofs.Ytknigcjpgkolgaa
open Go.RowKit Go.Shelf
set_option linter.unusedVariables false
set_option maxRecDepth 100000
set_option linter.unusedSimpArgs false

/-- The values ws are lists of the call's own, from block B on, no two in one block. -/
structure RowsI (w : World) (B : Nat) (ws : List Value) (rows : List (List Int)) : Prop where
  len : ws.length = rows.length
  own : ∀ i, i < rows.length → OwnsI w B (ws.getD i (.slice none 0 0)) (rows.getD i [])
  apart : ∀ i j, i < j → j < rows.length → ∀ k, (ws.getD i (.slice none 0 0)).ownBlock = some k → (ws.getD j (.slice none 0 0)).ownBlock ≠ some k

/-- A list of lists that the call owns from block B on. -/
def OwnsSS (w : World) (B : Nat) (v : Value) (rows : List (List Int)) : Prop := ∃ ws, w.ownsRow B 26 1 v rows.length ws ∧ RowsI w B ws rows

theorem RowsI.nil (w : World) (B : Nat) : RowsI w B [] [] := ⟨rfl, fun i h => absurd h (Nat.not_lt_zero i), fun i j _ h => absurd h (Nat.not_lt_zero j)⟩
theorem OwnsSS.nil (w : World) (B : Nat) : OwnsSS w B (.slice none 0 0) [] := ⟨[], World.ownsRow_nil _ _ _ _, RowsI.nil w B⟩
/-- A step that turns none of the lists' own blocks. -/
theorem RowsI.kept {w w' : World} {B : Nat} {ws : List Value} {rows : List (List Int)} {row : Option Nat} (h : RowsI w B ws rows) (hg : w.grownBy w' row) (hr : ∀ i, i < rows.length → ∀ k, (ws.getD i (.slice none 0 0)).ownBlock = some k → row ≠ some k) : RowsI w' B ws rows :=
  ⟨h.len, fun i hi => World.ownsRow.kept (h.own i hi) hg (by
    cases hk : (ws.getD i (.slice none 0 0)).ownBlock with
    | none => exact Or.inl rfl
    | some k => exact Or.inr (fun e => hr i hi k hk e.symm)), h.apart⟩
theorem RowsI.below {w w' : World} {B : Nat} {ws : List Value} {rows : List (List Int)} (h : RowsI w B ws rows) (hb : Below w.heap.size w w') : RowsI w' B ws rows := ⟨h.len, fun i hi => (h.own i hi).below hb, h.apart⟩
theorem OwnsSS.below {w w' : World} {B : Nat} {v : Value} {rows : List (List Int)} (h : OwnsSS w B v rows) (hb : Below w.heap.size w w') : OwnsSS w' B v rows := by
  obtain ⟨ws, h1, h2⟩ := h
  refine ⟨ws, ?_, h2.below hb⟩
  exact h1.kept (grown_of_below hb none) (by cases v.ownBlock <;> simp)
/-- A list more. -/
theorem RowsI.snoc {w : World} {B : Nat} {ws : List Value} {rows : List (List Int)} {v : Value} {M : List Int} (h : RowsI w B ws rows) (ho : OwnsI w B v M) (hf : ∀ i, i < rows.length → ∀ k, (ws.getD i (.slice none 0 0)).ownBlock = some k → v.ownBlock ≠ some k) : RowsI w B (ws ++ [v]) (rows ++ [M]) := by
  have gl : ∀ i, i < rows.length → (ws ++ [v]).getD i (.slice none 0 0) = ws.getD i (.slice none 0 0) := fun i hi => by
    simp [List.getD, List.getElem?_append_left (show i < ws.length by rw [h.len]; exact hi)]
  have gr : ∀ i, i < rows.length → (rows ++ [M]).getD i [] = rows.getD i [] := fun i hi => by
    simp [List.getD, List.getElem?_append_left hi]
  have gv : (ws ++ [v]).getD rows.length (.slice none 0 0) = v := by rw [← h.len]; simp [List.getD]
  have gm : (rows ++ [M]).getD rows.length [] = M := by simp [List.getD]
  refine ⟨by simp [h.len], fun i hi => ?_, fun i j hij hj k hk => ?_⟩
  · rw [List.length_append, List.length_singleton] at hi
    by_cases e : i < rows.length
    · rw [gl i e, gr i e]; exact h.own i e
    · obtain rfl : i = rows.length := by omega
      rw [gv, gm]; exact ho
  · rw [List.length_append, List.length_singleton] at hj
    rw [gl i (by omega)] at hk
    by_cases e : j < rows.length
    · rw [gl j e]; exact h.apart i j hij e k hk
    · obtain rfl : j = rows.length := by omega
      rw [gv]; exact hf i hij k hk
/-- The blocks of the lists lie in the heap, from B on, and hold integers. -/
theorem RowsI.block {w : World} {B : Nat} {ws : List Value} {rows : List (List Int)} (h : RowsI w B ws rows) {i k : Nat} (hi : i < rows.length) (hk : (ws.getD i (.slice none 0 0)).ownBlock = some k) : B ≤ k ∧ ∃ cs, w.heap[k]? = some (.cells cs 3 (0, 0)) := by
  have ho := h.own i hi
  refine ⟨(World.ownsRow.lt ho k hk).1, ?_⟩
  rcases ho.2 with ⟨e, _⟩ | ⟨g, cap, cur, e, _, hh, _⟩
  · rw [e] at hk; cases hk
  · rw [e] at hk
    obtain rfl : g = k := by simpa [Value.ownBlock] using hk
    exact ⟨cur, hh⟩
end Go.Proofs.Ytknigcjpgkolgaa

namespace Go.Proofs.Ytknigcjpgkolgaa
open Go.RowKit
set_option linter.unusedVariables false
set_option maxRecDepth 100000
set_option linter.unusedSimpArgs false

theorem RowsI.one {w : World} {B : Nat} {v : Value} {M : List Int} (h : OwnsI w B v M) : RowsI w B [v] [M] :=
  RowsI.snoc (RowsI.nil w B) h (fun i hi => absurd hi (Nat.not_lt_zero i))

end Go.Proofs.Ytknigcjpgkolgaa

namespace Go.Proofs.Ytknigcjpgkolgaa
open Go.RowKit
set_option linter.unusedVariables false
set_option maxRecDepth 100000
set_option linter.unusedSimpArgs false

end Go.Proofs.Ytknigcjpgkolgaa

namespace Go.Proofs.Ytknigcjpgkolgaa
open Go.RowKit
set_option linter.unusedVariables false
set_option maxRecDepth 100000
set_option linter.unusedSimpArgs false

theorem hts_pos {W T : Int} {xs : List Bool} {L A : List Int} (hA : HtsR W T xs L A) : (A.length = 0 ∧ (simpleB W T xs && tok W T xs L) = false) ∨ (0 < A.length ∧ simpleB W T xs = true ∧ tok W T xs L = true) := by
  cases h : (simpleB W T xs && tok W T xs L)
  · left
    rcases hA with ⟨c, _⟩ | ⟨_, e⟩
    · rw [c] at h; cases h
    · rw [e]; exact ⟨rfl, rfl⟩
  · right
    rw [Bool.and_eq_true] at h
    have ho := (tby_of h.1 h.2 hA).1
    refine ⟨?_, h.1, h.2⟩
    rcases Nat.eq_zero_or_pos A.length with e | e
    · have e' : A = [] := List.eq_nil_of_length_eq_zero e
      rw [e', hok_nil] at ho; cases ho
    · exact e

end Go.Proofs.Ytknigcjpgkolgaa
