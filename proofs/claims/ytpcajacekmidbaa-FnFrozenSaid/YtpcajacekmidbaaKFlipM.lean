/- Plain facts on sums over cells: exchanged, numbered anew. Merged of: Sum, Bal, FlipM. -/
import Derived.Test.YtpcajacekmidbaaKFirstS
import Derived.RangeFuncKeeps
import Derived.RangeFuncBound
import Derived.RangeFuncLeaves
import Derived.Shelf.Abstract
import Derived.Shelf.RegionOpen
import Derived.OwnWalkIn
import Derived.TacticsInMore
import Derived.LoopNIn
import Derived.LoopIn
import Derived.RangeFuncFrom
import Derived.RangeFuncBox
import Derived.Laws.EntriesVeiled
namespace Go.Proofs.Ytpcajacekmidbaa
open Go.RowKit
set_option linter.unusedVariables false
set_option maxRecDepth 100000
set_option linter.unusedSimpArgs false

def allL (W T : Int) (xs : List Bool) : Nat → List Int → List (List Int)
 | 0, _ => []
 | f + 1, L =>
   if firstI xs L 0 xs.length < 0 then [L]
   else (if canLay W T xs L (firstI xs L 0 xs.length) 1 = true then allL W T xs f (laidL W T xs L (firstI xs L 0 xs.length) 1) else []) ++
    (if canLay W T xs L (firstI xs L 0 xs.length) 2 = true then allL W T xs f (laidL W T xs L (firstI xs L 0 xs.length) 2) else [])
theorem allL_done {W T : Int} {xs : List Bool} {f : Nat} {L : List Int} {c : Int} (h : firstI xs L 0 xs.length = c) (h0 : c < 0) : allL W T xs (f + 1) L = [L] := by
 subst h
 have e : allL W T xs (f + 1) L = if firstI xs L 0 xs.length < 0 then [L]
  else (if canLay W T xs L (firstI xs L 0 xs.length) 1 = true then allL W T xs f (laidL W T xs L (firstI xs L 0 xs.length) 1) else []) ++
   (if canLay W T xs L (firstI xs L 0 xs.length) 2 = true then allL W T xs f (laidL W T xs L (firstI xs L 0 xs.length) 2) else []) := rfl
 rw [e, if_pos h0]
theorem allL_succ {W T : Int} {xs : List Bool} {f : Nat} {L : List Int} {c : Int} (h : firstI xs L 0 xs.length = c) (h0 : ¬ c < 0) : allL W T xs (f + 1) L =
 (if canLay W T xs L c 1 = true then allL W T xs f (laidL W T xs L c 1) else []) ++ (if canLay W T xs L c 2 = true then allL W T xs f (laidL W T xs L c 2) else []) := by
 subst h
 have e : allL W T xs (f + 1) L = if firstI xs L 0 xs.length < 0 then [L]
  else (if canLay W T xs L (firstI xs L 0 xs.length) 1 = true then allL W T xs f (laidL W T xs L (firstI xs L 0 xs.length) 1) else []) ++
   (if canLay W T xs L (firstI xs L 0 xs.length) 2 = true then allL W T xs f (laidL W T xs L (firstI xs L 0 xs.length) 2) else []) := rfl
 rw [e, if_neg h0]
theorem layF_of {W T : Int} {xs : List Bool} {L : List Int} {k way : Int} (hl : lok W T xs L = true) : layF W T xs L k way = (laidL W T xs L k way, canLay W T xs L k way) := by
 unfold layF; rw [if_pos hl]
theorem free_drop' {W T : Int} {xs : List Bool} {L : List Int} {k way : Int} (hw : way = 1 ∨ way = 2) (hl : lok W T xs L = true) (hc : canLay W T xs L k way = true) : freeN xs (laidL W T xs L k way) < freeN xs L := by
 have := free_drop (W := W) (T := T) (xs := xs) (L := L) (k := k) hw (by rw [layF_of hl]; exact hc)
 rwa [layF_of hl] at this
structure ItKeeps (S : Nat → Prop) (A B : World) : Prop where
 size : A.heap.size ≤ B.heap.size
 same : ∀ k, S k → k < A.heap.size → B.heap[k]? = A.heap[k]?
theorem ItKeeps.refl (S : Nat → Prop) (A : World) : ItKeeps S A A := ⟨Nat.le_refl _, fun _ _ _ => rfl⟩
theorem ItKeeps.trans {S : Nat → Prop} {A B C : World} (h : ItKeeps S A B) (k : ItKeeps S B C) : ItKeeps S A C :=
 ⟨Nat.le_trans h.size k.size, fun i hi hl => (k.same i hi (Nat.lt_of_lt_of_le hl h.size)).trans (h.same i hi hl)⟩
theorem ItKeeps.heap {S : Nat → Prop} {A B : World} (h : ItKeeps S A B) {b : Nat} {o : Obj} (hb : S b) (hh : A.heap[b]? = some o) : B.heap[b]? = some o := (h.same b hb (heap_lt hh)).trans hh
theorem ItKeeps.bools {S : Nat → Prop} {A B : World} (h : ItKeeps S A B) {a : Option Addr} {xs : List Bool} (hS : ∀ b off, a = some ⟨b, off, none⟩ → S b) (hx : BoolsAt A a xs) : BoolsAt B a xs := by
 intro i hi
 obtain ⟨b, off, rfl, hc⟩ := hx i hi
 refine ⟨b, off, rfl, ?_⟩
 have hlt := World.block_lt_of_cell? A _ hc
 exact (World.cell?_of_block (w := A) (w' := B) (a := ⟨b, off + i, none⟩) (h.same b (hS b off rfl) hlt)).trans hc
theorem OwnsI.block {w : World} {B g n cap : Nat} {L : List Int} (h : OwnsI w B (.slice (some ⟨g, 0, none⟩) n cap) L) : ∃ cs, w.heap[g]? = some (.cells cs 3 (0, 0)) := by
 rcases h.2 with ⟨hn, _⟩ | ⟨g', cap', cur, hv, hb, hh, r⟩
 · cases hn
 · have e : g = g' := by simp only [Value.slice.injEq, Option.some.injEq, Addr.mk.injEq] at hv; exact hv.1.1
   exact ⟨cur, by rw [e]; exact hh⟩
theorem cell1 {w : World} {b : Nat} {v : Value} {t : TypeId} (h : w.heap[b]? = some (.cells #[v] t (0, 0))) : w.cell? ⟨b, 0, none⟩ = some v := by simp [World.cell?, h]

end Go.Proofs.Ytpcajacekmidbaa

namespace Go.Proofs.Ytpcajacekmidbaa
open Go.RowKit Go.Shelf
set_option linter.unusedVariables false
set_option maxRecDepth 100000
set_option linter.unusedSimpArgs false
attribute [local go_sem] Oper.semAt_some

theorem room_of_none' {F : Fence} (hd : F.depth = none) (k : Nat) : F.room k := fun d h => by rw [hd] at h; cases h
theorem RoundIn.anyDepth' {F : Fence} (hd : F.depth = none) {m m' : Nat} {P : Program} {l : Nat} {f : FuncId} {tmps : Array Value} {assign body : Code} {w : World} {R : Ending → World → Prop}
 (h : RoundIn F m P l f tmps assign body w R) : RoundIn F m' P l f tmps assign body w R := ⟨h.1, fun c cs _ => h.2 c cs (room_of_none' hd _)⟩
theorem YieldAt.anyDepth' {F : Fence} (hd : F.depth = none) {m : Nat} (m' : Nat) {P : Program} {l : Nat} {args : Array Value} {W : World} {R : Ending → World → Prop} (h : YieldAt F m P l args W R) : YieldAt F m' P l args W R := by
 obtain ⟨fn, tmps, assign, body, hy, hR⟩ := h
 exact ⟨fn, tmps, assign, body, hy, RoundIn.anyDepth' hd hR⟩

def ItPost (J Jx : List (List Int) → World → Prop) (pre all : List (List Int)) (b : Bool) (W' : World) : Prop :=
 (b = true → J (pre ++ all) W') ∧ (b = false → ∃ q, q <+: all ∧ q ≠ [] ∧ Jx (pre ++ q) W')

end Go.Proofs.Ytpcajacekmidbaa

namespace Go.Proofs.Ytpcajacekmidbaa
open Go.RowKit Go.Shelf
set_option linter.unusedVariables false
set_option maxRecDepth 100000
set_option linter.unusedSimpArgs false

def ItInv (lo : Nat) (J : Nat → List (List Int) → World → Prop) : Prop :=
 ∀ hi pre A D row, J hi pre A → A.grownBy D row → (∀ r, row = some r → lo ≤ r ∧ r < hi) → J hi pre D

def SeqIt (P : Program) (g : Nat) (lb : Array Value) (S0 : Nat → Prop) (all : List (List Int)) (ok : List Int → Prop) (w0 : World) : Prop :=
 ∀ (d l : Nat) (J Jx : Nat → List (List Int) → World → Prop) (W1 : World), Below w0.heap.size w0 W1 → ItInv W1.heap.size J → ItInv W1.heap.size Jx →
  (∀ W2, Below W1.heap.size W1 W2 → J W2.heap.size [] W2) →
  (∀ m hi pre M A A' v, J hi pre A → W1.heap.size ≤ hi → hi ≤ A.heap.size → Below A.heap.size A A' → OwnsI A' A.heap.size v M → ok M → pre.length < all.length → YieldAt Fence.wide m P l #[v] A' fun e W' =>
    ∃ b : Bool, e = .returned (.bool b) ∧ ItPost (J hi) (Jx hi) pre [M] b W' ∧ ItKeeps (fun k => S0 k ∨ W1.heap.size ≤ k ∧ k < hi) A' W') →
  CallsIn Fence.wide d P g (#[.func (.yield l) #[] #[]] ++ lb) W1 fun e W' => (∃ v, e = .returned v) ∧ ∃ hi b, W1.heap.size ≤ hi ∧ hi ≤ W'.heap.size ∧ ItPost (J hi) (Jx hi) [] all b W'

theorem SeqIt.later {P : Program} {g : Nat} {lb : Array Value} {S0 : Nat → Prop} {all : List (List Int)} {ok : List Int → Prop} {w w' : World} (h : SeqIt P g lb S0 all ok w) (hb : Below w.heap.size w w') : SeqIt P g lb S0 all ok w' :=
 fun d l J Jx W1 h1 => h d l J Jx W1 (below_seq hb h1)

def CallInv (B lo : Nat) (I : Nat → List (List Int) → World → Prop) : Prop :=
 ∀ hi pre A D row, I hi pre A → A.grownBy D row → (∀ r, row = some r → (lo ≤ r ∧ r < hi) ∨ (B ≤ r ∧ ∃ o : Obj, A.heap[r]? = some o ∧ o.isCells = false)) → I hi pre D
theorem CallInv.put {B lo : Nat} {I : Nat → List (List Int) → World → Prop} (h : CallInv B lo I) {hi : Nat} {pre : List (List Int)} {A : World} {l : Nat} {o : Obj} (o' : Obj) (hi' : I hi pre A) (hB : B ≤ l) (hl : A.heap[l]? = some o) (ho : o.isCells = false) : I hi pre (A.putObj l o') :=
 h hi pre A _ (some l) hi' (grownBy_putObj' A l o') (fun r e => by cases e; exact Or.inr ⟨hB, o, hl, ho⟩)

theorem keeps_low {A D : World} {row : Option Nat} {lo k : Nat} {o : Obj} (hg : A.grownBy D row) (hr : ∀ r, row = some r → lo ≤ r) (hk : k < lo) (h : A.heap[k]? = some o) : D.heap[k]? = some o :=
 (hg.block k (heap_lt h) (fun e => by have := hr k e.symm; omega)).trans h

end Go.Proofs.Ytpcajacekmidbaa

namespace Go.Proofs.Ytpcajacekmidbaa
open Go.RowKit Go.Shelf
set_option linter.unusedVariables false
set_option maxRecDepth 100000
set_option linter.unusedSimpArgs false
attribute [local go_sem] Oper.semAt_some

end Go.Proofs.Ytpcajacekmidbaa

namespace Go.Proofs.Ytpcajacekmidbaa
open Go.RowKit Go.Shelf
set_option linter.unusedVariables false
set_option maxRecDepth 100000
set_option linter.unusedSimpArgs false

structure RowsI (w : World) (B : Nat) (ws : List Value) (rows : List (List Int)) : Prop where
 len : ws.length = rows.length
 own : ∀ i, i < rows.length → OwnsI w B (ws.getD i (.slice none 0 0)) (rows.getD i [])
 apart : ∀ i j, i < j → j < rows.length → ∀ k, (ws.getD i (.slice none 0 0)).ownBlock = some k → (ws.getD j (.slice none 0 0)).ownBlock ≠ some k

def OwnsSS (w : World) (B : Nat) (v : Value) (rows : List (List Int)) : Prop := ∃ ws, w.ownsRow B 26 1 v rows.length ws ∧ RowsI w B ws rows

theorem infoSl : (Try.prog.info? 26).map (fun i => (i.zero, i.size, i.bytes)) = some (some (.slice none 0 0), 1, 24) := by kernel_rfl

theorem RowsI.nil (w : World) (B : Nat) : RowsI w B [] [] := ⟨rfl, fun i h => absurd h (Nat.not_lt_zero i), fun i j _ h => absurd h (Nat.not_lt_zero j)⟩
theorem OwnsSS.nil (w : World) (B : Nat) : OwnsSS w B (.slice none 0 0) [] := ⟨[], World.ownsRow_nil _ _ _ _, RowsI.nil w B⟩
theorem RowsI.lower {w : World} {B B' : Nat} {ws : List Value} {rows : List (List Int)} (h : RowsI w B ws rows) (hB : B' ≤ B) : RowsI w B' ws rows := ⟨h.len, fun i hi => (h.own i hi).lower hB, h.apart⟩
theorem ownsRow_lower {w : World} {B B' n size : Nat} {e : TypeId} {v : Value} {xs : List Value} (h : w.ownsRow B e size v n xs) (hB : B' ≤ B) : w.ownsRow B' e size v n xs := by
 refine ⟨h.1, ?_⟩
 rcases h.2 with hn | ⟨g, cap, cur, hv, hb, r⟩
 · exact .inl hn
 · exact .inr ⟨g, cap, cur, hv, Nat.le_trans hB hb, r⟩
theorem OwnsSS.lower {w : World} {B B' : Nat} {v : Value} {rows : List (List Int)} (h : OwnsSS w B v rows) (hB : B' ≤ B) : OwnsSS w B' v rows := by
 obtain ⟨ws, h1, h2⟩ := h
 exact ⟨ws, ownsRow_lower h1 hB, h2.lower hB⟩
theorem RowsI.kept {w w' : World} {B : Nat} {ws : List Value} {rows : List (List Int)} {row : Option Nat} (h : RowsI w B ws rows) (hg : w.grownBy w' row) (hr : ∀ i, i < rows.length → ∀ k, (ws.getD i (.slice none 0 0)).ownBlock = some k → row ≠ some k) : RowsI w' B ws rows :=
 ⟨h.len, fun i hi => World.ownsRow.kept (h.own i hi) hg (by
  cases hk : (ws.getD i (.slice none 0 0)).ownBlock with
  | none => exact Or.inl rfl
  | some k => exact Or.inr (fun e => hr i hi k hk e.symm)), h.apart⟩
theorem RowsI.below {w w' : World} {B : Nat} {ws : List Value} {rows : List (List Int)} (h : RowsI w B ws rows) (hb : Below w.heap.size w w') : RowsI w' B ws rows := ⟨h.len, fun i hi => (h.own i hi).below hb, h.apart⟩
theorem OwnsSS.below {w w' : World} {B : Nat} {v : Value} {rows : List (List Int)} (h : OwnsSS w B v rows) (hb : Below w.heap.size w w') : OwnsSS w' B v rows := by
 obtain ⟨ws, h1, h2⟩ := h
 refine ⟨ws, ?_, h2.below hb⟩
 exact h1.kept (grown_of_below hb none) (by cases v.ownBlock <;> simp)
theorem RowsI.snoc {w : World} {B : Nat} {ws : List Value} {rows : List (List Int)} {v : Value} {M : List Int} (h : RowsI w B ws rows) (ho : OwnsI w B v M) (hf : ∀ i, i < rows.length → ∀ k, (ws.getD i (.slice none 0 0)).ownBlock = some k → v.ownBlock ≠ some k) : RowsI w B (ws ++ [v]) (rows ++ [M]) := by
 have gl : ∀ i, i < rows.length → (ws ++ [v]).getD i (.slice none 0 0) = ws.getD i (.slice none 0 0) := fun i hi => by
  simp [List.getD, List.getElem?_append_left (show i < ws.length by rw [h.len]; exact hi)]
 have gr : ∀ i, i < rows.length → (rows ++ [M]).getD i [] = rows.getD i [] := fun i hi => by
  simp [List.getD, List.getElem?_append_left hi]
 have gv : (ws ++ [v]).getD rows.length (.slice none 0 0) = v := by rw [← h.len]; simp [List.getD]
 have gm : (rows ++ [M]).getD rows.length [] = M := by simp [List.getD]
 refine ⟨by simp [h.len], fun i hi => ?_, fun i j hij hj k hk => ?_⟩
 · rw [List.length_append, List.length_singleton] at hi
   by_cases e : i < rows.length
   · rw [gl i e, gr i e]; exact h.own i e
   · obtain rfl : i = rows.length := by omega
     rw [gv, gm]; exact ho
 · rw [List.length_append, List.length_singleton] at hj
   rw [gl i (by omega)] at hk
   by_cases e : j < rows.length
   · rw [gl j e]; exact h.apart i j hij e k hk
   · obtain rfl : j = rows.length := by omega
     rw [gv]; exact hf i hij k hk
theorem RowsI.block {w : World} {B : Nat} {ws : List Value} {rows : List (List Int)} (h : RowsI w B ws rows) {i k : Nat} (hi : i < rows.length) (hk : (ws.getD i (.slice none 0 0)).ownBlock = some k) : B ≤ k ∧ ∃ cs, w.heap[k]? = some (.cells cs 3 (0, 0)) := by
 have ho := h.own i hi
 refine ⟨(World.ownsRow.lt ho k hk).1, ?_⟩
 rcases ho.2 with ⟨e, _⟩ | ⟨g, cap, cur, e, _, hh, _⟩
 · rw [e] at hk; cases hk
 · rw [e] at hk
   obtain rfl : g = k := by simpa [Value.ownBlock] using hk
   exact ⟨cur, hh⟩
theorem row_block {w : World} {B n size k : Nat} {e : TypeId} {v : Value} {xs : List Value} (h : w.ownsRow B e size v n xs) (hk : v.ownBlock = some k) : ∃ cs, w.heap[k]? = some (.cells cs e (0, 0)) := by
 rcases h.2 with ⟨e, _⟩ | ⟨g, cap, cur, e, _, hh, _⟩
 · rw [e] at hk; cases hk
 · rw [e] at hk
   obtain rfl : g = k := by simpa [Value.ownBlock] using hk
   exact ⟨cur, hh⟩

theorem OwnsSS.put {w : World} {B : Nat} {v : Value} {rows : List (List Int)} (h : OwnsSS w B v rows) {D : Nat} {o : Obj} (o' : Obj) (hd : w.heap[D]? = some o) (ho : o.isCells = false) : OwnsSS (w.putObj D o') B v rows := by
 obtain ⟨ws, h1, h2⟩ := h
 have hne : ∀ k, (∃ (cs : Array Value) (t : TypeId), w.heap[k]? = some (.cells cs t (0, 0))) → some D ≠ some k := by
  rintro k ⟨cs, t, hc⟩ e
  cases e
  rw [hd] at hc; cases hc; cases ho
 refine ⟨ws, h1.kept (grownBy_putObj' w D o') ?_, h2.kept (grownBy_putObj' w D o') (fun i hi k hk => hne k ((h2.block hi hk).2.imp fun cs h => ⟨_, h⟩))⟩
 cases hk : v.ownBlock with
 | none => exact Or.inl rfl
 | some k => exact Or.inr (fun e => hne k ((row_block h1 hk).imp fun cs h => ⟨_, h⟩) e.symm)
theorem OwnsSS.keptBy {w w' : World} {B : Nat} {v : Value} {rows : List (List Int)} {row : Option Nat} (h : OwnsSS w B v rows) (hg : w.grownBy w' row) (hr : ∀ k, row = some k → k < B) : OwnsSS w' B v rows := by
 obtain ⟨ws, h1, h2⟩ := h
 refine ⟨ws, h1.kept hg ?_, h2.kept hg (fun i hi k hk e => by
  have h3 := (h2.block hi hk).1
  have := hr k e
  omega)⟩
 cases hk : v.ownBlock with
 | none => exact Or.inl rfl
 | some k => exact Or.inr (fun e => by
    have h3 := (World.ownsRow.lt h1 k hk).1
    have := hr k e.symm
    omega)
theorem not_same {w : World} {k : Nat} {cs ds : Array Value} {t u : TypeId} (h : w.heap[k]? = some (.cells cs t (0, 0))) (h2 : w.heap[k]? = some (.cells ds u (0, 0))) (hne : t ≠ u) : False := by
 rw [h] at h2; cases h2; exact hne rfl
end Go.Proofs.Ytpcajacekmidbaa

namespace Go.Proofs.Ytpcajacekmidbaa
open Go.RowKit
set_option linter.unusedVariables false
set_option maxRecDepth 100000
set_option linter.unusedSimpArgs false

theorem countP_none {l : List Nat} {p : Nat → Bool} (h : ∀ x ∈ l, p x = false) : l.countP p = 0 := by
 rw [List.countP_eq_zero]
 intro x hx; rw [h x hx]; exact Bool.false_ne_true
theorem count_shift {p q : Nat → Bool} {n d : Nat} (h1 : ∀ k, k + d < n → p k = q (k + d)) (h2 : ∀ k, k < n → n ≤ k + d → p k = false) (h3 : ∀ j, j < d → j < n → q j = false) : (List.range n).countP p = (List.range n).countP q := by
 by_cases hd : d ≤ n
 · obtain ⟨m, rfl⟩ : ∃ m, n = m + d := ⟨n - d, by omega⟩
   have e1 : (List.range (m + d)).countP p = (List.range m).countP p := by
    rw [List.range_add, List.countP_append, List.countP_map]
    rw [countP_none (l := List.range d) (fun x hx => by have := List.mem_range.1 hx; exact h2 (m + x) (by omega) (by omega))]
    omega
   have e2 : (List.range (m + d)).countP q = (List.range m).countP (fun k => q (k + d)) := by
    rw [Nat.add_comm m d, List.range_add, List.countP_append, List.countP_map]
    rw [countP_none (l := List.range d) (fun x hx => by have := List.mem_range.1 hx; exact h3 x this (by omega))]
    rw [Nat.zero_add]
    apply List.countP_congr
    intro x _
    simp [Nat.add_comm]
   rw [e1, e2]
   apply List.countP_congr
   intro x hx
   rw [h1 x (by have := List.mem_range.1 hx; omega)]
 · rw [countP_none (fun x hx => h2 x (List.mem_range.1 hx) (by have := List.mem_range.1 hx; omega)), countP_none (fun x hx => h3 x (by have := List.mem_range.1 hx; omega) (List.mem_range.1 hx))]

theorem step_one {W T k o : Int} (h : stepI W T k 1 = o) (h0 : 0 ≤ o) : o = k + 1 := by
 unfold stepI at h; simp at h; split at h <;> omega
theorem step_two {W T k o : Int} (h : stepI W T k 2 = o) (h0 : 0 ≤ o) : o = k + W := by
 unfold stepI at h; simp at h; split at h <;> omega
theorem step_three {W T k o : Int} (h : stepI W T k 3 = o) (h0 : 0 ≤ o) : o = k - 1 := by
 unfold stepI at h; simp at h; split at h <;> omega
theorem step_four {W T k o : Int} (h : stepI W T k 4 = o) (h0 : 0 ≤ o) : o = k - W := by
 unfold stepI at h; simp at h; split at h <;> omega
theorem count_ends {W T : Int} {xs : List Bool} {L : List Int} (h : lok W T xs L = true) : wayN L 1 L.length = wayN L 3 L.length ∧ wayN L 2 L.length = wayN L 4 L.length := by
 obtain ⟨hr, hlen, _⟩ := lok_rv h
 obtain ⟨v1, v2, v3, v4, v5, _⟩ := rv_true hr
 obtain ⟨Wn, rfl⟩ : ∃ Wn : Nat, W = Wn := ⟨W.toNat, by omega⟩
 have go : ∀ (v u : Int) (d : Nat), backI v = u → backI u = v → v ≠ 0 → u ≠ 0 → (∀ k o : Int, stepI Wn T k v = o → 0 ≤ o → o = k + d) → (∀ k o : Int, stepI Wn T k u = o → 0 ≤ o → o = k - d) → wayN L v L.length = wayN L u L.length := by
  intro v u d hb hb' hv0 hu0 s1 s2
  unfold wayN
  refine count_shift (d := d) (fun k hk => ?_) (fun k hk hkd => ?_) (fun j hj hjn => ?_)
  · apply Bool.eq_iff_iff.2
    simp only [beq_iff_eq]
    constructor
    · intro e
      obtain ⟨o, hs, ho, _, _, _, hbk, _⟩ := lok_at h (k := k) (by omega) (by rw [e]; exact hv0)
      rw [e] at hs hbk
      have := s1 _ _ hs (by omega)
      obtain rfl : o = k + d := by omega
      rw [hbk, hb]
    · intro e
      obtain ⟨o, hs, ho, _, _, _, hbk, _⟩ := lok_at h (k := k + d) (by omega) (by rw [e]; exact hu0)
      rw [e] at hs hbk
      have := s2 _ _ hs (by omega)
      obtain rfl : o = k := by omega
      rw [hbk, hb']
  · apply Bool.eq_false_iff.2
    simp only [ne_eq, beq_iff_eq]
    intro e
    obtain ⟨o, hs, ho, _⟩ := lok_at h (k := k) (by omega) (by rw [e]; exact hv0)
    rw [e] at hs
    have := s1 _ _ hs (by omega)
    omega
  · apply Bool.eq_false_iff.2
    simp only [ne_eq, beq_iff_eq]
    intro e
    obtain ⟨o, hs, ho, _⟩ := lok_at h (k := j) (by omega) (by rw [e]; exact hu0)
    rw [e] at hs
    have := s2 _ _ hs (by omega)
    omega
 constructor
 · exact go 1 3 1 rfl rfl (by decide) (by decide) (fun k o hs h0 => step_one hs h0) (fun k o hs h0 => step_three hs h0)
 · exact go 2 4 Wn rfl rfl (by decide) (by decide) (fun k o hs h0 => step_two hs h0) (fun k o hs h0 => step_four hs h0)
def nzN (L : List Int) (k : Nat) : Nat := (List.range k).countP fun i => L.getD i 0 != 0
theorem nzN_succ (L : List Int) (k : Nat) : nzN L (k + 1) = nzN L k + if L.getD k 0 != 0 then 1 else 0 := by
 unfold nzN
 rw [List.range_succ, List.countP_append]
 simp [List.countP_cons]
theorem nz_ways {W T : Int} {xs : List Bool} {L : List Int} (h : lok W T xs L = true) : ∀ k, k ≤ L.length → nzN L k = wayN L 1 k + wayN L 2 k + wayN L 3 k + wayN L 4 k
 | 0, _ => rfl
 | k + 1, hk => by
   rw [nzN_succ, wayN_succ, wayN_succ, wayN_succ, wayN_succ, nz_ways h k (by omega)]
   have hw := lok_way h (k := k) (by omega)
   have hc : L.getD k 0 = 0 ∨ L.getD k 0 = 1 ∨ L.getD k 0 = 2 ∨ L.getD k 0 = 3 ∨ L.getD k 0 = 4 := by omega
   rcases hc with e | e | e | e | e <;> rw [e] <;> simp <;> omega
theorem nz_twice {W T : Int} {xs : List Bool} {L : List Int} (h : lok W T xs L = true) : (nzN L L.length : Int) = 2 * laidN W T xs L := by
 have e := nz_ways h L.length (Nat.le_refl _)
 obtain ⟨a, b⟩ := count_ends h
 unfold laidN
 rw [if_pos h]
 omega
theorem nz_set {L : List Int} {k o : Nat} {v u : Int} (hk : k < L.length) (ho : o < L.length) (hne : o ≠ k) (hv : v ≠ 0) (hu : u ≠ 0) (h0 : L.getD k 0 = 0) (h1 : L.getD o 0 = 0) : nzN ((L.set k v).set o u) L.length = nzN L L.length + 2 := by
 have step : ∀ (M : List Int) (c : Nat) (x : Int), c < M.length → x ≠ 0 → M.getD c 0 = 0 → ∀ n, nzN (M.set c x) n = nzN M n + if c < n then 1 else 0 := by
  intro M c x hc hx hz n
  induction n with
  | zero => rfl
  | succ n ih =>
    rw [nzN_succ, nzN_succ, ih]
    by_cases e : n = c
    · subst e
      have e1 : (M.set n x).getD n 0 = x := by rw [getD_set1, if_pos ⟨rfl, hc⟩]
      rw [e1, hz]; simp [hx]
    · have e1 : (M.set c x).getD n 0 = M.getD n 0 := by rw [getD_set1, if_neg (fun q => e q.1)]
      rw [e1]
      by_cases h2 : c < n
      · rw [if_pos h2, if_pos (show c < n + 1 by omega)]; omega
      · rw [if_neg h2, if_neg (show ¬ c < n + 1 by omega)]; omega
 rw [step (L.set k v) o u (by simpa using ho) hu (by rw [getD_set1, if_neg (fun q => hne q.1)]; exact h1), step L k v hk hv h0, if_pos hk, if_pos ho]
theorem laid_more {W T : Int} {xs : List Bool} {L : List Int} {k way : Int} (h : lok W T xs L = true) (hc : canLay W T xs L k way = true) : laidN W T xs (laidL W T xs L k way) = laidN W T xs L + 1 := by
 obtain ⟨hr, hlen, _⟩ := lok_rv h
 obtain ⟨kn, o, rfl, hk, ho, hne, hs, hf, hfo, w1, w4, hb, e⟩ := canLay_at hr hlen hc
 have h2 := nz_twice (lok_laid h hc)
 have h1 := nz_twice h
 have hn := nz_set (L := L) (k := kn) (o := o) (v := way) (u := backI way) (by omega) (by omega) hne (by omega) (back_nz (by omega)) (free_zero hf).2 (free_zero hfo).2
 rw [laidL_len] at h2
 rw [e] at h2 ⊢
 rw [hn] at h2
 omega
end Go.Proofs.Ytpcajacekmidbaa

namespace Go.Proofs.Ytpcajacekmidbaa
set_option linter.unusedVariables false
set_option maxRecDepth 100000
set_option linter.unusedSimpArgs false

def sumN (N : Nat) (f : Nat → Nat) : Nat := ((List.range N).map f).sum
theorem sumN_succ (N : Nat) (f : Nat → Nat) : sumN (N + 1) f = sumN N f + f N := by
 unfold sumN; rw [List.range_succ, List.map_append, List.sum_append]; simp
theorem sumN_congr {N : Nat} {f g : Nat → Nat} (h : ∀ i, i < N → f i = g i) : sumN N f = sumN N g := by
 unfold sumN; rw [List.map_congr_left fun i hi => h i (List.mem_range.1 hi)]
theorem sumN_add (N : Nat) (f g : Nat → Nat) : sumN N (fun i => f i + g i) = sumN N f + sumN N g := by
 induction N with
 | zero => rfl
 | succ N ih => rw [sumN_succ, sumN_succ, sumN_succ, ih]; omega
theorem countP_sumN (N : Nat) (p : Nat → Bool) : (List.range N).countP p = sumN N (fun i => if p i then 1 else 0) := by
 induction N with
 | zero => rfl
 | succ N ih => rw [sumN_succ, List.range_succ, List.countP_append, ih]; simp [List.countP_cons]
end Go.Proofs.Ytpcajacekmidbaa

namespace Go.Proofs.Ytpcajacekmidbaa
open Go.RowKit
set_option linter.unusedVariables false
set_option maxRecDepth 100000
set_option linter.unusedSimpArgs false

end Go.Proofs.Ytpcajacekmidbaa

namespace Go.Proofs.Ytpcajacekmidbaa
set_option linter.unusedVariables false
set_option maxRecDepth 100000
set_option linter.unusedSimpArgs false

def b2n (b : Bool) : Nat := if b then 1 else 0
theorem cnt_sum (xs : List Bool) : cnt xs = sumN xs.length fun i => b2n (xs.getD i false) := by
 have h : ∀ k, k ≤ xs.length → cnt (xs.take k) = sumN k fun i => b2n (xs.getD i false) := by
  intro k hk
  induction k with
  | zero => rfl
  | succ k ih =>
    rw [sumN_succ, ← ih (by omega), cnt_take xs k (by omega)]; rfl
 have := h xs.length (Nat.le_refl _)
 rwa [List.take_length] at this
theorem list_ext {xs ys : List Bool} (h : xs.length = ys.length) (he : ∀ i, i < xs.length → xs.getD i false = ys.getD i false) : xs = ys := by
 apply List.ext_getElem h
 intro i h1 h2
 have := he i h1
 simpa [h1, h2] using this

variable {W T : Nat} {xs : List Bool}
end Go.Proofs.Ytpcajacekmidbaa
