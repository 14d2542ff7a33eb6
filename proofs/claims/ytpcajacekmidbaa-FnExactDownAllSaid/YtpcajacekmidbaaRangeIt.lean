/- All tilings with the dominoes of a list: what the iterator over them yields, and what lies in the heap for it. Merged of: IterM, Iter, RangeIt. -/
import Derived.Test.YtpcajacekmidbaaComp
import Derived.Test.YtpcajacekmidbaaLayOne
import Derived.Test.YtpcajacekmidbaaCloneI
import Derived.Lib.Hide
import Derived.RangeFuncKeeps
import Derived.RangeFuncBound
import Derived.RangeFuncLeaves
import Derived.Shelf.Abstract
import Derived.Shelf.RegionOpen
import Derived.WalkKit
import Derived.OwnWalkIn
import Derived.TacticsInMore
import Derived.LoopNIn
import Derived.LoopIn
import Derived.RangeFuncFrom
import Derived.RangeFuncBox
import Derived.Laws.EntriesVeiled
namespace Go.Proofs.Ytpcajacekmidbaa
open Go.RowKit
set_option linter.unusedVariables false
set_option maxRecDepth 100000
set_option linter.unusedSimpArgs false

/-- All tilings with the dominoes of a list, in order; f is more than there are free cells. -/
def allL (W T : Int) (xs : List Bool) : Nat → List Int → List (List Int)
  | 0, _ => []
  | f + 1, L =>
    if firstI xs L 0 xs.length < 0 then [L]
    else (if canLay W T xs L (firstI xs L 0 xs.length) 1 = true then allL W T xs f (laidL W T xs L (firstI xs L 0 xs.length) 1) else []) ++
      (if canLay W T xs L (firstI xs L 0 xs.length) 2 = true then allL W T xs f (laidL W T xs L (firstI xs L 0 xs.length) 2) else [])
theorem allL_done {W T : Int} {xs : List Bool} {f : Nat} {L : List Int} {c : Int} (h : firstI xs L 0 xs.length = c) (h0 : c < 0) : allL W T xs (f + 1) L = [L] := by
  subst h
  have e : allL W T xs (f + 1) L = if firstI xs L 0 xs.length < 0 then [L]
    else (if canLay W T xs L (firstI xs L 0 xs.length) 1 = true then allL W T xs f (laidL W T xs L (firstI xs L 0 xs.length) 1) else []) ++
      (if canLay W T xs L (firstI xs L 0 xs.length) 2 = true then allL W T xs f (laidL W T xs L (firstI xs L 0 xs.length) 2) else []) := rfl
  rw [e, if_pos h0]
theorem allL_succ {W T : Int} {xs : List Bool} {f : Nat} {L : List Int} {c : Int} (h : firstI xs L 0 xs.length = c) (h0 : ¬ c < 0) : allL W T xs (f + 1) L =
    (if canLay W T xs L c 1 = true then allL W T xs f (laidL W T xs L c 1) else []) ++ (if canLay W T xs L c 2 = true then allL W T xs f (laidL W T xs L c 2) else []) := by
  subst h
  have e : allL W T xs (f + 1) L = if firstI xs L 0 xs.length < 0 then [L]
    else (if canLay W T xs L (firstI xs L 0 xs.length) 1 = true then allL W T xs f (laidL W T xs L (firstI xs L 0 xs.length) 1) else []) ++
      (if canLay W T xs L (firstI xs L 0 xs.length) 2 = true then allL W T xs f (laidL W T xs L (firstI xs L 0 xs.length) 2) else []) := rfl
  rw [e, if_neg h0]
theorem layF_of {W T : Int} {xs : List Bool} {L : List Int} {k way : Int} (hl : lok W T xs L = true) : layF W T xs L k way = (laidL W T xs L k way, canLay W T xs L k way) := by
  unfold layF; rw [if_pos hl]
theorem free_drop' {W T : Int} {xs : List Bool} {L : List Int} {k way : Int} (hw : way = 1 ∨ way = 2) (hl : lok W T xs L = true) (hc : canLay W T xs L k way = true) : freeN xs (laidL W T xs L k way) < freeN xs L := by
  have := free_drop (W := W) (T := T) (xs := xs) (L := L) (k := k) hw (by rw [layF_of hl]; exact hc)
  rwa [layF_of hl] at this
theorem NoFree.laid {W T : Int} {xs : List Bool} {L : List Int} {c : Nat} {way : Int} (hl : lok W T xs L = true) (hw : way = 1 ∨ way = 2) (h : NoFree xs L 0 c) (hc : canLay W T xs L c way = true) : NoFree xs (laidL W T xs L c way) 0 (c + 1) := by
  obtain ⟨hr, hlen, _⟩ := lok_rv hl
  obtain ⟨v1, v2, v3, v4, v5, _⟩ := rv_true hr
  have hc0 := hc
  unfold canLay at hc
  simp only [Bool.and_eq_true, decide_eq_true_eq] at hc
  obtain ⟨⟨h0, h1⟩, h2⟩ := hc
  obtain ⟨k0, k1, o1, ok, hway⟩ := cellB_bd (W := W) (T := T) (n := xs.length) v1 v5 h0
  obtain ⟨on, ho⟩ := Int.eq_ofNat_of_zero_le h0
  rw [ho] at h2 o1 ok
  simp only [Int.toNat_natCast] at h1 h2
  have hb : backI way ≠ 0 := by unfold backI; omega
  have hw0 : way ≠ 0 := by omega
  intro j _ hj
  unfold laidL
  rw [if_pos hc0, ho]
  simp only [Int.toNat_natCast]
  unfold freeB
  rw [getD_set1, getD_set1]
  by_cases e1 : j = on ∧ on < (L.set c way).length
  · rw [if_pos e1]; simp [hb]
  · rw [if_neg e1]
    by_cases e2 : j = c ∧ c < L.length
    · rw [if_pos e2]; simp [hw0]
    · rw [if_neg e2]
      have hjc : j < c := by
        rcases Nat.lt_or_ge j c with h' | h'
        · exact h'
        · exact absurd ⟨by omega, by omega⟩ e2
      exact h j (Nat.zero_le _) hjc

/-- The blocks of S lie as they lay. -/
structure ItKeeps (S : Nat → Prop) (A B : World) : Prop where
  size : A.heap.size ≤ B.heap.size
  same : ∀ k, S k → k < A.heap.size → B.heap[k]? = A.heap[k]?
theorem ItKeeps.refl (S : Nat → Prop) (A : World) : ItKeeps S A A := ⟨Nat.le_refl _, fun _ _ _ => rfl⟩
theorem ItKeeps.trans {S : Nat → Prop} {A B C : World} (h : ItKeeps S A B) (k : ItKeeps S B C) : ItKeeps S A C :=
  ⟨Nat.le_trans h.size k.size, fun i hi hl => (k.same i hi (Nat.lt_of_lt_of_le hl h.size)).trans (h.same i hi hl)⟩
theorem ItKeeps.of_below {S : Nat → Prop} {A B : World} (h : Below A.heap.size A B) : ItKeeps S A B := ⟨h.size, fun k _ hk => h.block k hk⟩
theorem ItKeeps.heap {S : Nat → Prop} {A B : World} (h : ItKeeps S A B) {b : Nat} {o : Obj} (hb : S b) (hh : A.heap[b]? = some o) : B.heap[b]? = some o := (h.same b hb (heap_lt hh)).trans hh
theorem ItKeeps.bools {S : Nat → Prop} {A B : World} (h : ItKeeps S A B) {a : Option Addr} {xs : List Bool} (hS : ∀ b off, a = some ⟨b, off, none⟩ → S b) (hx : BoolsAt A a xs) : BoolsAt B a xs := by
  intro i hi
  obtain ⟨b, off, rfl, hc⟩ := hx i hi
  refine ⟨b, off, rfl, ?_⟩
  have hlt := World.block_lt_of_cell? A _ hc
  exact (World.cell?_of_block (w := A) (w' := B) (a := ⟨b, off + i, none⟩) (h.same b (hS b off rfl) hlt)).trans hc
theorem ItKeeps.ints {S : Nat → Prop} {A B : World} (h : ItKeeps S A B) {g n cap b : Nat} {L : List Int} (hS : S g) (ho : OwnsI A b (.slice (some ⟨g, 0, none⟩) n cap) L) : OwnsI B b (.slice (some ⟨g, 0, none⟩) n cap) L := by
  refine ⟨ho.1, ?_⟩
  rcases ho.2 with hn | ⟨g', cap', cur, hv, hb, hh, r⟩
  · exact .inl hn
  · have e : g' = g := by simp only [Value.slice.injEq, Option.some.injEq, Addr.mk.injEq] at hv; exact hv.1.1.symm
    exact .inr ⟨g', cap', cur, hv, hb, by rw [h.same g' (by rw [e]; exact hS) (heap_lt hh)]; exact hh, r⟩

/-- The blocks that lie for the iterator are among those of S. -/
structure ItS (S : Nat → Prop) (rb wx yb fb wb : Nat) (a : Option Addr) : Prop where
  reg : S rb
  bools : ∀ b off, a = some ⟨b, off, none⟩ → S b
  work : S wx
  yld : S yb
  fn : S fb
  list : S wb
theorem heap_otherT {w w' : World} {b g : Nat} {cs ds : Array Value} {t u : TypeId} {fr : Nat × Nat} (h : w.heap[b]? = some (.cells cs t (0, 0))) (h2 : w.heap[g]? = some (.cells ds u fr)) (hne : t ≠ u) (hg : w.grownBy w' (some g)) : w'.heap[b]? = some (.cells cs t (0, 0)) := by
  refine (hg.block b (heap_lt h) ?_).trans h
  intro e; cases e
  rw [h] at h2; cases h2; exact hne rfl
theorem OwnsI.block {w : World} {B g n cap : Nat} {L : List Int} (h : OwnsI w B (.slice (some ⟨g, 0, none⟩) n cap) L) : ∃ cs, w.heap[g]? = some (.cells cs 3 (0, 0)) := by
  rcases h.2 with ⟨hn, _⟩ | ⟨g', cap', cur, hv, hb, hh, r⟩
  · cases hn
  · have e : g = g' := by simp only [Value.slice.injEq, Option.some.injEq, Addr.mk.injEq] at hv; exact hv.1.1
    exact ⟨cur, by rw [e]; exact hh⟩
theorem cell1 {w : World} {b : Nat} {v : Value} {t : TypeId} (h : w.heap[b]? = some (.cells #[v] t (0, 0))) : w.cell? ⟨b, 0, none⟩ = some v := by simp [World.cell?, h]

end Go.Proofs.Ytpcajacekmidbaa

namespace Go.Proofs.Ytpcajacekmidbaa
open Go.RowKit Go.Shelf
set_option linter.unusedVariables false
set_option maxRecDepth 100000
set_option linter.unusedSimpArgs false
attribute [local go_sem] Oper.semAt_some

theorem room_of_none' {F : Fence} (hd : F.depth = none) (k : Nat) : F.room k := fun d h => by rw [hd] at h; cases h
theorem RoundIn.anyDepth' {F : Fence} (hd : F.depth = none) {m m' : Nat} {P : Program} {l : Nat} {f : FuncId} {tmps : Array Value} {assign body : Code} {w : World} {R : Ending → World → Prop}
    (h : RoundIn F m P l f tmps assign body w R) : RoundIn F m' P l f tmps assign body w R := ⟨h.1, fun c cs _ => h.2 c cs (room_of_none' hd _)⟩
theorem YieldAt.anyDepth' {F : Fence} (hd : F.depth = none) {m : Nat} (m' : Nat) {P : Program} {l : Nat} {args : Array Value} {W : World} {R : Ending → World → Prop} (h : YieldAt F m P l args W R) : YieldAt F m' P l args W R := by
  obtain ⟨fn, tmps, assign, body, hy, hR⟩ := h
  exact ⟨fn, tmps, assign, body, hy, RoundIn.anyDepth' hd hR⟩

/-- How a part of the walk ends: it goes on, all of them having come; or it is to stop, some having come. -/
def ItPost (J Jx : List (List Int) → World → Prop) (pre all : List (List Int)) (b : Bool) (W' : World) : Prop :=
  (b = true → J (pre ++ all) W') ∧ (b = false → ∃ q, q <+: all ∧ q ≠ [] ∧ Jx (pre ++ q) W')

def partsA (A1 A2 : List (List Int)) : Nat → List (List Int)
  | 0 => []
  | 1 => A1
  | _ => A1 ++ A2
theorem parts_pre0 {A1 A2 q : List (List Int)} (h : q <+: A1) : partsA A1 A2 0 ++ q <+: A1 ++ A2 := by
  show [] ++ q <+: _
  rw [List.nil_append]
  exact h.trans (List.prefix_append _ _)
theorem parts_pre1 {A1 A2 q : List (List Int)} (h : q <+: A2) : partsA A1 A2 1 ++ q <+: A1 ++ A2 := (List.prefix_append_right_inj A1).2 h

end Go.Proofs.Ytpcajacekmidbaa

namespace Go.Proofs.Ytpcajacekmidbaa
open Go.RowKit Go.Shelf
set_option linter.unusedVariables false
set_option maxRecDepth 100000
set_option linter.unusedSimpArgs false

/-- An invariant that bears new blocks, and turns of the blocks from lo to hi. -/
def ItInv (lo : Nat) (J : Nat → List (List Int) → World → Prop) : Prop :=
  ∀ hi pre A D row, J hi pre A → A.grownBy D row → (∀ r, row = some r → lo ≤ r ∧ r < hi) → J hi pre D

/-- What an iterator over lists does: all of 'all' come, in order, as lists of their own; its own blocks lie from where its call began up to hi; the blocks of S0 it only reads. -/
def SeqIt (P : Program) (g : Nat) (lb : Array Value) (S0 : Nat → Prop) (all : List (List Int)) (ok : List Int → Prop) (w0 : World) : Prop :=
  ∀ (d l : Nat) (J Jx : Nat → List (List Int) → World → Prop) (W1 : World), Below w0.heap.size w0 W1 → ItInv W1.heap.size J → ItInv W1.heap.size Jx →
    (∀ W2, Below W1.heap.size W1 W2 → J W2.heap.size [] W2) →
    (∀ m hi pre M A A' v, J hi pre A → W1.heap.size ≤ hi → hi ≤ A.heap.size → Below A.heap.size A A' → OwnsI A' A.heap.size v M → ok M → pre.length < all.length → YieldAt Fence.wide m P l #[v] A' fun e W' =>
      ∃ b : Bool, e = .returned (.bool b) ∧ ItPost (J hi) (Jx hi) pre [M] b W' ∧ ItKeeps (fun k => S0 k ∨ W1.heap.size ≤ k ∧ k < hi) A' W') →
    CallsIn Fence.wide d P g (#[.func (.yield l) #[] #[]] ++ lb) W1 fun e W' => (∃ v, e = .returned v) ∧ ∃ hi b, W1.heap.size ≤ hi ∧ hi ≤ W'.heap.size ∧ ItPost (J hi) (Jx hi) [] all b W'

theorem SeqIt.later {P : Program} {g : Nat} {lb : Array Value} {S0 : Nat → Prop} {all : List (List Int)} {ok : List Int → Prop} {w w' : World} (h : SeqIt P g lb S0 all ok w) (hb : Below w.heap.size w w') : SeqIt P g lb S0 all ok w' :=
  fun d l J Jx W1 h1 => h d l J Jx W1 (below_seq hb h1)

/-- How a round's body may end. -/
def ItEnd (S : Nat → Prop) (Ix : List (List Int) → World → Prop) (I : List (List Int) → World → Prop) (pre : List (List Int)) (W : World) : Exit → Act → World → Prop
  | .normal, _, W' => KeepsOthers W W' ∧ ItKeeps S W W' ∧ I pre W'
  | .ret, _, W' => KeepsOthers W W' ∧ ItKeeps S W W' ∧ Ix pre W'
  | _, _, _ => False

/-- The caller's invariant bears what the statement and the iterator do: lo is where the iterator's blocks begin, B where the statement's begin. -/
def CallInv (B lo : Nat) (I : Nat → List (List Int) → World → Prop) : Prop :=
  ∀ hi pre A D row, I hi pre A → A.grownBy D row → (∀ r, row = some r → (lo ≤ r ∧ r < hi) ∨ (B ≤ r ∧ ∃ o : Obj, A.heap[r]? = some o ∧ o.isCells = false)) → I hi pre D
theorem CallInv.put {B lo : Nat} {I : Nat → List (List Int) → World → Prop} (h : CallInv B lo I) {hi : Nat} {pre : List (List Int)} {A : World} {l : Nat} {o : Obj} (o' : Obj) (hi' : I hi pre A) (hB : B ≤ l) (hl : A.heap[l]? = some o) (ho : o.isCells = false) : I hi pre (A.putObj l o') :=
  h hi pre A _ (some l) hi' (grownBy_putObj' A l o') (fun r e => by cases e; exact Or.inr ⟨hB, o, hl, ho⟩)

/-- A block that is no cells lies on where the blocks from lo on, cells all of them, are turned. -/
theorem keeps_low {A D : World} {row : Option Nat} {lo k : Nat} {o : Obj} (hg : A.grownBy D row) (hr : ∀ r, row = some r → lo ≤ r) (hk : k < lo) (h : A.heap[k]? = some o) : D.heap[k]? = some o :=
  (hg.block k (heap_lt h) (fun e => by have := hr k e.symm; omega)).trans h

theorem wp_range_it {P : Program} {n gf : Nat} {lb : Array Value} {g : Operand} {p : Tmp} {assign body : Code} {Q : Exit → Act → World → Prop} {a : Act} {w w0 : World} {S0 : Nat → Prop} {all : List (List Int)} {ok : List Int → Prop}
    (hg : a.eval g = .func (.func gf) #[] lb) (eg : ∀ args w, (callFunc gf args).run P w = .ok (.enter gf args) w) (hseq : SeqIt P gf lb S0 all ok w0) (hb0 : Below w0.heap.size w0 w) (hS0 : ∀ k, S0 k → k < w.heap.size)
    (I Ix : Nat → List (List Int) → World → Prop) (hI : CallInv w.heap.size (w.heap.size + 2) I) (hIx : CallInv w.heap.size (w.heap.size + 2) Ix)
    (h0 : ∀ W2, Below w.heap.size w W2 → w.heap.size + 2 ≤ W2.heap.size → I W2.heap.size [] W2) (a₁ : Value → Act)
    (hassign : ∀ (l : Nat) (v : Value) (W : World) (K : Act → World → Prop), K (a₁ v) W → assign.wpIn (Fence.wide.inRound l) n P (Exit.then K (fun _ _ _ => False)) { tmps := a.tmps.setIfInBounds p v, defers := [] } W)
    (hbody : ∀ (l hi : Nat) (pre : List (List Int)) (M : List Int) (v : Value) (A W : World), I hi pre A → w.heap.size + 2 ≤ hi → hi ≤ A.heap.size → A.grownBy W (some l) → w.heap.size ≤ l → (∃ o : Obj, A.heap[l]? = some o ∧ o.isCells = false) → OwnsI W A.heap.size v M → ok M → pre.length < all.length →
      body.wpIn (Fence.wide.inRound l) n P (ItEnd (fun k => S0 k ∨ w.heap.size + 2 ≤ k ∧ k < hi) (Ix hi) (I hi) (pre ++ [M]) W) (a₁ v) W)
    (hdone : ∀ (D hi : Nat) (W : World), w.heap.size ≤ D → I hi all W → W.heap[D]? = some (.deferred (some [])) → Q .normal { a with defers := { target := .collected D, args := #[] } :: a.defers } W)
    (hstop : ∀ (D hi : Nat) (pre : List (List Int)) (W : World), w.heap.size ≤ D → pre <+: all → pre ≠ [] → Ix hi pre W → W.heap[D]? = some (.deferred (some [])) → Code.ret.wpIn Fence.wide n P Q { a with defers := { target := .collected D, args := #[] } :: a.defers } W) :
    (Code.rangeFunc g #[p] assign body).wpIn Fence.wide n P Q a w := by
  refine wpIn_rangeFunc ?_
  intro fn hfn
  obtain ⟨rc, hrc⟩ : ∃ rc : LoopState → Option Code → Loop, rc = fun st pe => { state := st, pending := pe, fn, tmps := a.tmps, params := #[p], assign, body, defers := w.heap.size } := ⟨_, rfl⟩
  obtain ⟨b, hbw⟩ : ∃ b, b = w.heap.size := ⟨_, rfl⟩
  obtain ⟨V, hV⟩ : ∃ V, (w.alloc (.deferred (some []))).alloc (.loop (rc .ready none)) = V := ⟨_, rfl⟩
  have vsz : V.heap.size = b + 2 := by rw [← hV]; simp [hbw]
  have vbel : Below w.heap.size w V := by rw [← hV]; exact below2 w _ _
  have vd : V.heap[b]? = some (.deferred (some [])) := by rw [← hV, hbw]; exact heap_later (heap_new w _) (below1 _ _)
  have vl : V.heap[b + 1]? = some (.loop (rc .ready none)) := by rw [← hV, hbw]; exact heap_new2 w _ _
  refine ⟨b + 1, [{ target := .collected b, args := #[] }], V, { target := .fn (.func gf) lb, args := #[.func (.yield (b + 1)) #[] #[]] }, V, gf, #[.func (.yield (b + 1)) #[] #[]] ++ lb, V, ?_, ?_, fun _ _ => trivial, ?_, fun h => (by cases h), ?_⟩
  · rw [← hV, hrc, hbw]; exact run_enterLoop_outer _ _ _ _ _
  · simp only [resolve, hg]
    simp [go_sem]
  · simp [invoke, go_sem, eg]
  rw [← hbw] at hI hIx hS0 h0 hbody hdone hstop
  have lo : ∀ {row : Option Nat} {hi : Nat}, (∀ r, row = some r → V.heap.size ≤ r ∧ r < hi) → (∀ r, row = some r → b + 2 ≤ r ∧ r < hi) := fun h r e => by rw [← vsz]; exact h r e
  -- what holds between two rounds, with the two facts on the statement's own blocks
  have hcall := hseq (n - 1) (b + 1)
    (fun hi pre W => I hi pre W ∧ W.heap[b + 1]? = some (.loop (rc .ready none)) ∧ W.heap[b]? = some (.deferred (some [])))
    (fun hi pre W => Ix hi pre W ∧ W.heap[b + 1]? = some (.loop (rc .done (some .ret))) ∧ W.heap[b]? = some (.deferred (some [])))
    V (below_seq hb0 vbel)
    (fun hi pre A D row h hgr hr => ⟨hI hi pre A D row h.1 hgr (fun r e => Or.inl (lo hr r e)), keeps_low hgr (fun r e => (lo hr r e).1) (by omega) h.2.1, keeps_low hgr (fun r e => (lo hr r e).1) (by omega) h.2.2⟩)
    (fun hi pre A D row h hgr hr => ⟨hIx hi pre A D row h.1 hgr (fun r e => Or.inl (lo hr r e)), keeps_low hgr (fun r e => (lo hr r e).1) (by omega) h.2.1, keeps_low hgr (fun r e => (lo hr r e).1) (by omega) h.2.2⟩)
    (fun W2 h2 => ⟨h0 W2 (below_seq vbel h2 |>.mono (by rw [hbw]; exact Nat.le_refl _)) (by rw [← vsz]; exact h2.size), heap_later vl h2, heap_later vd h2⟩)
    ?rounds
  case rounds =>
    intro m hi pre M A A' v hJ hlo hhi hbel hown hok hpl
    obtain ⟨hi1, hl, hd⟩ := hJ
    rw [vsz] at hlo
    have hl' := heap_later hl hbel
    have hd' := heap_later hd hbel
    have hy : (Instr.yield (b + 1) #[v]).run P A' = .ok (.round (b + 1) fn (a.tmps.setIfInBounds p v) assign body) A' := by
      have h := run_yield (P := P) (args := #[v]) hl' (by rw [hrc]; rfl)
      rw [hrc] at h
      simpa using h
    obtain ⟨W, hW⟩ : ∃ W, A'.putObj (b + 1) (.loop { rc .ready none with state := .busy }) = W := ⟨_, rfl⟩
    have hbr := run_beginRound (P := P) hl' (by rw [hrc])
    rw [hW] at hbr
    have hgw : A.grownBy W (some (b + 1)) := by rw [← hW]; exact grown_seq (grown_of_below hbel _) (grownBy_putObj' A' (b + 1) _)
    have hw1 : W.heap[b + 1]? = some (.loop { rc .ready none with state := .busy }) := by rw [← hW]; exact World.putObj_heap_same (heap_lt hl')
    have hw0 : W.heap[b]? = some (.deferred (some [])) := by rw [← hW]; exact (World.putObj_heap_other (by omega)).trans hd'
    have how : OwnsI W A.heap.size v M := World.ownsRow.kept hown (by rw [← hW]; exact grownBy_putObj' A' (b + 1) _) (Or.inr (fun e => by
      have h1 := (World.ownsRow.lt hown (b + 1) e).1
      have h2 := heap_lt hl
      omega))
    have hbod := hbody (b + 1) hi pre M v A W hi1 hlo hhi hgw (by omega) ⟨_, hl, rfl⟩ how hok hpl
    have fin : ∀ (jump : Option Code) (W3 : World), KeepsOthers W W3 →
        (Instr.endRound (b + 1) jump).run P W3 = .ok (.bool jump.isNone) (W3.putObj (b + 1) (.loop (rc (if jump.isNone then .ready else .done) jump))) ∧
        (W3.putObj (b + 1) (.loop (rc (if jump.isNone then .ready else .done) jump))).heap[b + 1]? = some (.loop (rc (if jump.isNone then .ready else .done) jump)) ∧
        (W3.putObj (b + 1) (.loop (rc (if jump.isNone then .ready else .done) jump))).heap[b]? = some (.deferred (some [])) ∧ (∃ o : Obj, W3.heap[b + 1]? = some o ∧ o.isCells = false) := fun jump W3 hk => by
      have h3 := hk.same _ _ hw1 rfl
      have hr := run_endRound (P := P) jump h3
      refine ⟨by rw [hrc] at hr ⊢; exact hr, World.putObj_heap_same (heap_lt h3), (World.putObj_heap_other (by omega)).trans (hk.same _ _ hw0 rfl), _, h3, rfl⟩
    -- of the iterator's blocks, and of those that it reads, the statement's own two are none
    have put_keeps : ∀ (X : World) (o : Obj), ItKeeps (fun k => S0 k ∨ V.heap.size ≤ k ∧ k < hi) X (X.putObj (b + 1) o) := fun X o => ⟨by simp, fun k hk _ => World.putObj_heap_other (fun e => by
      rcases hk with h | h
      · have := hS0 k h; omega
      · rw [vsz] at h; omega)⟩
    have wid : ∀ {X Y : World}, ItKeeps (fun k => S0 k ∨ b + 2 ≤ k ∧ k < hi) X Y → ItKeeps (fun k => S0 k ∨ V.heap.size ≤ k ∧ k < hi) X Y := fun h => by rw [vsz]; exact h
    refine YieldAt.anyDepth' (m := n) rfl m ?_
    refine ⟨fn, _, assign, body, hy, roundIn_of_wpIn hfn ?_⟩
    refine hassign (b + 1) v A' _ ?_
    refine ⟨W, hbr, wpIn_mono hbod ?_⟩
    intro e a3 W3 hp
    cases e with
    | normal =>
      obtain ⟨hk, hks, hi3⟩ := hp
      obtain ⟨hr, hl4, hd4, o3, h3, h3'⟩ := fin none W3 hk
      exact ⟨_, _, hr, true, rfl, ⟨fun _ => ⟨hI.put _ hi3 (by omega) h3 h3', hl4, hd4⟩, fun h => (by cases h)⟩, (ItKeeps.trans (by rw [← hW]; exact put_keeps A' _) (wid hks)).trans (put_keeps W3 _)⟩
    | ret =>
      obtain ⟨hk, hks, hi3⟩ := hp
      obtain ⟨hr, hl4, hd4, o3, h3, h3'⟩ := fin (some .ret) W3 hk
      exact ⟨_, _, hr, false, rfl, ⟨fun h => (by cases h), fun _ => ⟨[M], List.prefix_refl _, by simp, hIx.put _ hi3 (by omega) h3 h3', hl4, hd4⟩⟩, (ItKeeps.trans (by rw [← hW]; exact put_keeps A' _) (wid hks)).trans (put_keeps W3 _)⟩
    | exit id => exact hp.elim
    | goto t => exact hp.elim
    | panic ch => exact hp.elim
    | outgrown => exact hp.elim
  refine hcall.mono ?_
  rintro e W2 ⟨⟨v, rfl⟩, hi, bb, _, _, hp⟩
  cases bb with
  | true =>
    obtain ⟨hi2, hl, hd⟩ := hp.1 rfl
    exact ⟨none, _, by have := run_endLoop (P := P) hl (by rw [hrc]; simp); rw [hrc] at this; exact this, hdone b hi _ (by omega) (hI.put _ hi2 (by omega) hl rfl) ((World.putObj_heap_other (by omega)).trans hd)⟩
  | false =>
    obtain ⟨q, hq, hne, hi2, hl, hd⟩ := hp.2 rfl
    exact ⟨some .ret, _, by have := run_endLoop (P := P) hl (by rw [hrc]; simp); rw [hrc] at this; exact this, hstop b hi q _ (by omega) hq hne (hIx.put _ hi2 (by omega) hl rfl) ((World.putObj_heap_other (by omega)).trans hd)⟩

end Go.Proofs.Ytpcajacekmidbaa

namespace Go.Proofs.Ytpcajacekmidbaa
open Go.RowKit Go.Shelf
set_option linter.unusedVariables false
set_option maxRecDepth 100000
set_option linter.unusedSimpArgs false
attribute [local go_sem] Oper.semAt_some

/-- What comes is a tiling, of as many entries as the field has cells. -/
def TilIs (W T : Int) (xs : List Bool) (n : Nat) (M : List Int) : Prop := M.length = n ∧ tok W T xs M = true

end Go.Proofs.Ytpcajacekmidbaa
