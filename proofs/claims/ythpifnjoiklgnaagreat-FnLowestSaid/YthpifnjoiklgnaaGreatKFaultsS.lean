/- Contract of spec.FaultsOf. -/
import Derived.Test.YthpifnjoiklgnaaGreatKDpT
import Derived.Maps.AppendAt
namespace Go.Proofs.YthpifnjoiklgnaaGreat
open Go.RowKit Go.Maps
set_option linter.unusedVariables false
set_option maxRecDepth 100000
set_option linter.unusedSimpArgs false

def castL (S : List Nat) : List Int := S.map fun s : Nat => (s : Int)
theorem castL_len (S : List Nat) : (castL S).length = S.length := by simp [castL]
theorem castL_get (S : List Nat) (i : Nat) : (castL S).getD i 0 = ((S.getD i 0 : Nat) : Int) := by
 unfold castL
 rw [List.getD_eq_getElem?_getD, List.getD_eq_getElem?_getD, List.getElem?_map]
 cases S[i]? <;> rfl
theorem castL_snoc (S : List Nat) (o : Nat) : castL (S ++ [o]) = castL S ++ [(o : Int)] := by simp [castL]

def psiN (f : Nat → Nat) (S : List Nat) (C : List Int) : Nat → Int
 | 0 => 0
 | i + 1 => psiN f S C i + C.getD i 0 * (f (S.getD i 0) : Int)

theorem psiN_congr {f : Nat → Nat} {S S' : List Nat} {C C' : List Int} : ∀ {n : Nat}, (∀ i, i < n → S.getD i 0 = S'.getD i 0 ∧ C.getD i 0 = C'.getD i 0) → psiN f S C n = psiN f S' C' n
 | 0, _ => rfl
 | n + 1, h => by
   obtain ⟨h1, h2⟩ := h n (by omega)
   simp only [psiN]
   rw [psiN_congr (n := n) (fun i hi => h i (by omega)), h1, h2]

theorem getD_snoc_lt {α : Type} {l : List α} {x d : α} {i : Nat} (h : i < l.length) : (l ++ [x]).getD i d = l.getD i d := by
 simp [List.getD_eq_getElem?_getD, List.getElem?_append_left h]
theorem getD_snoc_at {α : Type} {l : List α} {x d : α} : (l ++ [x]).getD l.length d = x := by
 simp [List.getD_eq_getElem?_getD]

theorem psiN_snoc {f : Nat → Nat} {S : List Nat} {C : List Int} {s : Nat} {c : Int} (h : C.length = S.length) : psiN f (S ++ [s]) (C ++ [c]) (S.length + 1) = psiN f S C S.length + c * (f s : Int) := by
 simp only [psiN]
 rw [psiN_congr (S' := S) (C' := C) (fun i hi => ⟨getD_snoc_lt hi, getD_snoc_lt (by rw [h]; exact hi)⟩), getD_snoc_at]
 have e : (C ++ [c]).getD S.length 0 = c := by rw [← h]; exact getD_snoc_at
 rw [e]

theorem getD_set_ne {l : List Int} {p i : Nat} {v : Int} (h : i ≠ p) : (l.set p v).getD i 0 = l.getD i 0 := by
 simp [List.getD_eq_getElem?_getD, List.getElem?_set, Ne.symm h]
theorem getD_set_at {l : List Int} {p : Nat} {v : Int} (h : p < l.length) : (l.set p v).getD p 0 = v := by
 simp [List.getD_eq_getElem?_getD, List.getElem?_set, h]

theorem psiN_set {f : Nat → Nat} {S : List Nat} {C : List Int} {p : Nat} {v : Int} (hp : p < C.length) : ∀ {n : Nat}, p < n → psiN f S (C.set p v) n = psiN f S C n + (v - C.getD p 0) * (f (S.getD p 0) : Int)
 | 0, h => absurd h (Nat.not_lt_zero _)
 | n + 1, h => by
   simp only [psiN]
   by_cases e : p = n
   · subst e
     rw [psiN_congr (S' := S) (C' := C) (fun i hi => ⟨rfl, getD_set_ne (by omega)⟩), getD_set_at hp, Int.sub_mul]
     omega
   · rw [psiN_set hp (n := n) (by omega), getD_set_ne (fun h => e h.symm)]
     omega

theorem psiN_add {f : Nat → Nat} {S : List Nat} {C : List Int} {p o : Nat} {c : Int} (hp : p < S.length) (hl : C.length = S.length) (ho : S.getD p 0 = o) :
 Eqv (psiN f S (C.set p (wrap64 (C.getD p 0 + c))) S.length) (psiN f S C S.length + c * (f o : Int)) := by
 rw [psiN_set (by omega) hp, ho]
 exact eqv_put
theorem psiN_new {f : Nat → Nat} {S : List Nat} {C : List Int} {o : Nat} (hl : C.length = S.length) : psiN f (S ++ [o]) (C ++ [0]) (S.length + 1) = psiN f S C S.length := by
 rw [psiN_snoc hl]; omega

def Sep (v u : Value) : Prop := ∀ b, v.ownBlock = some b → u.ownBlock ≠ some b
theorem Sep.symm {v u : Value} (h : Sep v u) : Sep u v := fun b hb hv => h b hv hb
theorem Sep.new {w : World} {B : Nat} {v u v' : Value} {xs : List Int} (h : Sep v u) (hu : OwnsI w B u xs) (hloc : v'.ownBlock = v.ownBlock ∨ v'.ownBlock = some w.heap.size) : Sep v' u := by
 intro b hb hu'
 rcases hloc with e | e
 · exact h b (by rw [← e]; exact hb) hu'
 · rw [e] at hb
   have e2 := Option.some.inj hb
   have := OwnsI.blkLt hu b hu'
   omega
theorem OwnsI.keptSep {w w' : World} {B : Nat} {u v : Value} {xs : List Int} (h : OwnsI w B u xs) (hg : w.grownBy w' v.ownBlock) (hs : Sep v u) : OwnsI w' B u xs := by
 refine World.ownsRow.kept h hg ?_
 cases hu : u.ownBlock with
 | none => exact Or.inl rfl
 | some b =>
   right
   intro e
   exact hs b e.symm hu
theorem OwnsI.later' {w w' : World} {B : Nat} {v : Value} {xs : List Int} (h : OwnsI w B v xs) (hb : Below w.heap.size w w') : OwnsI w' B v xs := h.below hb
theorem OwnsI.drew1 {w : World} {B : Nat} {v : Value} {xs : List Int} (h : OwnsI w B v xs) : OwnsI w.drew B v xs := h
theorem Sep.of_base {w w' : World} {B : Nat} {v u : Value} {xs ys : List Int} (hv : OwnsI w B v xs) (hu : OwnsI w' w.heap.size u ys) : Sep v u := by
 intro b hb hu'
 have h1 := OwnsI.blkLt hv b hb
 have h2 := (World.ownsRow.lt hu b hu').1
 omega

theorem step_old {f : Nat → Nat} {S : List Nat} {C : List Int} {p o q : Nat} {c P : Int} {l : List Nat} (hl : C.length = S.length) (h : Eqv (psiN f S C S.length) (P + c * (sumTo f l q : Int))) (hq : q < l.length) (ho : o = l.getD q 0) (hp : p < S.length) (hpo : S.getD p 0 = o) :
 Eqv (psiN f S (C.set p (wrap64 (C.getD p 0 + c))) S.length) (P + c * (sumTo f l (q + 1) : Int)) := by
 refine (psiN_add hp hl hpo).trans ?_
 rw [sumTo_succ f l q hq, ← ho, Int.natCast_add, Int.mul_add, ← Int.add_assoc]
 exact h.add (Eqv.refl _)
theorem step_new {f : Nat → Nat} {S : List Nat} {C : List Int} {o q : Nat} {c P : Int} {l : List Nat} (hl : C.length = S.length) (h : Eqv (psiN f S C S.length) (P + c * (sumTo f l q : Int))) (hq : q < l.length) (ho : o = l.getD q 0) :
 Eqv (psiN f (S ++ [o]) ((C ++ [0]).set S.length (wrap64 c)) (S ++ [o]).length) (P + c * (sumTo f l (q + 1) : Int)) := by
 have e1 : (C ++ [0]).getD S.length 0 = (0 : Int) := by rw [← hl]; exact getD_snoc_at
 have e2 : (S ++ [o]).length = S.length + 1 := by simp
 have h1 := step_old (f := f) (S := S ++ [o]) (C := C ++ [0]) (p := S.length) (o := o) (q := q) (c := c) (P := P) (l := l) (by simp [hl]) (by rw [e2, psiN_new hl]; exact h) hq ho (by simp) getD_snoc_at
 rw [e1, Int.zero_add] at h1
 exact h1
theorem bound_snoc {S : List Nat} {o B : Nat} (h : ∀ q, q < S.length → S.getD q 0 < B) (ho : o < B) : ∀ q, q < (S ++ [o]).length → (S ++ [o]).getD q 0 < B := by
 intro q hq
 by_cases e : q < S.length
 · rw [getD_snoc_lt e]; exact h q e
 · have : q = S.length := by simp at hq; omega
   subst this
   rw [getD_snoc_at]; exact ho

end Go.Proofs.YthpifnjoiklgnaaGreat

namespace Go.Proofs.YthpifnjoiklgnaaGreat
open Go.RowKit
set_option linter.unusedVariables false
set_option maxRecDepth 100000
set_option linter.unusedSimpArgs false

theorem own_nil_lit (w : World) {B : Nat} (hB : B ≤ w.heap.size) : OwnsI (w.alloc (.cells #[] 3 (0, 0))) B (.slice (some ⟨w.heap.size, 0, none⟩) 0 0) [] :=
 World.ownsRow_made w #[] 0 hB (Nat.zero_le _) rfl

end Go.Proofs.YthpifnjoiklgnaaGreat
